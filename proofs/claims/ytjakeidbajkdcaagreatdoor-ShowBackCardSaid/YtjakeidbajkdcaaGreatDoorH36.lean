/- Joined by program. -/
import Derived.Test.YtjakeidbajkdcaaGreatDoorH34
import Derived.Test.YtjakeidbajkdcaaGreatDoorH35
import Derived.Test.YtjakeidbajkdcaaGreatDoorH26
import Derived.Test.YtjakeidbajkdcaaGreatDoorH27
import Derived.Deep.RegionWith
import Derived.LoopTactic
import Derived.OwnWalk
set_option maxRecDepth 100000
set_option maxHeartbeats 1000000
namespace Go.Proofs.YtjakeidbajkdcaaGreatDoor.L
open Go.RowKit
theorem row_form {W : World} {base : Nat} {e : TypeId} {size : Nat} {v : Value} {k : Nat} {xs : List Value} (h : W.ownsRow base e size v k xs) : ∃ A cap, v = .slice A k cap := by
  rcases h.2 with ⟨rfl, h0⟩ | ⟨g, cap, _, rfl, _⟩
  · exact ⟨none, 0, by rw [h0]⟩
  · exact ⟨_, _, rfl⟩
theorem row_pos {W : World} {base : Nat} {e : TypeId} {size : Nat} {v : Value} {k : Nat} {xs : List Value} (h : W.ownsRow base e size v k xs) (hk : 0 < k) : ∃ g cap, v = .slice (some ⟨g, 0, none⟩) k cap := by
  obtain ⟨j, rfl⟩ : ∃ j, k = j + 1 := ⟨k - 1, by omega⟩
  exact ownsRow_succ h
def HoldsT (w : World) (g : Nat) (l : List Item) : Prop := ∀ j x, l[j]? = some x -> w.cell? ⟨g, j * 4, none⟩ = some (.int .i64 x.1.k) /\ w.cell? ⟨g, j * 4 + 1, none⟩ = some (.string x.1.t) /\ w.cell? ⟨g, j * 4 + 2, none⟩ = some (.int .i64 x.1.n) /\ w.cell? ⟨g, j * 4 + 3, none⟩ = some (.int .i64 (x.2 : Int))
theorem holdsT_of {W : World} {base : Nat} {l : List Item} {g cap : Nat} (h : W.ownsRow base 63 4 (.slice (some ⟨g, 0, none⟩) l.length cap) l.length (cellsL l)) : HoldsT W g l := fun j x hx => by
  obtain ⟨c0, c1, c2, c3⟩ := cells_at l j x hx
  have a0 := World.ownsRow.cells h (g := g) rfl _ _ c0
  have a1 := World.ownsRow.cells h (g := g) rfl _ _ c1
  have a2 := World.ownsRow.cells h (g := g) rfl _ _ c2
  have a3 := World.ownsRow.cells h (g := g) rfl _ _ c3
  rw [Addr.add_lit, Nat.zero_add] at a0 a1 a2 a3
  exact ⟨a0, a1, a2, a3⟩
theorem holdsT_below {W W' : World} {g : Nat} {l : List Item} (h : HoldsT W g l) (hb : Below W.heap.size W W') (hg : g < W.heap.size) : HoldsT W' g l := fun j x hx => by
  obtain ⟨a0, a1, a2, a3⟩ := h j x hx
  exact ⟨(hb.cell (p := ⟨g, _, none⟩) hg).trans a0, (hb.cell (p := ⟨g, _, none⟩) hg).trans a1, (hb.cell (p := ⟨g, _, none⟩) hg).trans a2, (hb.cell (p := ⟨g, _, none⟩) hg).trans a3⟩
theorem row_lt {W : World} {base : Nat} {e : TypeId} {size k cap g : Nat} {xs : List Value} (h : W.ownsRow base e size (.slice (some ⟨g, 0, none⟩) k cap) k xs) : g < W.heap.size := by
  rcases h.2 with ⟨h, _⟩ | ⟨g', cap', cur, h, _, hh, _⟩
  · cases h
  · cases h; exact (Array.getElem?_eq_some_iff.1 hh).1
open Go.RowKit
theorem peek_nil (w : World) : Calls Tryz.prog 46 #[.pointer none] w fun e w' => e = .returned (.agg #[.int .i64 0, .string ⟨#[]⟩, .int .i64 0, .int .i64 0]) /\ Below w.heap.size w w' := by
  go_enter Tryz.func46, Tryz.ntmps46
  go_wp2
  exact bodyPost_ret (v := .agg #[.int .i64 0, .string ⟨#[]⟩, .int .i64 0, .int .i64 0]) (by simp [results, Tryz.results46, go_sem]) rfl ⟨rfl, (Below.refl _ w).alloc (Nat.le_refl _) _⟩
theorem done_nil (w : World) : Calls Tryz.prog 54 #[.pointer none] w fun e w' => e = .returned (.bool true) /\ w = w' := by
  go_enter Tryz.func54, Tryz.ntmps54
  go_wp2
  go_ret
  exact ⟨rfl, rfl⟩
theorem next_nil (w : World) : Calls Tryz.prog 125 #[.pointer none] w fun e w' => e = .returned (.agg #[.int .i64 0, .string ⟨#[]⟩, .int .i64 0, .int .i64 0]) /\ Below w.heap.size w w' := by
  go_enter Tryz.func125, Tryz.ntmps125
  go_wp2_with (first | (go_at_call 46; refine (peek_nil _).mono ?_; rintro e w1 ⟨rfl, hb1⟩; have hb := hb1.alloc hb1.size (.cells #[.int .i64 0, .string ⟨#[]⟩, .int .i64 0, .int .i64 0] 63); obtain ⟨hc, hf⟩ := bcell hb) | (go_at_call 54; refine (done_nil _).mono ?_; rintro e w' ⟨rfl, rfl⟩))
  exact bodyPost_ret (v := .agg #[.int .i64 0, .string ⟨#[]⟩, .int .i64 0, .int .i64 0]) (by simp [results, Tryz.results125, go_sem, hc]) rfl ⟨rfl, below4 (Nat.le_refl _) hb (by simp) _ _ _ _⟩
def Rd (W : World) (b : Nat) (A : Option Addr) (m c : Nat) (n : Int) : Prop := Blk W b #[.slice A m c, .int .i64 n] 82
theorem Rd.facts {W : World} {b : Nat} {A : Option Addr} {m c : Nat} {n : Int} (h : Rd W b A m c n) : W.cell? ⟨b, 0, none⟩ = some (.slice A m c) /\ W.cell? ⟨b, 1, none⟩ = some (.int .i64 n) /\ W.frozen? ⟨b, 0, none⟩ = false /\ b < W.heap.size :=
  ⟨(Blk.cell h 0).trans rfl, (Blk.cell h 1).trans rfl, by simp [World.frozen?, show W.heap[b]? = _ from h], Blk.lt h⟩
theorem done_end (w : World) (b : Nat) (A : Option Addr) (c : Nat) (n : Int) (h : Rd w b A 0 c n) : Calls Tryz.prog 54 #[.pointer (some ⟨b, 0, none⟩)] w fun e w' => e = .returned (.bool true) /\ w = w' := by
  obtain ⟨h0, _, _, _⟩ := h.facts
  go_enter Tryz.func54, Tryz.ntmps54
  go_wp2
  go_ret
  exact ⟨rfl, rfl⟩
theorem done_no (w : World) (b : Nat) (A : Option Addr) (m c : Nat) (n : Int) (h : Rd w b A (m + 1) c n) : Calls Tryz.prog 54 #[.pointer (some ⟨b, 0, none⟩)] w fun e w' => e = .returned (.bool false) /\ w = w' := by
  obtain ⟨h0, _, _, _⟩ := h.facts
  go_enter Tryz.func54, Tryz.ntmps54
  go_wp2
  go_ret
  exact ⟨rfl, rfl⟩
theorem peek_end (w : World) (b : Nat) (A : Option Addr) (c : Nat) (n : Int) (h : Rd w b A 0 c n) : Calls Tryz.prog 46 #[.pointer (some ⟨b, 0, none⟩)] w fun e w' => e = .returned (.agg #[.int .i64 0, .string ⟨#[]⟩, .int .i64 0, .int .i64 n]) /\ Below w.heap.size w w' := by
  obtain ⟨h0, h1, _, hlt⟩ := h.facts
  have HD := Lib.hid (fun w1 (hb : Below w.heap.size w w1) => done_end w1 b A c n ((hb.block b hlt).trans h))
  clear h
  go_enter Tryz.func46, Tryz.ntmps46
  go_wp2_with (go_at_call 54; refine (HD.out _ ((Below.refl _ _).alloc (Nat.le_refl _) _)).mono ?_; rintro e w' ⟨rfl, rfl⟩)
  exact bodyPost_ret (v := .agg #[.int .i64 0, .string ⟨#[]⟩, .int .i64 0, .int .i64 n]) (by simp [results, Tryz.results46, go_sem]) rfl ⟨rfl, (Below.refl _ w).alloc (Nat.le_refl _) _⟩
def At4 (W : World) (g o : Nat) (x : Item) : Prop := W.cell? ⟨g, o, none⟩ = some (.int .i64 x.1.k) /\ W.cell? ⟨g, o + 1, none⟩ = some (.string x.1.t) /\ W.cell? ⟨g, o + 2, none⟩ = some (.int .i64 x.1.n) /\ W.cell? ⟨g, o + 3, none⟩ = some (.int .i64 (x.2 : Int))
theorem At4.below {W W' : World} {g o : Nat} {x : Item} (h : At4 W g o x) (hb : Below W.heap.size W W') (hg : g < W.heap.size) : At4 W' g o x :=
  ⟨(hb.cell (p := ⟨g, _, none⟩) hg).trans h.1, (hb.cell (p := ⟨g, _, none⟩) hg).trans h.2.1, (hb.cell (p := ⟨g, _, none⟩) hg).trans h.2.2.1, (hb.cell (p := ⟨g, _, none⟩) hg).trans h.2.2.2⟩
theorem peek_rd (w : World) (b g o m c : Nat) (n : Int) (x : Item) (h : Rd w b (some ⟨g, o, none⟩) (m + 1) c n) (hx : At4 w g o x) (hg : g < w.heap.size) :
    Calls Tryz.prog 46 #[.pointer (some ⟨b, 0, none⟩)] w fun e w' => e = .returned (.agg #[.int .i64 x.1.k, .string x.1.t, .int .i64 x.1.n, .int .i64 (x.2 : Int)]) /\ Below w.heap.size w w' := by
  obtain ⟨h0, h1, _, hlt⟩ := h.facts
  obtain ⟨x0, x1, x2, x3⟩ := hx
  have HD := Lib.hid (fun w1 (hb : Below w.heap.size w w1) => done_no w1 b (some ⟨g, o, none⟩) m c n ((hb.block b hlt).trans h))
  clear h
  go_enter Tryz.func46, Tryz.ntmps46
  go_wp2_with (go_at_call 54; refine (HD.out _ ((Below.refl _ _).alloc (Nat.le_refl _) _)).mono ?_; rintro e w' ⟨rfl, rfl⟩)
  exact bodyPost_ret (v := .agg #[.int .i64 x.1.k, .string x.1.t, .int .i64 x.1.n, .int .i64 (x.2 : Int)]) (by simp [results, Tryz.results46, go_sem]) rfl ⟨rfl, (Below.refl _ w).alloc (Nat.le_refl _) _⟩
theorem next_end (w : World) (b : Nat) (A : Option Addr) (c : Nat) (n : Int) (h : Rd w b A 0 c n) : Calls Tryz.prog 125 #[.pointer (some ⟨b, 0, none⟩)] w fun e w' => e = .returned (.agg #[.int .i64 0, .string ⟨#[]⟩, .int .i64 0, .int .i64 n]) /\ Below w.heap.size w w' := by
  obtain ⟨_, _, _, hlt⟩ := h.facts
  have HP := Lib.hid (fun w1 (hb : Below w.heap.size w w1) => peek_end w1 b A c n ((hb.block b hlt).trans h))
  have HD := Lib.hid (fun w1 (hb : Below w.heap.size w w1) => done_end w1 b A c n ((hb.block b hlt).trans h))
  clear h
  go_enter Tryz.func125, Tryz.ntmps125
  go_wp2_with (first | (go_at_call 46; refine (HP.out _ ((Below.refl _ _).alloc (Nat.le_refl _) _)).mono ?_; rintro e w1 ⟨rfl, hb1⟩; have hb := hb1.alloc hb1.size (.cells #[.int .i64 0, .string ⟨#[]⟩, .int .i64 0, .int .i64 n] 63); obtain ⟨hc, hf⟩ := bcell hb; have HB := Lib.hid (((Below.refl w.heap.size w).alloc (Nat.le_refl _) (.cells #[.int .i64 0, .string ⟨#[]⟩, .int .i64 0, .int .i64 0] 63)).trans (hb.mono (by simp)))) | (go_at_call 54; refine (HD.out _ HB.out).mono ?_; rintro e w' ⟨rfl, rfl⟩))
  exact bodyPost_ret (v := .agg #[.int .i64 0, .string ⟨#[]⟩, .int .i64 0, .int .i64 n]) (by simp [results, Tryz.results125, go_sem, hc]) rfl ⟨rfl, below4 (Nat.le_refl _) hb (by simp) _ _ _ _⟩
theorem oth (W : World) (b k : Nat) (h : k ≠ b) (v : Value) : (∀ j, (W.setCell ⟨b, 0, none⟩ v).cell? ⟨k, j, none⟩ = W.cell? ⟨k, j, none⟩) /\ (∀ j, (W.setCell ⟨b, 0, none⟩ v).frozen? ⟨k, j, none⟩ = W.frozen? ⟨k, j, none⟩) := by
  have hh : (W.setCell ⟨b, 0, none⟩ v).heap[k]? = W.heap[k]? := Below.heap_setCell _ _ _ k h
  exact ⟨fun j => World.cell?_of_block (a := ⟨k, j, none⟩) hh, fun j => World.frozen?_of_block (a := ⟨k, j, none⟩) hh⟩
theorem rd_set {W : World} {b : Nat} {A A' : Option Addr} {m c m' c' : Nat} {n : Int} (h : Rd W b A m c n) : Rd (W.setCell ⟨b, 0, none⟩ (.slice A' m' c')) b A' m' c' n := by
  obtain ⟨hlt, hk⟩ := Array.getElem?_eq_some_iff.1 h
  show (W.heap.modify b _)[b]? = _
  rw [Array.getElem?_eq_getElem (by rw [Array.size_modify]; exact hlt), Array.getElem_modify_self, hk]
  rfl
theorem rd_four {W : World} {b k : Nat} {A : Option Addr} {m c : Nat} {n : Int} (h : Rd W b A m c n) (hk : b ≠ k) (v0 v1 v2 v3 : Value) : Rd ((((W.setCell ⟨k, 0, none⟩ v0).setCell ⟨k, 1, none⟩ v1).setCell ⟨k, 2, none⟩ v2).setCell ⟨k, 3, none⟩ v3) b A m c n :=
  (Below.heap_setCell _ _ _ b hk).trans ((Below.heap_setCell _ _ _ b hk).trans ((Below.heap_setCell _ _ _ b hk).trans ((Below.heap_setCell _ _ _ b hk).trans h)))
theorem next_rd (w : World) (b g o m c : Nat) (n : Int) (x : Item) (h : Rd w b (some ⟨g, o, none⟩) (m + 1) (c + 1) n) (hx : At4 w g o x) (hg : g < w.heap.size) (hm : m + 1 <= 1000000) (hc0 : 0 < c) :
    Calls Tryz.prog 125 #[.pointer (some ⟨b, 0, none⟩)] w fun e w' => e = .returned (.agg #[.int .i64 x.1.k, .string x.1.t, .int .i64 x.1.n, .int .i64 (x.2 : Int)]) /\ Below b w w' /\ Rd w' b (some ⟨g, o + 4, none⟩) m c n := by
  obtain ⟨h0, h1, hf0, hlt⟩ := h.facts
  have HP := Lib.hid (fun w1 (hb : Below w.heap.size w w1) => peek_rd w1 b g o m (c + 1) n x ((hb.block b hlt).trans h) (hx.below hb hg) (Nat.lt_of_lt_of_le hg hb.size))
  have HD := Lib.hid (fun w1 (hb : Below w.heap.size w w1) => done_no w1 b (some ⟨g, o, none⟩) m (c + 1) n ((hb.block b hlt).trans h))
  have HRD := Lib.hid (fun w1 (hb : Below w.heap.size w w1) => (show Rd w1 b (some ⟨g, o, none⟩) (m + 1) (c + 1) n from (hb.block b hlt).trans h))
  clear h hx
  go_enter Tryz.func125, Tryz.ntmps125
  go_wp2_with (first | (go_at_call 46; refine (HP.out _ ((Below.refl _ _).alloc (Nat.le_refl _) _)).mono ?_; rintro e w1 ⟨rfl, hb1⟩; have hb := hb1.alloc hb1.size (.cells #[.int .i64 x.1.k, .string x.1.t, .int .i64 x.1.n, .int .i64 (x.2 : Int)] 63); obtain ⟨hc, hf⟩ := bcell hb; have HB := Lib.hid (((Below.refl w.heap.size w).alloc (Nat.le_refl _) (.cells #[.int .i64 0, .string ⟨#[]⟩, .int .i64 0, .int .i64 0] 63)).trans (hb.mono (by simp))); obtain ⟨r0, r1, rf, rlt⟩ := (HRD.out _ HB.out).facts; have hz := hb1.size; simp at hz; obtain ⟨k1, j1⟩ := oth (w1.alloc (.cells #[.int .i64 x.1.k, .string x.1.t, .int .i64 x.1.n, .int .i64 (x.2 : Int)] 63)) b w1.heap.size (by omega) (.slice (some ⟨g, o + 4, none⟩) m c); obtain ⟨k2, j2⟩ := oth (w1.alloc (.cells #[.int .i64 x.1.k, .string x.1.t, .int .i64 x.1.n, .int .i64 (x.2 : Int)] 63)) b w.heap.size (by omega) (.slice (some ⟨g, o + 4, none⟩) m c)) | (go_at_call 54; refine (HD.out _ HB.out).mono ?_; rintro e w' ⟨rfl, rfl⟩))
  refine bodyPost_ret (v := .agg #[.int .i64 x.1.k, .string x.1.t, .int .i64 x.1.n, .int .i64 (x.2 : Int)]) (by simp [results, Tryz.results125, go_sem, hc, k2]) rfl ⟨rfl, ?_, rd_four (rd_set (HRD.out _ HB.out)) (by omega) _ _ _ _⟩
  have h1 := ((Below.refl b w).alloc (by omega) (.cells #[.int .i64 0, .string ⟨#[]⟩, .int .i64 0, .int .i64 0] 63)).trans (hb.mono (by simp; omega))
  exact ((((h1.setCell (p := ⟨b, 0, none⟩) (Nat.le_refl _) _).setCell (p := ⟨w.heap.size, 0, none⟩) (by simp; omega) _).setCell (p := ⟨w.heap.size, 1, none⟩) (by simp; omega) _).setCell (p := ⟨w.heap.size, 2, none⟩) (by simp; omega) _).setCell (p := ⟨w.heap.size, 3, none⟩) (by simp; omega) _
theorem next_last (w : World) (b g o : Nat) (n : Int) (x : Item) (h : Rd w b (some ⟨g, o, none⟩) 1 1 n) (hx : At4 w g o x) (hg : g < w.heap.size) :
    Calls Tryz.prog 125 #[.pointer (some ⟨b, 0, none⟩)] w fun e w' => e = .returned (.agg #[.int .i64 x.1.k, .string x.1.t, .int .i64 x.1.n, .int .i64 (x.2 : Int)]) /\ Below b w w' /\ Rd w' b (some ⟨g, o, none⟩) 0 0 n := by
  obtain ⟨h0, h1, hf0, hlt⟩ := h.facts
  have HP := Lib.hid (fun w1 (hb : Below w.heap.size w w1) => peek_rd w1 b g o 0 1 n x ((hb.block b hlt).trans h) (hx.below hb hg) (Nat.lt_of_lt_of_le hg hb.size))
  have HD := Lib.hid (fun w1 (hb : Below w.heap.size w w1) => done_no w1 b (some ⟨g, o, none⟩) 0 1 n ((hb.block b hlt).trans h))
  have HRD := Lib.hid (fun w1 (hb : Below w.heap.size w w1) => (show Rd w1 b (some ⟨g, o, none⟩) 1 1 n from (hb.block b hlt).trans h))
  clear h hx
  go_enter Tryz.func125, Tryz.ntmps125
  go_wp2_with (first | (go_at_call 46; refine (HP.out _ ((Below.refl _ _).alloc (Nat.le_refl _) _)).mono ?_; rintro e w1 ⟨rfl, hb1⟩; have hb := hb1.alloc hb1.size (.cells #[.int .i64 x.1.k, .string x.1.t, .int .i64 x.1.n, .int .i64 (x.2 : Int)] 63); obtain ⟨hc, hf⟩ := bcell hb; have HB := Lib.hid (((Below.refl w.heap.size w).alloc (Nat.le_refl _) (.cells #[.int .i64 0, .string ⟨#[]⟩, .int .i64 0, .int .i64 0] 63)).trans (hb.mono (by simp))); obtain ⟨r0, r1, rf, rlt⟩ := (HRD.out _ HB.out).facts; have hz := hb1.size; simp at hz; obtain ⟨k1, j1⟩ := oth (w1.alloc (.cells #[.int .i64 x.1.k, .string x.1.t, .int .i64 x.1.n, .int .i64 (x.2 : Int)] 63)) b w1.heap.size (by omega) (.slice (some ⟨g, o, none⟩) 0 0); obtain ⟨k2, j2⟩ := oth (w1.alloc (.cells #[.int .i64 x.1.k, .string x.1.t, .int .i64 x.1.n, .int .i64 (x.2 : Int)] 63)) b w.heap.size (by omega) (.slice (some ⟨g, o, none⟩) 0 0)) | (go_at_call 54; refine (HD.out _ HB.out).mono ?_; rintro e w' ⟨rfl, rfl⟩))
  refine bodyPost_ret (v := .agg #[.int .i64 x.1.k, .string x.1.t, .int .i64 x.1.n, .int .i64 (x.2 : Int)]) (by simp [results, Tryz.results125, go_sem, hc, k2]) rfl ⟨rfl, ?_, rd_four (rd_set (HRD.out _ HB.out)) (by omega) _ _ _ _⟩
  have h1 := ((Below.refl b w).alloc (by omega) (.cells #[.int .i64 0, .string ⟨#[]⟩, .int .i64 0, .int .i64 0] 63)).trans (hb.mono (by simp; omega))
  exact ((((h1.setCell (p := ⟨b, 0, none⟩) (Nat.le_refl _) _).setCell (p := ⟨w.heap.size, 0, none⟩) (by simp; omega) _).setCell (p := ⟨w.heap.size, 1, none⟩) (by simp; omega) _).setCell (p := ⟨w.heap.size, 2, none⟩) (by simp; omega) _).setCell (p := ⟨w.heap.size, 3, none⟩) (by simp; omega) _
end Go.Proofs.YtjakeidbajkdcaaGreatDoor.L
