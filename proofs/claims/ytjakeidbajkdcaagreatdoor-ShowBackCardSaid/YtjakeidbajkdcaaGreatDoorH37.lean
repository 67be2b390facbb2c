/- Joined by program. -/
import Derived.Test.YtjakeidbajkdcaaGreatDoorH32
import Derived.Test.YtjakeidbajkdcaaGreatDoorH36
import Derived.Test.YtjakeidbajkdcaaGreatDoorH10
import Derived.Test.YtjakeidbajkdcaaGreatDoorH18
import Derived.Test.YtjakeidbajkdcaaGreatDoorH13
import Derived.RegionTactic
import Derived.Deep.RegionLaw
set_option maxRecDepth 100000
set_option maxHeartbeats 4000000
namespace Go.Proofs.YtjakeidbajkdcaaGreatDoor.A
open T Go.RowKit
def tkArr (t : Tk) : Array Value := #[.int .i64 t.k, .string t.s, .int .i64 t.n, .int .i64 t.p]
def TAt (w : World) (g o : Nat) (t : Tk) : Prop := w.cell? ⟨g, o, none⟩ = some (.int .i64 t.k) /\ w.cell? ⟨g, o + 1, none⟩ = some (.string t.s) /\ w.cell? ⟨g, o + 2, none⟩ = some (.int .i64 t.n) /\ w.cell? ⟨g, o + 3, none⟩ = some (.int .i64 t.p)
theorem TAt.below {W W' : World} {g o : Nat} {x : Tk} (h : TAt W g o x) (hb : Below W.heap.size W W') (hg : g < W.heap.size) : TAt W' g o x :=
  ⟨(hb.cell (p := ⟨g, _, none⟩) hg).trans h.1, (hb.cell (p := ⟨g, _, none⟩) hg).trans h.2.1, (hb.cell (p := ⟨g, _, none⟩) hg).trans h.2.2.1, (hb.cell (p := ⟨g, _, none⟩) hg).trans h.2.2.2⟩
theorem TkRow.head {w : World} {g o : Nat} {t : Tk} {l : List Tk} (h : TkRow w g o (t :: l)) : TAt w g o t := by
  have := h 0 t rfl
  simpa [TAt] using this
def hdT (l : List Tk) (E : Int) : Tk := match l with | [] => ⟨0, ⟨#[]⟩, 0, E⟩ | t :: _ => t
theorem pk_eq (s : PS) : s.pk = hdT s.l s.E := rfl
theorem peek_rd (w : World) (b g o m c : Nat) (n : Int) (t : Tk) (h : L.Rd w b (some ⟨g, o, none⟩) (m + 1) c n) (hx : TAt w g o t) (hg : g < w.heap.size) :
    Calls Tryz.prog 46 #[.pointer (some ⟨b, 0, none⟩)] w fun e w' => e = .returned (.agg #[.int .i64 t.k, .string t.s, .int .i64 t.n, .int .i64 t.p]) /\ Below w.heap.size w w' := by
  obtain ⟨h0, h1, _, hlt⟩ := h.facts
  obtain ⟨x0, x1, x2, x3⟩ := hx
  have HD := Lib.hid (fun w1 (hb : Below w.heap.size w w1) => L.done_no w1 b (some ⟨g, o, none⟩) m c n ((hb.block b hlt).trans h))
  clear h
  go_enter Tryz.func46, Tryz.ntmps46
  go_wp2_with (go_at_call 54; refine (HD.out _ ((Below.refl _ _).alloc (Nat.le_refl _) _)).mono ?_; rintro e w' ⟨rfl, rfl⟩)
  exact bodyPost_ret (v := .agg #[.int .i64 t.k, .string t.s, .int .i64 t.n, .int .i64 t.p]) (by simp [results, Tryz.results46, go_sem]) rfl ⟨rfl, (Below.refl _ w).alloc (Nat.le_refl _) _⟩
theorem next_rd (w : World) (b g o m c : Nat) (n : Int) (t : Tk) (h : L.Rd w b (some ⟨g, o, none⟩) (m + 1) (c + 1) n) (hx : TAt w g o t) (hg : g < w.heap.size) (hm : m + 1 <= 1000000) (hc0 : 0 < c) :
    Calls Tryz.prog 125 #[.pointer (some ⟨b, 0, none⟩)] w fun e w' => e = .returned (.agg #[.int .i64 t.k, .string t.s, .int .i64 t.n, .int .i64 t.p]) /\ Fr (fun k => k = b) w w' /\ L.Rd w' b (some ⟨g, o + 4, none⟩) m c n := by
  obtain ⟨h0, h1, hf0, hlt⟩ := h.facts
  have HP := Lib.hid (fun w1 (hb : Below w.heap.size w w1) => peek_rd w1 b g o m (c + 1)  n t ((hb.block b hlt).trans h) (hx.below hb hg) (Nat.lt_of_lt_of_le hg hb.size))
  have HD := Lib.hid (fun w1 (hb : Below w.heap.size w w1) => L.done_no w1 b (some ⟨g, o, none⟩) m (c + 1) n ((hb.block b hlt).trans h))
  have HRD := Lib.hid (fun w1 (hb : Below w.heap.size w w1) => (show L.Rd w1 b (some ⟨g, o, none⟩) (m + 1) (c + 1) n from (hb.block b hlt).trans h))
  clear h hx
  go_enter Tryz.func125, Tryz.ntmps125
  go_wp2_with (first | (go_at_call 46; refine (HP.out _ ((Below.refl _ _).alloc (Nat.le_refl _) _)).mono ?_; rintro e w1 ⟨rfl, hb1⟩; have hb := hb1.alloc hb1.size (.cells #[.int .i64 t.k, .string t.s, .int .i64 t.n, .int .i64 t.p] 63); obtain ⟨hc, hf⟩ := L.bcell hb; have HB := Lib.hid (((Below.refl w.heap.size w).alloc (Nat.le_refl _) (.cells #[.int .i64 0, .string ⟨#[]⟩, .int .i64 0, .int .i64 0] 63)).trans (hb.mono (by simp))); obtain ⟨r0, r1, rf, rlt⟩ := (HRD.out _ HB.out).facts; have hz := hb1.size; simp at hz; obtain ⟨k1, j1⟩ := L.oth (w1.alloc (.cells #[.int .i64 t.k, .string t.s, .int .i64 t.n, .int .i64 t.p] 63)) b w1.heap.size (by omega) (.slice (some ⟨g, o + 4, none⟩) m c); obtain ⟨k2, j2⟩ := L.oth (w1.alloc (.cells #[.int .i64 t.k, .string t.s, .int .i64 t.n, .int .i64 t.p] 63)) b w.heap.size (by omega) (.slice (some ⟨g, o + 4, none⟩) m c)) | (go_at_call 54; refine (HD.out _ HB.out).mono ?_; rintro e w' ⟨rfl, rfl⟩))
  refine bodyPost_ret (v := .agg #[.int .i64 t.k, .string t.s, .int .i64 t.n, .int .i64 t.p]) (by simp [results, Tryz.results125, go_sem, hc, k2]) rfl ⟨rfl, ?_, L.rd_four (L.rd_set (HRD.out _ HB.out)) (by omega) _ _ _ _⟩
  refine Fr.set (b := w.heap.size) ?_ _ (.inr (Nat.le_refl _))
  refine Fr.set (b := w.heap.size) ?_ _ (.inr (Nat.le_refl _))
  refine Fr.set (b := w.heap.size) ?_ _ (.inr (Nat.le_refl _))
  refine Fr.set (b := w.heap.size) ?_ _ (.inr (Nat.le_refl _))
  refine Fr.set (b := b) ?_ _ (.inl rfl)
  exact (Fr.alloc w _).trans (Fr.of_below hb)
theorem next_last (w : World) (b g o : Nat) (n : Int) (t : Tk) (h : L.Rd w b (some ⟨g, o, none⟩) 1 1 n) (hx : TAt w g o t) (hg : g < w.heap.size) :
    Calls Tryz.prog 125 #[.pointer (some ⟨b, 0, none⟩)] w fun e w' => e = .returned (.agg #[.int .i64 t.k, .string t.s, .int .i64 t.n, .int .i64 t.p]) /\ Fr (fun k => k = b) w w' /\ L.Rd w' b (some ⟨g, o, none⟩) 0 0 n := by
  obtain ⟨h0, h1, hf0, hlt⟩ := h.facts
  have HP := Lib.hid (fun w1 (hb : Below w.heap.size w w1) => peek_rd w1 b g o 0 1  n t ((hb.block b hlt).trans h) (hx.below hb hg) (Nat.lt_of_lt_of_le hg hb.size))
  have HD := Lib.hid (fun w1 (hb : Below w.heap.size w w1) => L.done_no w1 b (some ⟨g, o, none⟩) 0 1 n ((hb.block b hlt).trans h))
  have HRD := Lib.hid (fun w1 (hb : Below w.heap.size w w1) => (show L.Rd w1 b (some ⟨g, o, none⟩) 1 1 n from (hb.block b hlt).trans h))
  clear h hx
  go_enter Tryz.func125, Tryz.ntmps125
  go_wp2_with (first | (go_at_call 46; refine (HP.out _ ((Below.refl _ _).alloc (Nat.le_refl _) _)).mono ?_; rintro e w1 ⟨rfl, hb1⟩; have hb := hb1.alloc hb1.size (.cells #[.int .i64 t.k, .string t.s, .int .i64 t.n, .int .i64 t.p] 63); obtain ⟨hc, hf⟩ := L.bcell hb; have HB := Lib.hid (((Below.refl w.heap.size w).alloc (Nat.le_refl _) (.cells #[.int .i64 0, .string ⟨#[]⟩, .int .i64 0, .int .i64 0] 63)).trans (hb.mono (by simp))); obtain ⟨r0, r1, rf, rlt⟩ := (HRD.out _ HB.out).facts; have hz := hb1.size; simp at hz; obtain ⟨k1, j1⟩ := L.oth (w1.alloc (.cells #[.int .i64 t.k, .string t.s, .int .i64 t.n, .int .i64 t.p] 63)) b w1.heap.size (by omega) (.slice (some ⟨g, o, none⟩) 0 0); obtain ⟨k2, j2⟩ := L.oth (w1.alloc (.cells #[.int .i64 t.k, .string t.s, .int .i64 t.n, .int .i64 t.p] 63)) b w.heap.size (by omega) (.slice (some ⟨g, o, none⟩) 0 0)) | (go_at_call 54; refine (HD.out _ HB.out).mono ?_; rintro e w' ⟨rfl, rfl⟩))
  refine bodyPost_ret (v := .agg #[.int .i64 t.k, .string t.s, .int .i64 t.n, .int .i64 t.p]) (by simp [results, Tryz.results125, go_sem, hc, k2]) rfl ⟨rfl, ?_, L.rd_four (L.rd_set (HRD.out _ HB.out)) (by omega) _ _ _ _⟩
  refine Fr.set (b := w.heap.size) ?_ _ (.inr (Nat.le_refl _))
  refine Fr.set (b := w.heap.size) ?_ _ (.inr (Nat.le_refl _))
  refine Fr.set (b := w.heap.size) ?_ _ (.inr (Nat.le_refl _))
  refine Fr.set (b := w.heap.size) ?_ _ (.inr (Nat.le_refl _))
  refine Fr.set (b := b) ?_ _ (.inl rfl)
  exact (Fr.alloc w _).trans (Fr.of_below hb)
theorem Rdr.below {B rb b : Nat} {w w' : World} {p : Option Addr} {l : List Tk} {E : Int} {dead : Bool} (h : Rdr B rb b w p l E dead) (hB : B <= w.heap.size) (hb0 : b < B) (hb : Below w.heap.size w w') : Rdr B rb b w' p l E dead := h.heap (hb.block _ (by omega)) fun g hg _ _ => hb.block g (by omega)
theorem peek_r {B rb b : Nat} (w : World) {p : Option Addr} {l : List Tk} {E : Int} {dead : Bool} (h : Rdr B rb b w p l E dead) (hB : B <= w.heap.size) :
    Calls Tryz.prog 46 #[.pointer p] w fun e w' => e = .returned (.agg (tkArr (hdT l E))) /\ Below w.heap.size w w' := by
  rcases h with ⟨_, rfl, rfl, rfl⟩ | ⟨_, rfl, A, c, h1, h2, h3, h4⟩
  · exact L.peek_nil w
  · cases l with
    | nil => exact L.peek_end w b A c E h1
    | cons t l =>
      obtain ⟨g, o, rfl, g1, _, _, hr⟩ := h4 (by simp)
      exact peek_rd w b g o l.length c E t h1 hr.head (by omega)
theorem done_r {B rb b : Nat} (w : World) {p : Option Addr} {l : List Tk} {E : Int} {dead : Bool} (h : Rdr B rb b w p l E dead) :
    Calls Tryz.prog 54 #[.pointer p] w fun e w' => e = .returned (.bool l.isEmpty) /\ w = w' := by
  rcases h with ⟨_, rfl, rfl, rfl⟩ | ⟨_, rfl, A, c, h1, h2, h3, h4⟩
  · exact L.done_nil w
  · cases l with
    | nil => exact L.done_end w b A c E h1
    | cons t l => exact L.done_no w b A l.length c E h1
theorem next_r {B rb b : Nat} (w : World) {p : Option Addr} {l : List Tk} {E : Int} {dead : Bool} (h : Rdr B rb b w p l E dead) (hB : B <= w.heap.size) (hb0 : b < B) :
    Calls Tryz.prog 125 #[.pointer p] w fun e w' => e = .returned (.agg (tkArr (hdT l E))) /\ Fr (fun k => k = b) w w' /\ Rdr B rb b w' p l.tail E dead := by
  rcases h with ⟨h0, rfl, rfl, rfl⟩ | ⟨h0, rfl, A, c, h1, h2, h3, h4⟩
  · refine (L.next_nil w).mono ?_
    rintro e w' ⟨rfl, hb⟩
    exact ⟨rfl, Fr.of_below hb, .inl ⟨h0, rfl, rfl, rfl⟩⟩
  · cases l with
    | nil =>
      refine (L.next_end w b A c E h1).mono ?_
      rintro e w' ⟨rfl, hb⟩
      exact ⟨rfl, Fr.of_below hb, .inr ⟨h0, rfl, A, c, (hb.block b (by omega)).trans h1, h2, h3, fun hh => absurd rfl hh⟩⟩
    | cons t l =>
      obtain ⟨g, o, rfl, g1, g2, g3, hr⟩ := h4 (by simp)
      simp only [List.length_cons] at h1 h2 h3
      by_cases hc : c = 1
      · subst hc
        obtain rfl : l = [] := List.eq_nil_of_length_eq_zero (by have := h3.1; omega)
        refine (next_last w b g o E t h1 hr.head (by omega)).mono ?_
        rintro e w' ⟨rfl, hf, hd⟩
        exact ⟨rfl, hf, .inr ⟨h0, rfl, _, _, hd, Nat.le_refl _, ⟨Nat.zero_le _, by simp⟩, fun hh => absurd rfl hh⟩⟩
      · obtain ⟨c, rfl⟩ : ∃ c', c = c' + 1 := ⟨c - 1, by omega⟩
        refine (next_rd w b g o l.length c E t h1 hr.head (by omega) h3.1 (by omega)).mono ?_
        rintro e w' ⟨rfl, hf, hd⟩
        exact ⟨rfl, hf, .inr ⟨h0, rfl, _, _, hd, by simp; omega, ⟨by have := h3.1; simp; omega, fun t' ht' => h3.2 t' (List.mem_cons_of_mem _ ht')⟩, fun _ => ⟨g, o + 4, rfl, g1, g2, g3, hr.tail.heap (hf.block g (by omega) g3)⟩⟩⟩
theorem is_of (w : World) (p : Option Addr) (t : Tk) (k : Int) (x : ByteArray) (hk0 : (k == 0) = false) (hk4 : (k == 4) = false)
    (HP : Hid (∀ w1, Below w.heap.size w w1 -> Calls Tryz.prog 46 #[.pointer p] w1 fun e w' => e = .returned (.agg #[.int .i64 t.k, .string t.s, .int .i64 t.n, .int .i64 t.p]) /\ Below w1.heap.size w1 w')) :
    Calls Tryz.prog 124 #[.pointer p, .int .i64 k, .string x] w fun e w' => e = .returned (.bool (decide (t.k = k) && (t.s.toList == x.toList))) /\ Below w.heap.size w w' := by
  by_cases h1 : t.k = k
  · have h1' : (t.k == k) = true := by simpa using h1
    have hd : decide (t.k = k) = true := by simpa using h1
    rw [hd, Bool.true_and]
    clear h1 hd
    obtain ⟨y, hy⟩ : ∃ y, (t.s.toList == x.toList) = y := ⟨_, rfl⟩
    rw [hy]
    go_enter Tryz.func124, Tryz.ntmps124
    go_wp2_with (go_at_call 46; refine (HP.out _ (Below.refl _ _)).mono ?_; rintro e w1 ⟨rfl, hb1⟩; have hb := hb1.alloc hb1.size (.cells #[.int .i64 t.k, .string t.s, .int .i64 t.n, .int .i64 t.p] 63); obtain ⟨hc, hf⟩ := L.bcell hb)
    go_ret
    exact ⟨rfl, hb⟩
  · have h1' : (t.k == k) = false := by simpa using h1
    have hd : decide (t.k = k) = false := by simpa using h1
    rw [hd, Bool.false_and]
    clear h1 hd
    go_enter Tryz.func124, Tryz.ntmps124
    go_wp2_with (go_at_call 46; refine (HP.out _ (Below.refl _ _)).mono ?_; rintro e w1 ⟨rfl, hb1⟩; have hb := hb1.alloc hb1.size (.cells #[.int .i64 t.k, .string t.s, .int .i64 t.n, .int .i64 t.p] 63); obtain ⟨hc, hf⟩ := L.bcell hb)
    go_ret
    exact ⟨rfl, hb⟩
theorem isT_hd (k : Int) (x : List UInt8) (l : List Tk) (E : Int) (hk : k ≠ 0) : isT k x l = (decide ((hdT l E).k = k) && ((hdT l E).s.toList == x)) := by
  cases l with
  | nil => simp [isT, hdT, Ne.symm hk]
  | cons t l => rfl
theorem is_r {B rb b : Nat} (w : World) {p : Option Addr} {l : List Tk} {E : Int} {dead : Bool} (h : Rdr B rb b w p l E dead) (hB : B <= w.heap.size) (hb0 : b < B) (k : Int) (x : ByteArray) (hk0 : k ≠ 0) (hk4 : k ≠ 4) :
    Calls Tryz.prog 124 #[.pointer p, .int .i64 k, .string x] w fun e w' => e = .returned (.bool (isT k x.toList l)) /\ Below w.heap.size w w' := by
  rw [isT_hd k x.toList l E hk0]
  exact is_of w p (hdT l E) k x (by simpa using hk0) (by simpa using hk4) (Lib.hid fun w1 hb => peek_r w1 (h.below hB hb0 hb) (Nat.le_trans hB hb.size))
theorem take_of (w : World) (p : Option Addr) (k : Int) (x : ByteArray) (y : Bool) (Q : World -> Prop) (b : Nat)
    (HI : Hid (Calls Tryz.prog 124 #[.pointer p, .int .i64 k, .string x] w fun e w' => e = .returned (.bool y) /\ Below w.heap.size w w'))
    (HN : Hid (y = true -> ∀ w1, Below w.heap.size w w1 -> Calls Tryz.prog 125 #[.pointer p] w1 fun e w' => (∃ t : Tk, e = .returned (.agg (tkArr t))) /\ Fr (fun k => k = b) w1 w' /\ Q w')) (HQ : Hid (y = false -> ∀ w1, Below w.heap.size w w1 -> Q w1)) :
    Calls Tryz.prog 81 #[.pointer p, .int .i64 k, .string x] w fun e w' => e = .returned (.bool y) /\ Fr (fun k => k = b) w w' /\ Q w' := by
  cases y with
  | true =>
    have H := Lib.hid (HN.out rfl)
    clear HN HQ
    go_enter Tryz.func81, Tryz.ntmps81
    go_wp2_with (first | (go_at_call 124; refine HI.out.mono ?_; rintro e w1 ⟨rfl, hb1⟩; have H1 := Lib.hid hb1; clear hb1) | (go_at_call 125; refine (H.out _ H1.out).mono ?_; rintro e w2 ⟨⟨t, rfl⟩, hf2, hq⟩))
    go_ret
    exact ⟨rfl, (Fr.of_below H1.out).trans hf2, hq⟩
  | false =>
    have H := Lib.hid (HQ.out rfl)
    clear HN HQ
    go_enter Tryz.func81, Tryz.ntmps81
    go_wp2_with (go_at_call 124; refine HI.out.mono ?_; rintro e w1 ⟨rfl, hb1⟩)
    go_ret
    exact ⟨rfl, Fr.of_below hb1, H.out _ hb1⟩
theorem take_r {B rb b : Nat} (w : World) {p : Option Addr} {l : List Tk} {E : Int} {dead : Bool} (h : Rdr B rb b w p l E dead) (hB : B <= w.heap.size) (hb0 : b < B) (k : Int) (x : ByteArray) (hk0 : k ≠ 0) (hk4 : k ≠ 4) :
    Calls Tryz.prog 81 #[.pointer p, .int .i64 k, .string x] w fun e w' => e = .returned (.bool (isT k x.toList l)) /\ Fr (fun k => k = b) w w' /\ Rdr B rb b w' p (if isT k x.toList l = true then l.tail else l) E dead := by
  refine take_of w p k x _ _ b (Lib.hid (is_r w h hB hb0 k x hk0 hk4)) (Lib.hid fun hy w1 hb => ?_) (Lib.hid fun hy w1 hb => ?_)
  · refine (next_r w1 (h.below hB hb0 hb) (Nat.le_trans hB hb.size) hb0).mono ?_
    rintro e w' ⟨rfl, hf, hr⟩
    exact ⟨⟨_, rfl⟩, hf, by rw [if_pos hy]; exact hr⟩
  · rw [hy]
    simpa using h.below hB hb0 hb
open T Go.RowKit
def Rb (w : World) (rb : Nat) (p : Option Addr) (v : Value) (s : PS) : Prop := w.heap[rb]? = some (.cells #[.pointer p, v, .int .i64 s.d, .int .i64 s.err, .int .i64 s.place] 51 (0, 0))
section
variable {Av : Nat -> Prop} {B rb b : Nat} {w w' : World} {s s' : PS} {p p' : Option Addr} {v v' : Value}
theorem Rb.nbk (h : Rb w rb p v s) : nbk w rb = v.ownBlock := by unfold A.nbk; rw [Blk_cell h 1]; rfl
theorem St.rb_ (h : St Av B rb b w s) : ∃ p v, Rb w rb p v s /\ Rdr B rb b w p s.l s.E s.dead := by
  obtain ⟨p, v, ps, h1, h2, _⟩ := h.at_
  exact ⟨p, v, h1, h2⟩
theorem Rb.cells (h : Rb w rb p v s) : w.cell? ⟨rb, 0, none⟩ = some (.pointer p) /\ w.cell? ⟨rb, 1, none⟩ = some v /\ w.cell? ⟨rb, 2, none⟩ = some (.int .i64 s.d) /\ w.cell? ⟨rb, 3, none⟩ = some (.int .i64 s.err) /\ w.cell? ⟨rb, 4, none⟩ = some (.int .i64 s.place) :=
  ⟨Blk_cell h 0, Blk_cell h 1, Blk_cell h 2, Blk_cell h 3, Blk_cell h 4⟩
theorem Rb.frozen (h : Rb w rb p v s) (j : Nat) : w.frozen? ⟨rb, j, none⟩ = false := Blk_frozen h j
theorem St.own (h : St Av B rb b w s) (hN : s'.N = s.N) (hsz : w.heap.size <= w'.heap.size) (hk : ∀ k, k ≠ rb -> k < w.heap.size -> w'.heap[k]? = w.heap[k]?) (h0 : Rb w rb p v s) (h1 : Rb w' rb p' v s') (hR : Rdr B rb b w p s.l s.E s.dead -> Rdr B rb b w' p' s'.l s'.E s'.dead) : St Av B rb b w' s' := by
  have hBs := h.hB
  obtain ⟨q, u, ps, h2, h3, h4, h5⟩ := h.at_
  have e := h0.symm.trans h2
  simp only [Option.some.injEq, Obj.cells.injEq, Array.mk.injEq, List.cons.injEq, Value.pointer.injEq] at e
  obtain ⟨⟨rfl, rfl, _⟩, _⟩ := e
  have hlt : rb < B := h.hrb
  refine ⟨fun g hg => Nat.lt_of_lt_of_le (h.av g hg) hsz, h.hrb, h.hb, Nat.le_trans hBs hsz, h.ne, p', v, ps, h1, hR h3, hN ▸ h4, ⟨⟨h5.1.1.1, ?_⟩, fun x hx => ⟨(h5.1.2 x hx).1, ?_⟩⟩, h5.2⟩
  · rcases h5.1.1.2 with h0 | ⟨g, cap, cur, e1, e2, e3, e4⟩
    · exact .inl h0
    · exact .inr ⟨g, cap, cur, e1, e2, (hk g (by omega) (Array.getElem?_eq_some_iff.1 e3).1).trans e3, e4⟩
  · rcases (h5.1.2 x hx).2 with h0 | ⟨g, cap, cur, e1, e2, e3, e4⟩
    · exact .inl h0
    · exact .inr ⟨g, cap, cur, e1, e2, (hk g (by omega) (Array.getElem?_eq_some_iff.1 e3).1).trans e3, e4⟩
theorem Rdr.own (h : St Av B rb b w s) (hk : ∀ k, k ≠ rb -> k < w.heap.size -> w'.heap[k]? = w.heap[k]?) {q : Option Addr} {l : List Tk} {E : Int} {dead : Bool} (hR : Rdr B rb b w q l E dead) : Rdr B rb b w' q l E dead := by
  have hb := h.blt
  have hB := h.hB
  exact hR.heap (hk b (Ne.symm h.ne) hb) fun g hg hg1 _ => hk g hg1 (by omega)
theorem Kpt.own (ho : w'.os = w.os) (ht : w'.tape = w.tape) (hu : w'.output = w.output) (hsz : w.heap.size <= w'.heap.size) (hk : ∀ k, k ≠ rb -> k < w.heap.size -> w'.heap[k]? = w.heap[k]?) (h0 : Rb w rb p v s) (h1 : Rb w' rb p' v s') : Kpt rb b w w' :=
  ⟨⟨ho, ht, hu, hsz, fun k hk1 hh => hk k (fun e => hh (.inl e)) hk1⟩, .inl (h1.nbk.trans h0.nbk.symm)⟩
theorem St.rd (h : St Av B rb b w s) (h0 : Rb w rb p v s) (hf : Fr (fun k => k = b) w w') {l : List Tk} {E : Int} {dead : Bool} (hR : Rdr B rb b w' p l E dead) : St Av B rb b w' { s with l := l, E := E, dead := dead } := by
  have hB := h.hB
  have hrb := h.rlt
  obtain ⟨q, u, ps, h2, h3, h4, h5⟩ := h.at_
  have e := h0.symm.trans h2
  simp only [Option.some.injEq, Obj.cells.injEq, Array.mk.injEq, List.cons.injEq, Value.pointer.injEq] at e
  obtain ⟨⟨rfl, rfl, _⟩, _⟩ := e
  have hbB : b < B := h.hb
  refine ⟨fun g hg => Nat.lt_of_lt_of_le (h.av g hg) hf.size, h.hrb, h.hb, Nat.le_trans hB hf.size, h.ne, p, v, ps, (hf.block rb hrb h.ne).trans h2, hR, h4, ⟨⟨h5.1.1.1, ?_⟩, fun x hx => ⟨(h5.1.2 x hx).1, ?_⟩⟩, h5.2⟩
  · rcases h5.1.1.2 with h0 | ⟨g, cap, cur, e1, e2, e3, e4⟩
    · exact .inl h0
    · exact .inr ⟨g, cap, cur, e1, e2, (hf.block g (Array.getElem?_eq_some_iff.1 e3).1 (by omega)).trans e3, e4⟩
  · rcases (h5.1.2 x hx).2 with h0 | ⟨g, cap, cur, e1, e2, e3, e4⟩
    · exact .inl h0
    · exact .inr ⟨g, cap, cur, e1, e2, (hf.block g (Array.getElem?_eq_some_iff.1 e3).1 (by omega)).trans e3, e4⟩
theorem Kpt.rd (h : St Av B rb b w s) (hf : Fr (fun k => k = b) w w') : Kpt rb b w w' :=
  ⟨hf.mono fun _k hk => .inr (.inl hk), .inl (nbk_heap (hf.block rb h.rlt h.ne))⟩
end
section
variable {Av : Nat -> Prop} {B rb b : Nat} {w : World} {s : PS}
theorem peek_s (h : St Av B rb b w s) {p : Option Addr} {v : Value} (hp : Rb w rb p v s) : Calls Tryz.prog 46 #[.pointer p] w fun e w' => e = .returned (.agg #[.int .i64 s.pk.k, .string s.pk.s, .int .i64 s.pk.n, .int .i64 s.pk.p]) /\ Below w.heap.size w w' := by
  obtain ⟨q, u, h1, h2⟩ := h.rb_
  have e := hp.symm.trans h1
  simp only [Option.some.injEq, Obj.cells.injEq, Array.mk.injEq, List.cons.injEq, Value.pointer.injEq] at e
  obtain ⟨⟨rfl, rfl, _⟩, _⟩ := e
  exact peek_r w h2 h.hB
theorem next_s (h : St Av B rb b w s) {p : Option Addr} {v : Value} (hp : Rb w rb p v s) : Calls Tryz.prog 125 #[.pointer p] w fun e w' => e = .returned (.agg #[.int .i64 s.pk.k, .string s.pk.s, .int .i64 s.pk.n, .int .i64 s.pk.p]) /\ St Av B rb b w' s.nx /\ Kpt rb b w w' := by
  obtain ⟨q, u, h1, h2⟩ := h.rb_
  have e := hp.symm.trans h1
  simp only [Option.some.injEq, Obj.cells.injEq, Array.mk.injEq, List.cons.injEq, Value.pointer.injEq] at e
  obtain ⟨⟨rfl, rfl, _⟩, _⟩ := e
  refine (next_r w h2 h.hB h.hb).mono ?_
  rintro e w' ⟨rfl, hf, hr⟩
  exact ⟨rfl, h.rd h1 hf hr, Kpt.rd h hf⟩
theorem is_s (h : St Av B rb b w s) {p : Option Addr} {v : Value} (hp : Rb w rb p v s) (k : Int) (x : ByteArray) (hk0 : k ≠ 0) (hk4 : k ≠ 4) : Calls Tryz.prog 124 #[.pointer p, .int .i64 k, .string x] w fun e w' => e = .returned (.bool (s.is k x.toList)) /\ Below w.heap.size w w' := by
  obtain ⟨q, u, h1, h2⟩ := h.rb_
  have e := hp.symm.trans h1
  simp only [Option.some.injEq, Obj.cells.injEq, Array.mk.injEq, List.cons.injEq, Value.pointer.injEq] at e
  obtain ⟨⟨rfl, rfl, _⟩, _⟩ := e
  exact is_r w h2 h.hB h.hb k x hk0 hk4
theorem take_s (h : St Av B rb b w s) {p : Option Addr} {v : Value} (hp : Rb w rb p v s) (k : Int) (x : ByteArray) (hk0 : k ≠ 0) (hk4 : k ≠ 4) : Calls Tryz.prog 81 #[.pointer p, .int .i64 k, .string x] w fun e w' => e = .returned (.bool (s.is k x.toList)) /\ St Av B rb b w' (s.tk k x.toList) /\ Kpt rb b w w' := by
  obtain ⟨q, u, h1, h2⟩ := h.rb_
  have e := hp.symm.trans h1
  simp only [Option.some.injEq, Obj.cells.injEq, Array.mk.injEq, List.cons.injEq, Value.pointer.injEq] at e
  obtain ⟨⟨rfl, rfl, _⟩, _⟩ := e
  refine (take_r w h2 h.hB h.hb k x hk0 hk4).mono ?_
  rintro e w' ⟨rfl, hf, hr⟩
  refine ⟨rfl, ?_, Kpt.rd h hf⟩
  have := h.rd h1 hf hr
  unfold PS.tk PS.is
  split at this <;> rename_i hh
  · rw [if_pos hh]; exact this
  · rw [if_neg hh]; exact this
theorem done_s (h : St Av B rb b w s) {p : Option Addr} {v : Value} (hp : Rb w rb p v s) : Calls Tryz.prog 54 #[.pointer p] w fun e w' => e = .returned (.bool s.l.isEmpty) /\ w = w' := by
  obtain ⟨q, u, h1, h2⟩ := h.rb_
  have e := hp.symm.trans h1
  simp only [Option.some.injEq, Obj.cells.injEq, Array.mk.injEq, List.cons.injEq, Value.pointer.injEq] at e
  obtain ⟨⟨rfl, rfl, _⟩, _⟩ := e
  exact done_r w h2
end
theorem field_p (k n p : Int) (s : ByteArray) (w : World) : Sem.run Tryz.prog (Instr.field 63 (.agg #[.int .i64 k, .string s, .int .i64 n, .int .i64 p]) 3) w = .ok (.int .i64 p) w := by kernel_rfl
theorem field_s (k n p : Int) (s : ByteArray) (w : World) : Sem.run Tryz.prog (Instr.field 63 (.agg #[.int .i64 k, .string s, .int .i64 n, .int .i64 p]) 1) w = .ok (.string s) w := by kernel_rfl
theorem field_n (k n p : Int) (s : ByteArray) (w : World) : Sem.run Tryz.prog (Instr.field 63 (.agg #[.int .i64 k, .string s, .int .i64 n, .int .i64 p]) 2) w = .ok (.int .i64 n) w := by kernel_rfl
open T Go.RowKit
attribute [local go_sem] field_p field_s field_n
section
variable {Av : Nat -> Prop} {B rb b : Nat} {w : World} {s : PS}
theorem no_set {w : World} {rb : Nat} {p : Option Addr} {v : Value} {s : PS} (h : Rb w rb p v s) (pl e : Int) (h0 : s.err = 0) :
    Rb (((w.setCell ⟨rb, 4, none⟩ (.int .i64 pl)).setCell ⟨rb, 3, none⟩ (.int .i64 e)).setCell ⟨rb, 0, none⟩ (.pointer none)) rb none v (s.no pl e) := by
  have h1 := blk_put (j := 0) (v := .pointer none) (blk_put (j := 3) (v := .int .i64 e) (blk_put (j := 4) (v := .int .i64 pl) h))
  unfold Rb PS.no
  rw [if_pos h0, if_pos h0]
  exact h1
theorem no_set2 {w : World} {rb : Nat} {p : Option Addr} {v : Value} {s : PS} (h : Rb w rb p v s) (pl e : Int) (h0 : s.err ≠ 0) : Rb (w.setCell ⟨rb, 0, none⟩ (.pointer none)) rb none v (s.no pl e) := by
  have h1 := blk_put (j := 0) (v := .pointer none) h
  unfold Rb PS.no
  rw [if_neg h0, if_neg h0]
  exact h1
theorem refuse_any (h : St Av B rb b w s) (pl e : Int) : Calls Tryz.prog 47 #[.pointer (some ⟨rb, 0, none⟩), .int .i64 pl, .int .i64 e] w (VPost Av B rb b w (s.no pl e)) := by
  obtain ⟨p, v, hp, hR⟩ := h.rb_
  obtain ⟨c0, c1, c2, c3, c4⟩ := hp.cells
  have f := hp.frozen
  by_cases h0 : s.err = 0
  · have hz : (s.err == 0) = true := by simpa using h0
    have H1 := Lib.hid (no_set hp pl e h0)
    have H := Lib.hid h
    have HP := Lib.hid hp
    clear h hp hR h0
    go_enter Tryz.func47, Tryz.ntmps47
    go_wp2
    go_end0
    have hk : ∀ k, k ≠ rb -> k < w.heap.size -> ((((w.setCell ⟨rb, 4, none⟩ (.int .i64 pl)).setCell ⟨rb, 3, none⟩ (.int .i64 e)).setCell ⟨rb, 0, none⟩ (.pointer none)).heap[k]? = w.heap[k]?) := fun k hk _ =>
      (set_far _ _ _ _ _ hk).trans ((set_far _ _ _ _ _ hk).trans (set_far _ _ _ _ _ hk))
    exact ⟨rfl, H.out.own rfl (by simp) hk HP.out H1.out fun _ => .inl ⟨rfl, rfl, rfl, rfl⟩, Kpt.own rfl rfl rfl (by simp) hk HP.out H1.out⟩
  · have hz : (s.err == 0) = false := by simpa using h0
    have H1 := Lib.hid (no_set2 hp pl e h0)
    have H := Lib.hid h
    have HP := Lib.hid hp
    clear h hp hR h0
    go_enter Tryz.func47, Tryz.ntmps47
    go_wp2
    go_end0
    have hk : ∀ k, k ≠ rb -> k < w.heap.size -> ((w.setCell ⟨rb, 0, none⟩ (.pointer none)).heap[k]? = w.heap[k]?) := fun k hk _ => set_far _ _ _ _ _ hk
    exact ⟨rfl, H.out.own rfl (by simp) hk HP.out H1.out fun _ => .inl ⟨rfl, rfl, rfl, rfl⟩, Kpt.own rfl rfl rfl (by simp) hk HP.out H1.out⟩
theorem word_any (h : St Av B rb b w s) (x : ByteArray) : Calls Tryz.prog 49 #[.pointer (some ⟨rb, 0, none⟩), .string x] w (BPost Av B rb b w (s.is 1 x.toList) (s.tk 1 x.toList)) := by
  obtain ⟨p, v, hp, hR⟩ := h.rb_
  obtain ⟨c0, c1, c2, c3, c4⟩ := hp.cells
  have HT := Lib.hid (take_s h hp 1 x (by decide) (by decide))
  clear h hp hR
  obtain ⟨y, hy⟩ : ∃ y, s.is 1 x.toList = y := ⟨_, rfl⟩
  rw [hy] at HT ⊢
  clear hy
  go_enter Tryz.func49, Tryz.ntmps49
  go_wp2_with (go_at_call 81; refine HT.out.mono ?_; rintro e w1 ⟨rfl, h1, k1⟩)
  go_ret
  exact ⟨rfl, h1, k1⟩
theorem sign_any (h : St Av B rb b w s) (x : ByteArray) : Calls Tryz.prog 200 #[.pointer (some ⟨rb, 0, none⟩), .string x] w (BPost Av B rb b w (s.is 7 x.toList) (s.tk 7 x.toList)) := by
  obtain ⟨p, v, hp, hR⟩ := h.rb_
  obtain ⟨c0, c1, c2, c3, c4⟩ := hp.cells
  have HT := Lib.hid (take_s h hp 7 x (by decide) (by decide))
  clear h hp hR
  obtain ⟨y, hy⟩ : ∃ y, s.is 7 x.toList = y := ⟨_, rfl⟩
  rw [hy] at HT ⊢
  clear hy
  go_enter Tryz.func200, Tryz.ntmps200
  go_wp2_with (go_at_call 81; refine HT.out.mono ?_; rintro e w1 ⟨rfl, h1, k1⟩)
  go_ret
  exact ⟨rfl, h1, k1⟩
theorem must_any (h : St Av B rb b w s) (k : Int) (x : ByteArray) (hk0 : k ≠ 0) (hk4 : k ≠ 4) : Calls Tryz.prog 83 #[.pointer (some ⟨rb, 0, none⟩), .int .i64 k, .string x] w (VPost Av B rb b w (s.must k x.toList)) := by
  obtain ⟨p, v, hp, hR⟩ := h.rb_
  obtain ⟨c0, c1, c2, c3, c4⟩ := hp.cells
  have HT := Lib.hid (take_s h hp k x hk0 hk4)
  have HR := Lib.hid h.rlt
  clear h hp hR hk0 hk4
  by_cases hy : s.is k x.toList = true
  · have e1 : s.must k x.toList = s.nx := by unfold PS.must; rw [if_pos hy]
    have e2 : s.tk k x.toList = s.nx := by unfold PS.tk; rw [if_pos hy]
    rw [e1]
    rw [hy, e2] at HT
    clear hy e1 e2
    go_enter Tryz.func83, Tryz.ntmps83
    go_wp2_with (go_at_call 81; refine HT.out.mono ?_; rintro e w1 ⟨rfl, h1, k1⟩)
    go_end0
    exact ⟨rfl, h1, k1⟩
  · have e1 : s.must k x.toList = s.no s.pk.p 5 := by unfold PS.must; rw [if_neg hy]
    have e2 : s.tk k x.toList = s := by unfold PS.tk; rw [if_neg hy]
    rw [e1]
    rw [Bool.eq_false_iff.2 hy, e2] at HT
    clear hy e1 e2
    go_enter Tryz.func83, Tryz.ntmps83
    go_wp2_with (first | (go_at_call 81; refine HT.out.mono ?_; rintro e w1 ⟨rfl, h1, k1⟩; obtain ⟨q, u, hq, _⟩ := h1.rb_; obtain ⟨d0, d1, d2, d3, d4⟩ := hq.cells; have H1 := Lib.hid h1; have K1 := Lib.hid k1; have HQ := Lib.hid hq; clear h1 k1 hq) | (go_at_call 46; refine (peek_s H1.out HQ.out).mono ?_; rintro e w2 ⟨rfl, hb2⟩; have H2 := Lib.hid (H1.out.below hb2); have K2 := Lib.hid (K1.out.trans (Kpt.of_below H1.out.rlt hb2)); clear hb2) | (go_at_call 47; refine (refuse_any H2.out _ 5).mono ?_; rintro e w3 ⟨rfl, h3, k3⟩))
    go_end0
    exact ⟨rfl, h3, K2.out.trans k3⟩
end
open T Go.RowKit
attribute [local go_sem] field_p field_s field_n
section
variable {Av : Nat -> Prop} {B rb b : Nat} {w w' : World} {s : PS} {p : Option Addr} {v : Value}
theorem St.pksz (h : St Av B rb b w s) : s.pk.s.size <= 281474976710656 := by
  obtain ⟨p, v, _, hR⟩ := h.rb_
  rw [pk_eq]
  rcases hR with ⟨_, _, h1, _⟩ | ⟨_, _, A, c, _, _, h3, _⟩
  · rw [h1]; exact Nat.zero_le _
  · cases hl : s.l with
    | nil => exact Nat.zero_le _
    | cons t l => exact h3.2 t (by rw [hl]; simp)
theorem Rb.below (h : Rb w rb p v s) (hb : Below w.heap.size w w') : Rb w' rb p v s := (hb.block rb (Array.getElem?_eq_some_iff.1 h).1).trans h
theorem text_any (h : St Av B rb b w s) (k : Int) : Calls Tryz.prog 82 #[.pointer (some ⟨rb, 0, none⟩), .int .i64 k] w (SPost Av B rb b w (s.txt k).1 (s.txt k).2) := by
  obtain ⟨p, v, hp, hR⟩ := h.rb_
  obtain ⟨c0, c1, c2, c3, c4⟩ := hp.cells
  have hlt := h.rlt
  have HPK := Lib.hid (peek_s h hp)
  have HP := Lib.hid hp
  have H := Lib.hid h
  have HS := Lib.hid h.pksz
  clear h hp hR
  by_cases hk : s.pk.k = k
  · have e1 : s.txt k = (s.pk.s, s.nx) := by unfold PS.txt; rw [if_pos hk]
    rw [e1]
    clear e1
    have hk' : (s.pk.k != k) = false := by simpa using hk
    clear hk
    go_enter Tryz.func82, Tryz.ntmps82
    go_wp2_with (first | (go_at_call 46; refine HPK.out.mono ?_; rintro e w1 ⟨rfl, hb1⟩; have hb := hb1.alloc hb1.size (.cells #[.int .i64 s.pk.k, .string s.pk.s, .int .i64 s.pk.n, .int .i64 s.pk.p] 63); obtain ⟨hc, hf⟩ := L.bcell hb; have H1 := Lib.hid (H.out.below hb); have HP1 := Lib.hid (HP.out.below hb); have K1 := Lib.hid (Kpt.of_below (b := b) hlt hb); clear hb hb1) | (go_at_call 125; refine (next_s H1.out HP1.out).mono ?_; rintro e w2 ⟨rfl, h2, k2⟩; have H2 := Lib.hid h2; have K2 := Lib.hid (K1.out.trans k2); clear h2 k2) | (go_at_call 38; refine (T.clone_any _ HS.out _).mono ?_; rintro e w3 ⟨rfl, hb3⟩))
    go_ret
    exact ⟨rfl, H2.out.below hb3, K2.out.trans (Kpt.of_below H2.out.rlt hb3)⟩
  · have e1 : s.txt k = (⟨#[]⟩, s.no s.pk.p 5) := by unfold PS.txt; rw [if_neg hk]
    rw [e1]
    clear e1
    have hk' : (s.pk.k != k) = true := by simpa using hk
    clear hk
    go_enter Tryz.func82, Tryz.ntmps82
    go_wp2_with (first | (go_at_call 46; refine HPK.out.mono ?_; rintro e w1 ⟨rfl, hb1⟩; have hb := hb1.alloc hb1.size (.cells #[.int .i64 s.pk.k, .string s.pk.s, .int .i64 s.pk.n, .int .i64 s.pk.p] 63); obtain ⟨hc, hf⟩ := L.bcell hb; have H1 := Lib.hid (H.out.below hb); have K1 := Lib.hid (Kpt.of_below (b := b) hlt hb); clear hb hb1) | (go_at_call 47; refine (refuse_any H1.out _ 5).mono ?_; rintro e w3 ⟨rfl, h3, k3⟩))
    go_ret
    exact ⟨rfl, h3, K1.out.trans k3⟩
def PS.fin (s : PS) : PS := if s.l.isEmpty = true then s else s.no s.pk.p 5
theorem end_any (h : St Av B rb b w s) : Calls Tryz.prog 27 #[.pointer (some ⟨rb, 0, none⟩)] w (VPost Av B rb b w s.fin) := by
  obtain ⟨p, v, hp, hR⟩ := h.rb_
  obtain ⟨c0, c1, c2, c3, c4⟩ := hp.cells
  have HD := Lib.hid (done_s h hp)
  have HPK := Lib.hid (peek_s h hp)
  have H := Lib.hid h
  have hlt := h.rlt
  clear h hp hR
  by_cases hy : s.l.isEmpty = true
  · have e1 : s.fin = s := by unfold PS.fin; rw [if_pos hy]
    rw [e1]
    rw [hy] at HD
    clear hy e1
    go_enter Tryz.func27, Tryz.ntmps27
    go_wp2_with (go_at_call 54; refine HD.out.mono ?_; rintro e w1 ⟨rfl, rfl⟩)
    go_end0
    exact ⟨rfl, H.out, Kpt.refl _ _ _⟩
  · have e1 : s.fin = s.no s.pk.p 5 := by unfold PS.fin; rw [if_neg hy]
    rw [e1]
    rw [Bool.eq_false_iff.2 hy] at HD
    clear hy e1
    go_enter Tryz.func27, Tryz.ntmps27
    go_wp2_with (first | (go_at_call 54; refine HD.out.mono ?_; rintro e w1 ⟨rfl, rfl⟩) | (go_at_call 46; refine HPK.out.mono ?_; rintro e w2 ⟨rfl, hb2⟩; have H2 := Lib.hid (H.out.below hb2); have K2 := Lib.hid (Kpt.of_below (b := b) hlt hb2); clear hb2) | (go_at_call 47; refine (refuse_any H2.out _ 5).mono ?_; rintro e w3 ⟨rfl, h3, k3⟩))
    go_end0
    exact ⟨rfl, h3, K2.out.trans k3⟩
theorem isSign1_any (h : St Av B rb b w s) (bx : Nat) (hbx : w.cell? ⟨bx, 0, none⟩ = some (.pointer (some ⟨rb, 0, none⟩))) (x : ByteArray) :
    Calls Tryz.prog 128 #[.string x, .pointer (some ⟨bx, 0, none⟩)] w fun e w' => e = .returned (.bool (s.is 7 x.toList)) /\ Below w.heap.size w w' := by
  obtain ⟨p, v, hp, hR⟩ := h.rb_
  obtain ⟨c0, c1, c2, c3, c4⟩ := hp.cells
  have HI := Lib.hid (is_s h hp 7 x (by decide) (by decide))
  clear h hp hR
  obtain ⟨y, hy⟩ : ∃ y, s.is 7 x.toList = y := ⟨_, rfl⟩
  rw [hy] at HI ⊢
  clear hy
  go_enter Tryz.func128, Tryz.ntmps128
  go_wp2_with (go_at_call 124; refine HI.out.mono ?_; rintro e w1 ⟨rfl, hb1⟩)
  go_ret
  exact ⟨rfl, hb1⟩
end
open T Go.RowKit
attribute [local go_sem] field_p field_s field_n
def TxRow (w : World) (g o : Nat) (l : List ByteArray) : Prop := ∀ j x, l[j]? = some x -> w.cell? ⟨g, o + j, none⟩ = some (.string x)
theorem idxs_any (P : ByteArray -> Bool) (l : List ByteArray) (L c g o bx : Nat) (w : World) (HL : Hid (l.length = L)) (hL : L <= 1000) (hg : g < w.heap.size) (HR : Hid (TxRow w g o l))
    (HF : Hid (∀ w1 x, Below w.heap.size w w1 -> Calls Tryz.prog 128 #[.string x, .pointer (some ⟨bx, 0, none⟩)] w1 fun e w' => e = .returned (.bool (P x)) /\ Below w1.heap.size w1 w')) :
    Calls Tryz.prog 161 #[.slice (some ⟨g, o, none⟩) L c, .func (.func 128) #[] #[.pointer (some ⟨bx, 0, none⟩)]] w (FxPost (l.any P) w) := by
  go_enter Tryz.func161, Tryz.ntmps161
  go_wp2
  go_loopw [8] (fun i wr => ∃ q : Nat, i = .int .i64 (q : Int) /\ q <= L /\ Hid ((l.take q).any P = false) /\ Hid (Below w.heap.size w wr)) (fun i _ => L - (intOf i).toNat)
  case atStart => exact ⟨0, rfl, Nat.zero_le _, Lib.hid (by simp), Lib.hid (Below.refl _ _)⟩
  case round =>
    obtain ⟨q, rfl, hq, HC, HB⟩ := hrel
    have hsz := HB.out.size
    by_cases hlt : q < L
    · obtain ⟨x, hx⟩ : ∃ x, l[q]? = some x := ⟨_, List.getElem?_eq_getElem (by rw [HL.out]; exact hlt)⟩
      have hcx := (HB.out.cell (p := ⟨g, o + q, none⟩) hg).trans (HR.out q x hx)
      cases hp : P x with
      | true =>
        have HY := Lib.hid (any_yes P l q x hx hp)
        have HP := Lib.hid hp
        clear hx hp
        go_wp2_with (go_at_call 128; refine (HF.out _ x HB.out).mono ?_; rintro e w1 ⟨rfl, hb1⟩; rw [HP.out]; have HBB := Lib.hid hb1; clear hb1)
        go_ret
        exact ⟨⟨_, rfl, by rw [HY.out]; simp⟩, HB.out.trans (HBB.out.mono hsz)⟩
      | false =>
        have HY := Lib.hid (any_no P l q x hx HC.out hp)
        have HP := Lib.hid hp
        clear hx hp
        go_wp2_with (go_at_call 128; refine (HF.out _ x HB.out).mono ?_; rintro e w1 ⟨rfl, hb1⟩; rw [HP.out]; have HBB := Lib.hid hb1; clear hb1)
        go_roundw
        case rel => exact ⟨q + 1, by go_num, by omega, HY, Lib.hid (HB.out.trans (HBB.out.mono hsz))⟩
        case measure => simp [intOf]; omega
    · obtain rfl : q = L := by omega
      go_wp2
      go_ret
      exact ⟨⟨_, rfl, by have := HC.out; rw [List.take_of_length_le (by rw [HL.out]; omega)] at this; rw [this]; rfl⟩, HB.out⟩
theorem conts_any (P : ByteArray -> Bool) (l : List ByteArray) (L c g o bx : Nat) (w : World) (t : Bool) (ht : l.any P = t) (HL : Hid (l.length = L)) (hL : L <= 1000) (hg : g < w.heap.size) (HR : Hid (TxRow w g o l))
    (HF : Hid (∀ w1 x, Below w.heap.size w w1 -> Calls Tryz.prog 128 #[.string x, .pointer (some ⟨bx, 0, none⟩)] w1 fun e w' => e = .returned (.bool (P x)) /\ Below w1.heap.size w1 w')) :
    Calls Tryz.prog 127 #[.slice (some ⟨g, o, none⟩) L c, .func (.func 128) #[] #[.pointer (some ⟨bx, 0, none⟩)]] w fun e w' => e = .returned (.bool t) /\ Below w.heap.size w w' := by
  have HC := Lib.hid (idxs_any P l L c g o bx w HL hL hg HR HF)
  rw [ht] at HC
  clear ht
  go_enter Tryz.func127, Tryz.ntmps127
  go_wp2_with (go_at_call 161; refine HC.out.mono ?_; rintro e w1 ⟨⟨r, rfl, hr⟩, hb1⟩)
  go_ret
  exact ⟨ret_b (by first | exact hr | simp), hb1⟩
section
variable {Av : Nat -> Prop} {B rb b : Nat} {w w' : World} {s : PS} {p : Option Addr} {v : Value}
theorem isSign_any (h : St Av B rb b w s) (l : List ByteArray) (L c g o : Nat) (t : Bool) (ht : (l.any fun x => s.is 7 x.toList) = t) (hl : l.length = L) (hL : L <= 1000) (hg : g < w.heap.size) (hr : TxRow w g o l) :
    Calls Tryz.prog 86 #[.pointer (some ⟨rb, 0, none⟩), .slice (some ⟨g, o, none⟩) L c] w fun e w' => e = .returned (.bool t) /\ Below w.heap.size w w' := by
  have hal : Below w.heap.size w (w.alloc (.cells #[.pointer (some ⟨rb, 0, none⟩)] 83)) := (Below.refl _ w).alloc (Nat.le_refl _) _
  have HC := Lib.hid (conts_any (fun x => s.is 7 x.toList) l L c g o w.heap.size (w.alloc (.cells #[.pointer (some ⟨rb, 0, none⟩)] 83)) t ht (Lib.hid hl) hL (by simp; omega) (Lib.hid fun j x hj => (hal.cell (p := ⟨g, o + j, none⟩) hg).trans (hr j x hj))
    (Lib.hid fun w1 x hb => isSign1_any ((h.below hal).below hb) w.heap.size ((hb.cell (p := ⟨w.heap.size, 0, none⟩) (by simp)).trans (Blk_cell (World.alloc_heap_new w _) 0)) x))
  have HAL := Lib.hid hal
  clear h ht hl hr hal
  go_enter Tryz.func86, Tryz.ntmps86
  go_wp2_with (go_at_call 127; refine HC.out.mono ?_; rintro e w1 ⟨rfl, hb1⟩)
  go_ret
  exact ⟨rfl, HAL.out.trans (hb1.mono (by simp))⟩
theorem tx_two (w : World) (t : TypeId) (x y : ByteArray) (g : Nat) (hg : g = w.heap.size) : TxRow (w.alloc (.cells #[.string x, .string y] t)) g 0 [x, y] := by
  subst hg
  intro j z hj
  have h := World.alloc_heap_new w (.cells #[.string x, .string y] t)
  rw [Blk_cell h]
  match j, hj with
  | 0, hj => cases hj; rfl
  | 1, hj => cases hj; rfl
theorem tx_three (w : World) (t : TypeId) (x y z : ByteArray) (g : Nat) (hg : g = w.heap.size) : TxRow (w.alloc (.cells #[.string x, .string y, .string z] t)) g 0 [x, y, z] := by
  subst hg
  intro j u hj
  have h := World.alloc_heap_new w (.cells #[.string x, .string y, .string z] t)
  rw [Blk_cell h]
  match j, hj with
  | 0, hj => cases hj; rfl
  | 1, hj => cases hj; rfl
  | 2, hj => cases hj; rfl
end
theorem prim_any (x : ByteArray) (w : World) : Calls Tryz.prog 129 #[.string x] w fun e w' => e = .returned (.int .i64 (prim x)) /\ w = w' := by
  have key : ∀ l : List UInt8, x.toList = l -> (x.toList == l) = true := fun l h => by simpa using h
  have nay : ∀ l : List UInt8, x.toList ≠ l -> (x.toList == l) = false := fun l h => by simpa using h
  unfold prim
  by_cases h1 : x.toList = [60]
  · rw [if_pos h1]
    have a1 := key _ h1
    clear key nay h1
    go_enter Tryz.func129, Tryz.ntmps129
    go_wp2
    go_ret
    exact ⟨rfl, rfl⟩
  rw [if_neg h1]
  have a1 := nay _ h1
  by_cases h2 : x.toList = [61, 61]
  · rw [if_pos h2]
    have a2 := key _ h2
    clear key nay h1 h2
    go_enter Tryz.func129, Tryz.ntmps129
    go_wp2
    go_ret
    exact ⟨rfl, rfl⟩
  rw [if_neg h2]
  have a2 := nay _ h2
  by_cases h3 : x.toList = [43]
  · rw [if_pos h3]
    have a3 := key _ h3
    clear key nay h1 h2 h3
    go_enter Tryz.func129, Tryz.ntmps129
    go_wp2
    go_ret
    exact ⟨rfl, rfl⟩
  rw [if_neg h3]
  have a3 := nay _ h3
  by_cases h4 : x.toList = [45]
  · rw [if_pos h4]
    have a4 := key _ h4
    clear key nay h1 h2 h3 h4
    go_enter Tryz.func129, Tryz.ntmps129
    go_wp2
    go_ret
    exact ⟨rfl, rfl⟩
  rw [if_neg h4]
  have a4 := nay _ h4
  by_cases h5 : x.toList = [94]
  · rw [if_pos h5]
    have a5 := key _ h5
    clear key nay h1 h2 h3 h4 h5
    go_enter Tryz.func129, Tryz.ntmps129
    go_wp2
    go_ret
    exact ⟨rfl, rfl⟩
  rw [if_neg h5]
  have a5 := nay _ h5
  by_cases h6 : x.toList = [42]
  · rw [if_pos h6]
    have a6 := key _ h6
    clear key nay h1 h2 h3 h4 h5 h6
    go_enter Tryz.func129, Tryz.ntmps129
    go_wp2
    go_ret
    exact ⟨rfl, rfl⟩
  rw [if_neg h6]
  have a6 := nay _ h6
  by_cases h7 : x.toList = [47]
  · rw [if_pos h7]
    have a7 := key _ h7
    clear key nay h1 h2 h3 h4 h5 h6 h7
    go_enter Tryz.func129, Tryz.ntmps129
    go_wp2
    go_ret
    exact ⟨rfl, rfl⟩
  rw [if_neg h7]
  have a7 := nay _ h7
  clear key nay h1 h2 h3 h4 h5 h6 h7
  go_enter Tryz.func129, Tryz.ntmps129
  go_wp2
  go_ret
  exact ⟨rfl, rfl⟩
open T Go.RowKit
theorem run_append_place {P : Program} (w : World) (base : Nat) (t ty e : TypeId) (i : TypeInfo) (z : Value) (size bytes : Nat) (ht : P.underlying t = some (.slice e)) (hi : P.info? e = some i) (hz : i.zero = some z)
    (hsize : i.size = size) (hby : i.bytes = bytes) (hzs : z.cells.size = size) (hsz : 0 < size) (v : Value) (n : Nat) (xs : List Value) (hown : w.ownsRow base e size v n xs)
    (a : Addr) (m c : Nat) (news : List Value) (hl : news.length = m * size) (hnews : ∀ j u, news[j]? = some u -> w.cell? (a.add j) = some u) (h1 : ∀ u ∈ news, u.oneCell' = true)
    (h63 : n + m <= maxLen) (hbytes : (n + m) * bytes <= 140737488355328) (hbase : base <= w.heap.size) :
    ∃ v' w', (Builtin.append_ #[t, t] ty #[v, .slice (some a) m c]).run P w = .ok v' w' /\ w'.ownsRow base e size v' (n + m) (xs ++ news) /\ w.grownBy w' v.ownBlock /\ (v'.ownBlock = v.ownBlock ∨ ∃ g, v'.ownBlock = some g /\ w.heap.size <= g) := by
  obtain ⟨v', w', hr, h2, h3, h4⟩ := run_append_own (P := P) w base t ty e i z size bytes ht hi hz hsize hby hzs hsz v n xs hown a m c news hl hnews h1 h63 hbytes hbase
  refine ⟨v', w', hr, h2, h3, ?_⟩
  subst hsize
  subst hby
  simp only [maxLen] at h63
  rcases hown.2 with ⟨rfl, rfl⟩ | ⟨g, cap, cur, rfl, hbg, hg, hnc, hcm, hcs, htake⟩
  · have hown2 : w.ownsRow w.heap.size e i.size (.slice none 0 0) 0 xs := ⟨hown.1, .inl ⟨rfl, rfl⟩⟩
    obtain ⟨v2, w2, hr2, k2, k3, k4⟩ := run_append_own (P := P) w w.heap.size t ty e i z i.size i.bytes ht hi hz rfl rfl hzs hsz _ 0 xs hown2 a m c news hl hnews h1 (by simp only [maxLen]; omega) hbytes (Nat.le_refl _)
    rw [hr] at hr2
    injection hr2 with e1 e2
    subst e1 e2
    rcases k2.2 with ⟨rfl, _⟩ | ⟨g, cap, cur, rfl, hg, _⟩
    · exact .inl rfl
    · exact .inr ⟨g, rfl, hg⟩
  · by_cases hroom : n + m <= cap
    · have hfit : n * i.size + news.length <= cur.size := by rw [hl, hcs, <- Nat.add_mul]; exact Nat.mul_le_mul_right _ hroom
      have hr2 := run_append_room (P := P) w t ty e i ht hi g n cap cur hg a m c news hl hnews h1 hroom hfit
      rw [hr] at hr2
      injection hr2 with e1 e2
      subst e1
      exact .inl rfl
    · have holds : ∀ j u, xs[j]? = some u -> w.cell? ((⟨g, 0, none⟩ : Addr).add j) = some u := hown.cells (g := g) rfl
      have hr2 := run_append_grow (P := P) w t ty e i z ht hi hz ⟨g, 0, none⟩ n cap xs hown.1 holds a m c news hl hnews (by omega) (by omega) (growslice_fits (by omega) hbytes)
      rw [hr] at hr2
      injection hr2 with e1 e2
      subst e1
      exact .inr ⟨_, rfl, Nat.le_refl _⟩
theorem wp_append_place {P : Program} (w : World) {o : Oper} {a : Act} {K : Act -> World -> Prop} {Q : Exit -> Act -> World -> Prop} (s x : Operand) (t : TypeId)
    (ho : o.op = .call { callee := .builtin .append, args := #[s, x], argTypes := #[t, t] })
    (base : Nat) (e : TypeId) (i : TypeInfo) (z : Value) (size bytes : Nat) (ht : P.underlying t = some (.slice e)) (hi : P.info? e = some i) (hz : i.zero = some z)
    (hsize : i.size = size) (hby : i.bytes = bytes) (hzs : z.cells.size = size) (hsz : 0 < size)
    (v : Value) (n : Nat) (xs : List Value) (hs : a.eval s = v) (hown : w.ownsRow base e size v n xs)
    (ad : Addr) (m c : Nat) (news : List Value) (hx : a.eval x = .slice (some ad) m c) (hl : news.length = m * size) (hnews : ∀ j u, news[j]? = some u -> w.cell? (ad.add j) = some u) (h1 : ∀ u ∈ news, u.oneCell' = true)
    (h63 : n + m <= maxLen) (hbytes : (n + m) * bytes <= 140737488355328) (hbase : base <= w.heap.size)
    (h : ∀ v' w', w'.ownsRow base e size v' (n + m) (xs ++ news) -> w.grownBy w' v.ownBlock -> (v'.ownBlock = v.ownBlock ∨ ∃ g, v'.ownBlock = some g /\ w.heap.size <= g) -> K (a.put o.dst v') w') : o.wp P a w K Q := by
  obtain ⟨v', w', hr, h2, h3, h4⟩ := run_append_place (P := P) w base t o.type e i z size bytes ht hi hz hsize hby hzs hsz v n xs hown ad m c news hl hnews h1 h63 hbytes hbase
  unfold Oper.wp execOp
  simp only [ho, resolve, invoke, builtin, Sem.run_bind, Sem.run_pure, Result.andThen_ok, List.map_toArray, List.map_cons, List.map_nil, hs, hx, hr]
  exact h v' w' h2 h3 h4
theorem step_append_place {P : Program} {ops : Array Oper} {o : Oper} {a : Act} {K : Act -> World -> Prop} {Q : Exit -> Act -> World -> Prop} {E : Prop} (w : World) (hgd : o.guard = none) (s x : Operand) (t : TypeId)
    (ho : o.op = .call { callee := .builtin .append, args := #[s, x], argTypes := #[t, t] })
    (base : Nat) (e : TypeId) (i : TypeInfo) (z : Value) (size bytes : Nat) (ht : P.underlying t = some (.slice e)) (hi : P.info? e = some i) (hz : i.zero = some z)
    (hsize : i.size = size) (hby : i.bytes = bytes) (hzs : z.cells.size = size) (hsz : 0 < size)
    (v : Value) (n : Nat) (xs : List Value) (hs : a.eval s = v) (hown : w.ownsRow base e size v n xs)
    (ad : Addr) (m c : Nat) (news : List Value) (hx : a.eval x = .slice (some ad) m c) (hl : news.length = m * size) (hnews : ∀ j u, news[j]? = some u -> w.cell? (ad.add j) = some u) (h1 : ∀ u ∈ news, u.oneCell' = true)
    (h63 : n + m <= maxLen) (hbytes : (n + m) * bytes <= 140737488355328) (hbase : base <= w.heap.size)
    (h : ∀ v' w', w'.ownsRow base e size v' (n + m) (xs ++ news) -> w.grownBy w' v.ownBlock -> (v'.ownBlock = v.ownBlock ∨ ∃ g, v'.ownBlock = some g /\ w.heap.size <= g) -> K (a.put o.dst v') w') : if Region.wanted o (yielded ops a.tmps) = true then Oper.wp P o a w K Q else E := by
  have hw : Region.wanted o (yielded ops a.tmps) = true := by simp [Region.wanted, hgd]
  rw [if_pos hw]
  exact wp_append_place w s x t ho base e i z size bytes ht hi hz hsize hby hzs hsz v n xs hs hown ad m c news hx hl hnews h1 h63 hbytes hbase h
theorem St.added {Av : Nat -> Prop} {B rb b : Nat} {w W W8 : World} {s : PS} {p : Option Addr} {v v2 fv : Value} {ps : List (Nd × Value)} {y : Nd} (h : St Av B rb b w s) (hp : Rb w rb p v s) (hN : ps.map Prod.fst = s.N) (ho : OwnA Av B w v ps) (hf : OwnF B w fv y.l) (hfa : ∀ g, fv.ownBlock = some g -> ¬ Av g) (hR : Rdr B rb b w p s.l s.E s.dead)
    (hW : Below w.heap.size w W) (h7 : W8.ownsRow B 37 9 v2 (ps.length + 1) (nCells ps ++ (ndArr y fv).toList)) (hg : W.grownBy W8 v.ownBlock) (hv2 : v2.ownBlock = v.ownBlock ∨ ∃ g, v2.ownBlock = some g /\ W.heap.size <= g) :
    Rb W8 rb p v s /\ St Av B rb b (W8.setCell ⟨rb, 1, none⟩ v2) { s with N := s.N ++ [y] } /\ Kpt rb b w (W8.setCell ⟨rb, 1, none⟩ v2) := by
  have hrb := h.hrb
  have hbB := h.hb
  have hB := h.hB
  have hvB : ∀ r, v.ownBlock = some r -> B <= r := fun r hr => (own27 ho.1.1 r hr).1
  have hWs := hW.size
  have hgs := hg.size
  have hbl : ∀ k, k < w.heap.size -> v.ownBlock ≠ some k -> W8.heap[k]? = w.heap[k]? := fun k hk hne => (hg.block k (by omega) (fun e => hne e.symm)).trans (hW.block k hk)
  have hp8 : Rb W8 rb p v s := (hbl rb (by omega) fun e => by have := hvB _ e; omega).trans hp
  have hoW : OwnN B W v ps := ownN_grow ho.1 (grown_of hW)
  have hfW : OwnF B W fv y.l := World.ownsRow.kept hf (grown_of hW) (ne_none _)
  refine ⟨hp8, ⟨fun g hg => by have := h.av g hg; simp; omega, hrb, hbB, by simp; omega, h.ne, p, v2, ps ++ [(y, fv)], blk_put (j := 1) (v := v2) hp8, ?_, ?_, ?_, fun x hx => ?_⟩, ⟨⟨?_, ?_, ?_, ?_, fun k hk hh => ?_⟩, ?_⟩⟩
  · refine hR.heap ((set_far _ _ _ _ _ (Ne.symm h.ne)).trans (hbl b (by omega) fun e => by have := hvB _ e; omega)) fun g hg1 hg2 _ => (set_far _ _ _ _ _ hg2).trans (hbl g (by omega) fun e => by have := hvB _ e; omega)
  · rw [List.map_append, hN]; rfl
  · refine ownN_heap (W := W8) ⟨by rw [nCells_snoc, List.length_append]; exact h7, fun x hx => ?_⟩ fun g hg1 _ => set_far _ _ _ _ _ (by omega)
    rcases List.mem_append.1 hx with hx | hx
    · exact World.ownsRow.kept (hoW.2 x hx) hg (rows_ne (hoW.2 x hx) hoW.1 (by decide))
    · obtain rfl : x = (y, fv) := by simpa using hx
      exact World.ownsRow.kept hfW hg (rows_ne hfW hoW.1 (by decide))
  · rcases List.mem_append.1 hx with hx | hx
    · exact ho.2 x hx
    · obtain rfl : x = (y, fv) := by simpa using hx
      exact hfa
  · exact hg.os.trans hW.os
  · exact hg.tape.trans hW.tape
  · exact hg.output.trans hW.output
  · simp; omega
  · have hkr : k ≠ rb := fun e => hh (.inl e)
    exact (set_far _ _ _ _ _ hkr).trans (hbl k hk fun e => hh (.inr (.inr (hp.nbk.trans e))))
  · have e2 : nbk (W8.setCell ⟨rb, 1, none⟩ v2) rb = v2.ownBlock := by
      unfold nbk
      rw [Blk_cell (blk_put (j := 1) (v := v2) hp8) 1]; rfl
    rw [e2, hp.nbk]
    rcases hv2 with h | ⟨g, h, hh⟩
    · exact .inl h
    · exact .inr ⟨g, h, by omega⟩
open T Go.RowKit Go.Shelf
attribute [local go_sem] field_p field_s field_n
theorem may1_any (x : Nd) (A : Option Addr) (n c : Nat) (w : World) : Calls Tryz.prog 89 #[.agg #[.int .i64 x.kind, .int .i64 x.a, .int .i64 x.b, .int .i64 x.c, .int .i64 x.n, .string x.nm, .string x.s, .slice A n c, .int .i64 x.pos]] w fun e w' => e = .returned (.bool (decide (1048576 < x.pos))) /\ Below w.heap.size w w' := by
  obtain ⟨p, hp⟩ : ∃ p, x.pos = p := ⟨_, rfl⟩
  rw [hp]
  by_cases h : 1048576 < p
  · rw [decide_eq_true h]
    go_enter Tryz.func89, Tryz.ntmps89
    go_wp2
    go_ret
    exact ⟨rfl, (Below.refl _ w).alloc (Nat.le_refl _) _⟩
  · rw [decide_eq_false h]
    go_enter Tryz.func89, Tryz.ntmps89
    go_wp2
    go_ret
    exact ⟨rfl, (Below.refl _ w).alloc (Nat.le_refl _) _⟩
theorem idxn_any (l : List Nd) (L c : Nat) (A : Option Addr) (w : World) (HL : Hid (l.length = L)) (hL : L <= 1000000) (HN : Hid (0 < L -> ∃ b o, A = some (⟨b, o, none⟩ : Addr) /\ b < w.heap.size /\ NdsAt w.heap.size w b o l)) :
    Calls Tryz.prog 130 #[.slice A L c, .func (.func 89) #[] #[]] w (FxPost (l.any fun x => decide (1048576 < x.pos)) w) := by
  go_enter Tryz.func130, Tryz.ntmps130
  go_wp2
  go_loopw [8] (fun i wr => ∃ q : Nat, i = .int .i64 (q : Int) /\ q <= L /\ Hid ((l.take q).any (fun x => decide (1048576 < x.pos)) = false) /\ Hid (Below w.heap.size w wr)) (fun i _ => L - (intOf i).toNat)
  case atStart => exact ⟨0, rfl, Nat.zero_le _, Lib.hid (by simp), Lib.hid (Below.refl _ _)⟩
  case round =>
    obtain ⟨q, rfl, hq, HC, HB⟩ := hrel
    have hsz := HB.out.size
    by_cases hlt : q < L
    · obtain ⟨x, hx⟩ : ∃ x, l[q]? = some x := ⟨_, List.getElem?_eq_getElem (by rw [HL.out]; exact hlt)⟩
      obtain ⟨b, o, rfl, hb, hn⟩ := HN.out (by omega)
      obtain ⟨fv, hfl, m0, m1, m2, m3, m4, m5, m6, m7, m8⟩ := (NdsAt.below hn HB.out hb) q x hx
      obtain ⟨FA, fc, rfl, _⟩ := hfl
      have HNN := Lib.hid hn
      clear hn
      cases hp : decide (1048576 < x.pos) with
      | true =>
        have HY := Lib.hid (any_yes (fun x : Nd => decide (1048576 < x.pos)) l q x hx hp)
        have HP := Lib.hid hp
        clear hx hp
        go_wp2_with (go_at_call 89; refine (may1_any x FA _ fc wr).mono ?_; rintro e w1 ⟨rfl, hb1⟩; rw [HP.out]; have HBB := Lib.hid hb1; clear hb1)
        go_ret
        exact ⟨⟨_, rfl, by rw [HY.out]; simp⟩, HB.out.trans (HBB.out.mono hsz)⟩
      | false =>
        have HY := Lib.hid (any_no (fun x : Nd => decide (1048576 < x.pos)) l q x hx HC.out hp)
        have HP := Lib.hid hp
        clear hx hp
        go_wp2_with (go_at_call 89; refine (may1_any x FA _ fc wr).mono ?_; rintro e w1 ⟨rfl, hb1⟩; rw [HP.out]; have HBB := Lib.hid hb1; clear hb1)
        go_roundw
        case rel => exact ⟨q + 1, by go_num, by omega, HY, Lib.hid (HB.out.trans (HBB.out.mono hsz))⟩
        case measure => simp [intOf]; omega
    · obtain rfl : q = L := by omega
      go_wp2
      go_ret
      exact ⟨⟨_, rfl, by have := HC.out; rw [List.take_of_length_le (by rw [HL.out]; omega)] at this; rw [this]; rfl⟩, HB.out⟩
theorem contn_any (l : List Nd) (v : Value) (w : World) (t : Bool) (ht : far l = t) (hL : l.length <= 1000000) (hv : Nodes w.heap.size w v l) :
    Calls Tryz.prog 88 #[v, .func (.func 89) #[] #[]] w fun e w' => e = .returned (.bool t) /\ Below w.heap.size w w' := by
  obtain ⟨A, c, rfl, _, _, hh⟩ := hv
  obtain ⟨L, hl⟩ : ∃ L, l.length = L := ⟨_, rfl⟩
  rw [hl] at hh hL ⊢
  have HC := Lib.hid (idxn_any l L c A w (Lib.hid hl) hL (Lib.hid hh))
  rw [show (l.any fun x => decide (1048576 < x.pos)) = t from ht] at HC
  clear ht hh hl
  go_enter Tryz.func88, Tryz.ntmps88
  go_wp2_with (go_at_call 130; refine HC.out.mono ?_; rintro e w1 ⟨⟨r, rfl, hr⟩, hb1⟩)
  go_ret
  exact ⟨ret_b (by first | exact hr | simp), hb1⟩
noncomputable def mayE (l : List Nd) : Int := if far l = true then 7 else may l
theorem mayp_any (l : List Nd) (v : Value) (w : World) (hK : Kws w.heap.size w) (hv : Nodes w.heap.size w v l) (hS : ∀ x ∈ l, Small x) (hL : l.length <= 1000000) :
    Calls Tryz.prog 55 #[.agg #[v]] w fun e w' => e = .returned (.int .i64 (mayE l)) /\ Below w.heap.size w w' := by
  have hal : Below w.heap.size w (w.alloc (.cells #[v] 25)) := (Below.refl _ w).alloc (Nat.le_refl _) _
  have HC := fun t ht => Lib.hid (contn_any l v (w.alloc (.cells #[v] 25)) t ht hL ((hv.below hal).mono hal.size))
  have HM : Hid (∀ W, Below (w.alloc (.cells #[v] 25)).heap.size (w.alloc (.cells #[v] 25)) W -> Calls Tryz.prog 13 #[.agg #[v]] W fun e w' => e = .returned (.int .i64 (may l)) /\ Below W.heap.size W w') := Lib.hid fun W hb =>
    may_any l v W (Kws_mono ((Kws_mono (hK.on hal) hal.size).on hb) hb.size) ((((hv.below hal).mono hal.size).below hb).mono hb.size) hS
  have HAL := Lib.hid hal
  have HCL : Hid (∃ A c, v = .slice A l.length c) := Lib.hid (by obtain ⟨A, c, e, _⟩ := hv; exact ⟨A, c, e⟩)
  obtain ⟨A, c, rfl⟩ := HCL.out
  unfold mayE
  clear hv hS hK HCL hal
  cases hf : far l with
  | true =>
    have H1 := HC true hf
    rw [if_pos rfl]
    clear HC hf
    go_enter Tryz.func55, Tryz.ntmps55
    go_wp2_with (go_at_call 88; refine H1.out.mono ?_; rintro e w1 ⟨rfl, hb1⟩)
    go_ret
    exact ⟨rfl, HAL.out.trans (hb1.mono (by simp))⟩
  | false =>
    have H1 := HC false hf
    rw [if_neg (by decide)]
    obtain ⟨m, hm⟩ : ∃ m, may l = m := ⟨_, rfl⟩
    rw [hm] at HM ⊢
    clear HC hf hm
    go_enter Tryz.func55, Tryz.ntmps55
    go_wp2_with (first | (go_at_call 13; refine (HM.out _ H2.out).mono ?_; rintro e w2 ⟨rfl, hb2⟩) | (go_at_call 88; refine H1.out.mono ?_; rintro e w1 ⟨rfl, hb1⟩; have H2 := Lib.hid hb1; have hc1 := (hb1.cell (p := ⟨w.heap.size, 0, none⟩) (by simp)).trans (Blk_cell (World.alloc_heap_new w (.cells #[.slice A l.length c] 25)) 0); clear hb1))
    go_ret
    exact ⟨rfl, HAL.out.trans ((H2.out.mono (by simp)).trans (hb2.mono (by have := H2.out.size; simp at this; omega)))⟩
open T Go.RowKit Go.Shelf
attribute [local go_sem] field_p field_s field_n
def PPost (B : Nat) (t : List Nd) (n er : Int) (w : World) (e : Ending) (w' : World) : Prop := ∃ v ps, e = .returned (.tuple #[.agg #[v], .int .i64 n, .int .i64 er]) /\ ps.map Prod.fst = t /\ OwnN B w' v ps /\ Below w.heap.size w w'
section
variable {Av : Nat -> Prop} {B rb b : Nat} {w w' W : World} {s s' : PS}
theorem res28 (tmps : Array Value) (W : World) (p : Nat) (A : Option Addr) (n c : Nat) (z er : Int) (h2 : tmps[2]?.getD undef = .pointer (some ⟨p, 0, none⟩)) (h3 : tmps[3]?.getD undef = .int .i64 z) (h4 : tmps[4]?.getD undef = .int .i64 er) (hb : W.cell? ⟨p, 0, none⟩ = some (.slice A n c)) :
    Sem.run Tryz.prog (results Tryz.f28 tmps) W = .ok (.tuple #[.agg #[.slice A n c], .int .i64 z, .int .i64 er]) W := by
  simp [results, Tryz.results28, go_sem, h2, h3, h4, hb]
theorem prog_bad (h : St Av B rb b w s) (he : s.err ≠ 0) : Calls Tryz.prog 28 #[.pointer (some ⟨rb, 0, none⟩)] w (PPost B [] s.place s.err w) := by
  have hb0 : Below w.heap.size w (w.alloc (.cells #[.slice none 0 0] 25)) := (Below.refl _ w).alloc (Nat.le_refl _) _
  obtain ⟨p, v, hp, _⟩ := (h.alloc (.cells #[.slice none 0 0] 25)).rb_
  obtain ⟨c0, c1, c2, c3, c4⟩ := hp.cells
  have f0 : (w.alloc (.cells #[.slice none 0 0] 25)).frozen? ⟨w.heap.size, 0, none⟩ = false := Blk_frozen (World.alloc_heap_new w _) 0
  have d0 : (w.alloc (.cells #[.slice none 0 0] 25)).cell? ⟨w.heap.size, 0, none⟩ = some (.slice none 0 0) := Blk_cell (World.alloc_heap_new w _) 0
  have hz : (s.err != 0) = true := by simpa using he
  have HB := Lib.hid hb0
  have hl := h.rlt
  have hne : ¬ (w.heap.size = rb) := by omega
  have hne2 : ¬ (rb = w.heap.size) := by omega
  clear h hp he hb0
  go_enter Tryz.func28, Tryz.ntmps28
  go_wp2
  go_region
  all_goals
    go_wp2
    refine bodyPost_ret (res28 _ _ w.heap.size none 0 0 _ _ rfl rfl rfl (by go_simp)) rfl ⟨_, [], rfl, rfl, ownN_nil _ _, HB.out.drew⟩
theorem prog_good (h : St Av B rb b w s) (he : s.err = 0) (hK : Kws w.heap.size w) (hS : ∀ x ∈ s.N, Small x) (hL : s.N.length <= 1000000) : Calls Tryz.prog 28 #[.pointer (some ⟨rb, 0, none⟩)] w (PPost B (if mayE s.N = 0 then s.N else []) 0 (mayE s.N) w) := by
  obtain ⟨p, v, ps, h1, h2, h3, h4⟩ := h.at_
  obtain ⟨A, c, hv, _⟩ := own_nodes h4.1
  rw [h3] at hv
  subst hv
  have hn := own_nodes h4.1
  rw [h3] at hn
  have hb0 : Below w.heap.size w (w.alloc (.cells #[.slice none 0 0] 25)) := (Below.refl _ w).alloc (Nat.le_refl _) _
  have hb1 : Below w.heap.size w ((w.alloc (.cells #[.slice none 0 0] 25)).alloc (.cells #[.slice A s.N.length c] 25)) := hb0.alloc (by simp) _
  have h0 := h.alloc (.cells #[.slice none 0 0] 25)
  have hp : Rb (w.alloc (.cells #[.slice none 0 0] 25)) rb p (.slice A s.N.length c) s := (hb0.block rb h.rlt).trans h1
  obtain ⟨c0, c1, c2, c3, c4⟩ := hp.cells
  have hz : (s.err != 0) = false := by simpa using he
  have hlt := h.rlt
  have HM := Lib.hid (mayp_any s.N _ _ (Kws_mono (hK.on hb1) hb1.size) ((hn.below hb1).mono hb1.size) hS hL)
  have HO : Hid (∀ W, Below (w.heap.size + 1) ((w.alloc (.cells #[.slice none 0 0] 25)).alloc (.cells #[.slice A s.N.length c] 25)) W -> ∀ u : Value, OwnN B (W.setCell ⟨w.heap.size, 0, none⟩ u) (.slice A s.N.length c) ps) := Lib.hid fun W hb u => by
    have hbb : Below w.heap.size w W := hb1.trans (hb.mono (by omega))
    have h5 := ownN_grow h4.1 (grown_of hbb)
    refine ⟨⟨h5.1.1, ?_⟩, fun x hx => ⟨(h5.2 x hx).1, ?_⟩⟩
    · rcases h4.1.1.2 with e0 | ⟨g, cap, cur, e1, e2, e3, e4⟩
      · exact .inl e0
      · have hg := (Array.getElem?_eq_some_iff.1 e3).1
        exact .inr ⟨g, cap, cur, e1, e2, (set_far _ _ _ _ _ (by omega)).trans ((hbb.block g hg).trans e3), e4⟩
    · rcases (h4.1.2 x hx).2 with e0 | ⟨g, cap, cur, e1, e2, e3, e4⟩
      · exact .inl e0
      · have hg := (Array.getElem?_eq_some_iff.1 e3).1
        exact .inr ⟨g, cap, cur, e1, e2, (set_far _ _ _ _ _ (by omega)).trans ((hbb.block g hg).trans e3), e4⟩
  have HB1 := Lib.hid hb1
  have HN := Lib.hid h3
  obtain ⟨m, hm⟩ : ∃ m, s.N.length = m := ⟨_, rfl⟩
  obtain ⟨N, hNN⟩ : ∃ N, s.N = N := ⟨_, rfl⟩
  rw [hm] at HM HO HB1 c1
  rw [hNN] at HM HN ⊢
  obtain ⟨q, hq⟩ : ∃ q, mayE N = q := ⟨_, rfl⟩
  rw [hq] at HM ⊢
  clear h h1 h2 h3 h4 hn hb0 hb1 h0 hp he hK hS hL hm hNN hq
  by_cases h0 : q = 0
  · subst h0
    rw [if_pos rfl]
    go_enter Tryz.func28, Tryz.ntmps28
    go_wp2_with (go_at_call 55; refine HM.out.mono ?_; rintro e w1 ⟨rfl, hb1⟩; have k0 := (hb1.cell (p := ⟨w.heap.size, 0, none⟩) (by simp; omega)).trans (Blk_cell (nextAt (World.alloc_heap_new w (.cells #[.slice none 0 0] 25))) 0); have k1 := (hb1.cell (p := ⟨w.heap.size + 1, 0, none⟩) (by simp)).trans (Blk_cell (newAt (W := w.alloc (.cells #[.slice none 0 0] 25)) (o := .cells #[.slice A m c] 25) (by simp)) 0); have k2 : w1.frozen? ⟨w.heap.size, 0, none⟩ = false := (hb1.frozen (p := ⟨w.heap.size, 0, none⟩) (by simp; omega)).trans (Blk_frozen (nextAt (World.alloc_heap_new w (.cells #[.slice none 0 0] 25))) 0); have HX := Lib.hid hb1; clear hb1)
    exact bodyPost_ret (res28 _ _ w.heap.size A m c _ _ rfl rfl rfl (by go_simp)) rfl ⟨_, ps, rfl, HN.out, HO.out _ (HX.out.mono (by simp)) _, (HB1.out.trans (HX.out.mono (by simp; omega))).setCell (p := ⟨w.heap.size, 0, none⟩) (Nat.le_refl _) _⟩
  · have hz2 : (q != 0) = true := by simpa using h0
    rw [if_neg h0]
    clear h0
    go_enter Tryz.func28, Tryz.ntmps28
    go_wp2_with (go_at_call 55; refine HM.out.mono ?_; rintro e w1 ⟨rfl, hb1⟩; have k0 := (hb1.cell (p := ⟨w.heap.size, 0, none⟩) (by simp; omega)).trans (Blk_cell (nextAt (World.alloc_heap_new w (.cells #[.slice none 0 0] 25))) 0); have k2 : w1.frozen? ⟨w.heap.size, 0, none⟩ = false := (hb1.frozen (p := ⟨w.heap.size, 0, none⟩) (by simp; omega)).trans (Blk_frozen (nextAt (World.alloc_heap_new w (.cells #[.slice none 0 0] 25))) 0); have HX := Lib.hid hb1; clear hb1)
    exact bodyPost_ret (res28 _ _ w.heap.size none 0 0 _ _ rfl rfl rfl (by go_simp)) rfl ⟨_, [], rfl, rfl, ownN_nil _ _, (HB1.out.trans (HX.out.mono (by simp; omega))).setCell (p := ⟨w.heap.size, 0, none⟩) (Nat.le_refl _) _⟩
end
open T Go.RowKit Go.Shelf
attribute [local go_sem] field_p field_s field_n
theorem no_own (Av : Nat -> Prop) : ∀ g, (Value.slice none 0 0).ownBlock = some g -> ¬ Av g := fun g h => by cases h
section
variable {Av : Nat -> Prop} {B rb b : Nat} {w w' : World} {s s' : PS}
theorem add_any (h : St Av B rb b w s) {y : Nd} {FA : Option Addr} {n fc a : Nat} (hf : OwnF B w (.slice FA n fc) y.l) (hfa : ∀ g, (Value.slice FA n fc).ownBlock = some g -> ¬ Av g) (ho : s.add y = some (a, s')) :
    Calls Tryz.prog 84 #[.pointer (some ⟨rb, 0, none⟩), .agg #[.int .i64 y.kind, .int .i64 y.a, .int .i64 y.b, .int .i64 y.c, .int .i64 y.n, .string y.nm, .string y.s, .slice FA n fc, .int .i64 y.pos]] w (APost Av B rb b w a s') := by
  obtain ⟨j0, hj0, hy0, hy1, hy2⟩ := info_parts ndInfo
  unfold PS.add at ho
  split at ho
  case isFalse => cases ho
  rename_i hlen
  cases ho
  obtain ⟨p, v, ps, h1, h2, h3, h4⟩ := h.at_
  have hp : Rb w rb p v s := h1
  have hpl : ps.length = s.N.length := by rw [<- h3, List.length_map]
  obtain ⟨m, hm⟩ : ∃ m, s.N.length = m := ⟨_, rfl⟩
  rw [hm] at hlen hpl
  obtain ⟨A0, k0, rfl⟩ : ∃ A c, v = .slice A m c := by
    obtain ⟨A, c, e⟩ := own_slice h4.1
    exact ⟨A, c, by rw [e, hpl]⟩
  have hb0 : Below w.heap.size w (w.alloc (.cells (ndArr y (.slice FA n fc)) 37)) := (Below.refl _ w).alloc (Nat.le_refl _) _
  have HX : Hid (∀ (W W8 : World) (v2 : Value), Below w.heap.size w W -> W8.ownsRow B 37 9 v2 (m + 1) (nCells ps ++ (ndArr y (.slice FA n fc)).toList) -> W.grownBy W8 (Value.slice A0 m k0).ownBlock -> (v2.ownBlock = (Value.slice A0 m k0).ownBlock ∨ ∃ g, v2.ownBlock = some g /\ W.heap.size <= g) ->
      Rb W8 rb p (.slice A0 m k0) s /\ St Av B rb b (W8.setCell ⟨rb, 1, none⟩ v2) { s with N := s.N ++ [y] } /\ Kpt rb b w (W8.setCell ⟨rb, 1, none⟩ v2)) := Lib.hid fun W W8 v2 hW h7 hg hv => St.added h hp h3 h4 hf hfa h2 hW (by rw [hpl]; exact h7) hg hv
  have hBs := h.hB
  have HRow : Hid (∀ W, Below w.heap.size w W -> W.ownsRow B 37 9 (.slice A0 m k0) m (nCells ps)) := Lib.hid fun W hW => by have := (ownN_grow h4.1 (grown_of hW)).1; rwa [hpl] at this
  obtain ⟨c0, c1, c2, c3, c4⟩ := hp.cells
  have hlt := h.rlt
  have HPL := Lib.hid hpl
  clear h hp h1 h2 h3 h4 hf hpl hfa
  rw [hm]
  clear hm
  have HBW : Hid (Below w.heap.size w ((w.alloc (.cells (ndArr y (.slice FA n fc)) 37)).alloc (.cells (ndArr y (.slice FA n fc)) 37)).drew) := Lib.hid ((hb0.alloc (by simp) _).drew)
  have HC : Hid (∀ j u, (ndArr y (.slice FA n fc)).toList[j]? = some u -> (((w.alloc (.cells (ndArr y (.slice FA n fc)) 37)).alloc (.cells (ndArr y (.slice FA n fc)) 37)).drew).cell? ((⟨w.heap.size + 1, 0, none⟩ : Addr).add j) = some u) :=
    Lib.hid fun j u hj => new_cellsT (w.alloc (.cells (ndArr y (.slice FA n fc)) 37)) 37 (ndArr y (.slice FA n fc)).toList (w.heap.size + 1) (by simp) j u hj
  clear hb0
  go_enter Tryz.func84, Tryz.ntmps84
  go_wp2
  go_region_law (refine step_append_place _ rfl _ _ 23 rfl B 37 j0 (.agg #[.int .i64 0, .int .i64 0, .int .i64 0, .int .i64 0, .int .i64 0, .string ⟨#[]⟩, .string ⟨#[]⟩, .slice none 0 0, .int .i64 0]) 9 104 Tryz.underlying23 hj0 hy0 hy1 hy2 rfl (by decide) _ m _ rfl (HRow.out _ HBW.out) ⟨w.heap.size + 1, 0, none⟩ 1 1 ((ndArr y (.slice FA n fc)).toList) rfl rfl HC.out (nd_one _ _ _ _) (by unfold maxLen; omega) (by omega) (by simp; omega) ?_; intro v8 w8 hown8 hgrow8 hpl8; obtain ⟨g8, c8, rfl⟩ := ownsRow_succ hown8; have HE := Lib.hid (HX.out _ w8 _ HBW.out hown8 hgrow8 hpl8); obtain ⟨d0, d1, d2, d3, d4⟩ := HE.out.1.cells; have f1 := HE.out.1.frozen 1; clear hown8 hgrow8 hpl8)
  all_goals
    go_wp2
    go_ret
    exact ⟨ret_i (by omega), HE.out.2.1, HE.out.2.2⟩
end
end Go.Proofs.YtjakeidbajkdcaaGreatDoor.A
