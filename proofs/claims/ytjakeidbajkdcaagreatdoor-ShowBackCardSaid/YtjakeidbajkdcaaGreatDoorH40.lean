/- Joined by program. -/
import Derived.Test.YtjakeidbajkdcaaGreatDoorH39
import Derived.Deep.RegionHeld3
import Derived.Deep.LoopGhost
set_option maxRecDepth 100000
set_option maxHeartbeats 4000000
namespace Go.Proofs.YtjakeidbajkdcaaGreatDoor.A
open T Go.RowKit Go.Shelf
attribute [local go_sem] field_p field_s field_n
section
variable {Av : Nat -> Prop} {B rb b : Nat} {w w' : World} {s s' : PS}
theorem leaf_any (h : St Av B rb b w s) : Calls Tryz.prog 207 #[.pointer (some ⟨rb, 0, none⟩)] w (NPost Av B rb b w (leafN s).1 (leafN s).2) := by
  unfold leafN
  by_cases h1 : s.is 1 w_true = true
  · rw [if_pos h1]; exact leaf_true h h1
  rw [if_neg h1]
  have n1 := Bool.eq_false_iff.2 h1
  by_cases h2 : s.is 1 w_false = true
  · rw [if_pos h2]; exact leaf_false h n1 h2
  rw [if_neg h2]
  have n2 := Bool.eq_false_iff.2 h2
  by_cases h4 : s.pk.k = 4
  · rw [if_pos h4]; exact leaf_num h n1 n2 (by simpa using h4)
  rw [if_neg h4]
  have n4 : (s.pk.k == 4) = false := by simpa using h4
  by_cases h5 : s.pk.k = 5
  · rw [if_pos h5]; exact leaf_str h n1 n2 n4 (by simpa using h5)
  rw [if_neg h5]
  have n5 : (s.pk.k == 5) = false := by simpa using h5
  by_cases hk : s.pk.k = 2
  · rw [if_pos hk]; exact leaf_name h n1 n2 n4 n5 (by simpa using hk)
  rw [if_neg hk]
  exact leaf_none h n1 n2 n4 n5 (by simpa using hk)
def Reads (B rb b F : Nat) (X : PS -> Ans) : Prop := ∀ ⦃Av : Nat -> Prop⦄ w s a s', St Av B rb b w s -> X s = some (a, s') -> Calls Tryz.prog F #[.pointer (some ⟨rb, 0, none⟩)] w (APost Av B rb b w a s')
theorem bind_some {o : Ans} {f : Nat × PS -> Ans} {r : Nat × PS} (h : o.bind f = some r) : ∃ a s, o = some (a, s) /\ f (a, s) = some r := by
  obtain ⟨⟨a, s⟩, h1, h2⟩ := Option.bind_eq_some_iff.1 h
  exact ⟨a, s, h1, h2⟩
theorem ownF_nil (B : Nat) (W : World) : OwnF B W (.slice none 0 0) [] := World.ownsRow_nil _ _ _ _
theorem op_126 {X : PS -> Ans} (HX : Reads B rb b 126 X) {a a' : Nat} (h : St Av B rb b w s) (ho : opP X a s = some (a', s')) :
    Calls Tryz.prog 87 #[.pointer (some ⟨rb, 0, none⟩), .int .i64 (a : Int), .func (.func 126) #[.pointer (some ⟨rb, 0, none⟩)] #[]] w (APost Av B rb b w a' s') := by
  obtain ⟨p, v, hp, _⟩ := h.rb_
  obtain ⟨c0, c1, c2, c3, c4⟩ := hp.cells
  have HN := Lib.hid (next_s h hp)
  have hBw := h.hB
  have hlt := h.rlt
  obtain ⟨y, s1, h1, h2⟩ := bind_some ho
  have H1 : Hid (∀ W, St Av B rb b W s.nx -> Calls Tryz.prog 126 #[.pointer (some ⟨rb, 0, none⟩)] W (APost Av B rb b W y s1)) := Lib.hid fun W hW => HX W _ _ _ hW h1
  have H2 : Hid (∀ W, St Av B rb b W s1 -> Calls Tryz.prog 84 #[.pointer (some ⟨rb, 0, none⟩), .agg #[.int .i64 10, .int .i64 (a : Int), .int .i64 (y : Int), .int .i64 0, .int .i64 (prim s.pk.s), .string ⟨#[]⟩, .string ⟨#[]⟩, .slice none 0 0, .int .i64 s.pk.p]] W (APost Av B rb b W a' s')) := Lib.hid fun W hW => add_any (y := ⟨10, (a : Int), (y : Int), 0, prim s.pk.s, ⟨#[]⟩, ⟨#[]⟩, [], s.pk.p⟩) hW (ownF_nil _ _) (no_own _) h2
  obtain ⟨q, hq⟩ : ∃ q, prim s.pk.s = q := ⟨_, rfl⟩
  rw [hq] at H2
  have HP : Hid (∀ W, Calls Tryz.prog 129 #[.string s.pk.s] W fun e w' => e = .returned (.int .i64 q) /\ W = w') := Lib.hid fun W => by rw [<- hq]; exact prim_any _ _
  clear h hp h1 h2 ho HX hq
  go_enter Tryz.func87, Tryz.ntmps87
  go_wp2_with (go_at_call 125; refine HN.out.mono ?_; rintro e w1 ⟨rfl, h1, k1⟩; have hz1 := k1.fr.size; have H1s := Lib.hid ((h1.alloc (.cells #[.int .i64 s.pk.k, .string s.pk.s, .int .i64 s.pk.n, .int .i64 s.pk.p] 63)).alloc (.cells #[.int .i64 10, .int .i64 (a : Int), .int .i64 0, .int .i64 0, .int .i64 q, .string ⟨#[]⟩, .string ⟨#[]⟩, .slice none 0 0, .int .i64 s.pk.p] 37)).drew; have K1s := Lib.hid ((k1.alloc h1.rlt (.cells #[.int .i64 s.pk.k, .string s.pk.s, .int .i64 s.pk.n, .int .i64 s.pk.p] 63)).alloc (h1.alloc (.cells #[.int .i64 s.pk.k, .string s.pk.s, .int .i64 s.pk.n, .int .i64 s.pk.p] 63)).rlt (.cells #[.int .i64 10, .int .i64 (a : Int), .int .i64 0, .int .i64 0, .int .i64 q, .string ⟨#[]⟩, .string ⟨#[]⟩, .slice none 0 0, .int .i64 s.pk.p] 37)).drew; have L1s : Hid (Loc rb b ((w1.alloc (.cells #[.int .i64 s.pk.k, .string s.pk.s, .int .i64 s.pk.n, .int .i64 s.pk.p] 63)).alloc (.cells #[.int .i64 10, .int .i64 (a : Int), .int .i64 0, .int .i64 0, .int .i64 q, .string ⟨#[]⟩, .string ⟨#[]⟩, .slice none 0 0, .int .i64 s.pk.p] 37)).drew (w1.heap.size + 1) #[.int .i64 10, .int .i64 (a : Int), .int .i64 0, .int .i64 0, .int .i64 q, .string ⟨#[]⟩, .string ⟨#[]⟩, .slice none 0 0, .int .i64 s.pk.p] 37) := Lib.hid (by have := (Loc.new (h1.alloc (.cells #[.int .i64 s.pk.k, .string s.pk.s, .int .i64 s.pk.n, .int .i64 s.pk.p] 63)) #[.int .i64 10, .int .i64 (a : Int), .int .i64 0, .int .i64 0, .int .i64 q, .string ⟨#[]⟩, .string ⟨#[]⟩, .slice none 0 0, .int .i64 s.pk.p] 37).drew; simp only [World.size_alloc] at this; exact this); clear h1 k1)
  have z1 : (w1.alloc (.cells #[.int .i64 s.pk.k, .string s.pk.s, .int .i64 s.pk.n, .int .i64 s.pk.p] 63)).cell? ⟨w1.heap.size, 1, none⟩ = some (.string s.pk.s) := (Blk_cell (World.alloc_heap_new w1 _) 1)
  have z3 : (w1.alloc (.cells #[.int .i64 s.pk.k, .string s.pk.s, .int .i64 s.pk.n, .int .i64 s.pk.p] 63)).cell? ⟨w1.heap.size, 3, none⟩ = some (.int .i64 s.pk.p) := (Blk_cell (World.alloc_heap_new w1 _) 3)
  have y1 : ((w1.alloc (.cells #[.int .i64 s.pk.k, .string s.pk.s, .int .i64 s.pk.n, .int .i64 s.pk.p] 63)).alloc (.cells Z9 37)).drew.cell? ⟨w1.heap.size, 1, none⟩ = some (.string s.pk.s) := (Blk_cell (nextAt (World.alloc_heap_new w1 _)) 1)
  have y3 : ((w1.alloc (.cells #[.int .i64 s.pk.k, .string s.pk.s, .int .i64 s.pk.n, .int .i64 s.pk.p] 63)).alloc (.cells Z9 37)).drew.cell? ⟨w1.heap.size, 3, none⟩ = some (.int .i64 s.pk.p) := (Blk_cell (nextAt (World.alloc_heap_new w1 _)) 3)
  have u1 : ((w1.alloc (.cells #[.int .i64 s.pk.k, .string s.pk.s, .int .i64 s.pk.n, .int .i64 s.pk.p] 63)).alloc (.cells #[.int .i64 10, .int .i64 (a : Int), .int .i64 0, .int .i64 0, .int .i64 q, .string ⟨#[]⟩, .string ⟨#[]⟩, .slice none 0 0, .int .i64 s.pk.p] 37)).drew.cell? ⟨w1.heap.size, 1, none⟩ = some (.string s.pk.s) := (Blk_cell (nextAt (World.alloc_heap_new w1 _)) 1)
  have u3 : ((w1.alloc (.cells #[.int .i64 s.pk.k, .string s.pk.s, .int .i64 s.pk.n, .int .i64 s.pk.p] 63)).alloc (.cells #[.int .i64 10, .int .i64 (a : Int), .int .i64 0, .int .i64 0, .int .i64 q, .string ⟨#[]⟩, .string ⟨#[]⟩, .slice none 0 0, .int .i64 s.pk.p] 37)).drew.cell? ⟨w1.heap.size, 3, none⟩ = some (.int .i64 s.pk.p) := (Blk_cell (nextAt (World.alloc_heap_new w1 _)) 3)
  go_region_held3 (fun W => W.cell? ⟨w1.heap.size, 1, none⟩ = some (.string s.pk.s) /\ W.cell? ⟨w1.heap.size, 3, none⟩ = some (.int .i64 s.pk.p)) (first | exact ⟨z1, z3⟩ | exact ⟨y1, y3⟩ | exact ⟨u1, u3⟩) (first | (go_at_call 129; refine (HP.out _).mono ?_; rintro e w2 ⟨rfl, rfl⟩))
  all_goals
    clear z1 z3 u1 u3 y1 y3
    go_wp2_with (first | (go_at_call 126; refine (H1.out _ H1s.out).mono ?_; rintro e w3 ⟨rfl, h3, k3⟩; have L3 := L1s.out.kpt k3; have hfz := fun j => L3.frozen j; obtain ⟨q0, q1, q2, q3, q4, q5, q6, q7, q8⟩ := nd_cells (x := ⟨10, (a : Int), 0, 0, q, ⟨#[]⟩, ⟨#[]⟩, [], s.pk.p⟩) (v := .slice none 0 0) L3.1; have H3 := Lib.hid (h3.loc L3 (by decide) (by omega) (j := 2) (.int .i64 (y : Int))); have K3 := Lib.hid ((K1s.out.trans k3).set (k := w1.heap.size + 1) (j := 2) (.int .i64 (y : Int)) (by omega) hlt); clear h3 k3 L3) | (go_at_call 84; refine (H2.out _ H3.out).mono ?_; rintro e w4 ⟨rfl, h4, k4⟩))
    go_ret
    exact ⟨rfl, h4, K3.out.trans k4⟩
theorem op_85 {X : PS -> Ans} (HX : Reads B rb b 85 X) {a a' : Nat} (h : St Av B rb b w s) (ho : opP X a s = some (a', s')) :
    Calls Tryz.prog 87 #[.pointer (some ⟨rb, 0, none⟩), .int .i64 (a : Int), .func (.func 85) #[.pointer (some ⟨rb, 0, none⟩)] #[]] w (APost Av B rb b w a' s') := by
  obtain ⟨p, v, hp, _⟩ := h.rb_
  obtain ⟨c0, c1, c2, c3, c4⟩ := hp.cells
  have HN := Lib.hid (next_s h hp)
  have hBw := h.hB
  have hlt := h.rlt
  obtain ⟨y, s1, h1, h2⟩ := bind_some ho
  have H1 : Hid (∀ W, St Av B rb b W s.nx -> Calls Tryz.prog 85 #[.pointer (some ⟨rb, 0, none⟩)] W (APost Av B rb b W y s1)) := Lib.hid fun W hW => HX W _ _ _ hW h1
  have H2 : Hid (∀ W, St Av B rb b W s1 -> Calls Tryz.prog 84 #[.pointer (some ⟨rb, 0, none⟩), .agg #[.int .i64 10, .int .i64 (a : Int), .int .i64 (y : Int), .int .i64 0, .int .i64 (prim s.pk.s), .string ⟨#[]⟩, .string ⟨#[]⟩, .slice none 0 0, .int .i64 s.pk.p]] W (APost Av B rb b W a' s')) := Lib.hid fun W hW => add_any (y := ⟨10, (a : Int), (y : Int), 0, prim s.pk.s, ⟨#[]⟩, ⟨#[]⟩, [], s.pk.p⟩) hW (ownF_nil _ _) (no_own _) h2
  obtain ⟨q, hq⟩ : ∃ q, prim s.pk.s = q := ⟨_, rfl⟩
  rw [hq] at H2
  have HP : Hid (∀ W, Calls Tryz.prog 129 #[.string s.pk.s] W fun e w' => e = .returned (.int .i64 q) /\ W = w') := Lib.hid fun W => by rw [<- hq]; exact prim_any _ _
  clear h hp h1 h2 ho HX hq
  go_enter Tryz.func87, Tryz.ntmps87
  go_wp2_with (go_at_call 125; refine HN.out.mono ?_; rintro e w1 ⟨rfl, h1, k1⟩; have hz1 := k1.fr.size; have H1s := Lib.hid ((h1.alloc (.cells #[.int .i64 s.pk.k, .string s.pk.s, .int .i64 s.pk.n, .int .i64 s.pk.p] 63)).alloc (.cells #[.int .i64 10, .int .i64 (a : Int), .int .i64 0, .int .i64 0, .int .i64 q, .string ⟨#[]⟩, .string ⟨#[]⟩, .slice none 0 0, .int .i64 s.pk.p] 37)).drew; have K1s := Lib.hid ((k1.alloc h1.rlt (.cells #[.int .i64 s.pk.k, .string s.pk.s, .int .i64 s.pk.n, .int .i64 s.pk.p] 63)).alloc (h1.alloc (.cells #[.int .i64 s.pk.k, .string s.pk.s, .int .i64 s.pk.n, .int .i64 s.pk.p] 63)).rlt (.cells #[.int .i64 10, .int .i64 (a : Int), .int .i64 0, .int .i64 0, .int .i64 q, .string ⟨#[]⟩, .string ⟨#[]⟩, .slice none 0 0, .int .i64 s.pk.p] 37)).drew; have L1s : Hid (Loc rb b ((w1.alloc (.cells #[.int .i64 s.pk.k, .string s.pk.s, .int .i64 s.pk.n, .int .i64 s.pk.p] 63)).alloc (.cells #[.int .i64 10, .int .i64 (a : Int), .int .i64 0, .int .i64 0, .int .i64 q, .string ⟨#[]⟩, .string ⟨#[]⟩, .slice none 0 0, .int .i64 s.pk.p] 37)).drew (w1.heap.size + 1) #[.int .i64 10, .int .i64 (a : Int), .int .i64 0, .int .i64 0, .int .i64 q, .string ⟨#[]⟩, .string ⟨#[]⟩, .slice none 0 0, .int .i64 s.pk.p] 37) := Lib.hid (by have := (Loc.new (h1.alloc (.cells #[.int .i64 s.pk.k, .string s.pk.s, .int .i64 s.pk.n, .int .i64 s.pk.p] 63)) #[.int .i64 10, .int .i64 (a : Int), .int .i64 0, .int .i64 0, .int .i64 q, .string ⟨#[]⟩, .string ⟨#[]⟩, .slice none 0 0, .int .i64 s.pk.p] 37).drew; simp only [World.size_alloc] at this; exact this); clear h1 k1)
  have z1 : (w1.alloc (.cells #[.int .i64 s.pk.k, .string s.pk.s, .int .i64 s.pk.n, .int .i64 s.pk.p] 63)).cell? ⟨w1.heap.size, 1, none⟩ = some (.string s.pk.s) := (Blk_cell (World.alloc_heap_new w1 _) 1)
  have z3 : (w1.alloc (.cells #[.int .i64 s.pk.k, .string s.pk.s, .int .i64 s.pk.n, .int .i64 s.pk.p] 63)).cell? ⟨w1.heap.size, 3, none⟩ = some (.int .i64 s.pk.p) := (Blk_cell (World.alloc_heap_new w1 _) 3)
  have y1 : ((w1.alloc (.cells #[.int .i64 s.pk.k, .string s.pk.s, .int .i64 s.pk.n, .int .i64 s.pk.p] 63)).alloc (.cells Z9 37)).drew.cell? ⟨w1.heap.size, 1, none⟩ = some (.string s.pk.s) := (Blk_cell (nextAt (World.alloc_heap_new w1 _)) 1)
  have y3 : ((w1.alloc (.cells #[.int .i64 s.pk.k, .string s.pk.s, .int .i64 s.pk.n, .int .i64 s.pk.p] 63)).alloc (.cells Z9 37)).drew.cell? ⟨w1.heap.size, 3, none⟩ = some (.int .i64 s.pk.p) := (Blk_cell (nextAt (World.alloc_heap_new w1 _)) 3)
  have u1 : ((w1.alloc (.cells #[.int .i64 s.pk.k, .string s.pk.s, .int .i64 s.pk.n, .int .i64 s.pk.p] 63)).alloc (.cells #[.int .i64 10, .int .i64 (a : Int), .int .i64 0, .int .i64 0, .int .i64 q, .string ⟨#[]⟩, .string ⟨#[]⟩, .slice none 0 0, .int .i64 s.pk.p] 37)).drew.cell? ⟨w1.heap.size, 1, none⟩ = some (.string s.pk.s) := (Blk_cell (nextAt (World.alloc_heap_new w1 _)) 1)
  have u3 : ((w1.alloc (.cells #[.int .i64 s.pk.k, .string s.pk.s, .int .i64 s.pk.n, .int .i64 s.pk.p] 63)).alloc (.cells #[.int .i64 10, .int .i64 (a : Int), .int .i64 0, .int .i64 0, .int .i64 q, .string ⟨#[]⟩, .string ⟨#[]⟩, .slice none 0 0, .int .i64 s.pk.p] 37)).drew.cell? ⟨w1.heap.size, 3, none⟩ = some (.int .i64 s.pk.p) := (Blk_cell (nextAt (World.alloc_heap_new w1 _)) 3)
  go_region_held3 (fun W => W.cell? ⟨w1.heap.size, 1, none⟩ = some (.string s.pk.s) /\ W.cell? ⟨w1.heap.size, 3, none⟩ = some (.int .i64 s.pk.p)) (first | exact ⟨z1, z3⟩ | exact ⟨y1, y3⟩ | exact ⟨u1, u3⟩) (first | (go_at_call 129; refine (HP.out _).mono ?_; rintro e w2 ⟨rfl, rfl⟩))
  all_goals
    clear z1 z3 u1 u3 y1 y3
    go_wp2_with (first | (go_at_call 85; refine (H1.out _ H1s.out).mono ?_; rintro e w3 ⟨rfl, h3, k3⟩; have L3 := L1s.out.kpt k3; have hfz := fun j => L3.frozen j; obtain ⟨q0, q1, q2, q3, q4, q5, q6, q7, q8⟩ := nd_cells (x := ⟨10, (a : Int), 0, 0, q, ⟨#[]⟩, ⟨#[]⟩, [], s.pk.p⟩) (v := .slice none 0 0) L3.1; have H3 := Lib.hid (h3.loc L3 (by decide) (by omega) (j := 2) (.int .i64 (y : Int))); have K3 := Lib.hid ((K1s.out.trans k3).set (k := w1.heap.size + 1) (j := 2) (.int .i64 (y : Int)) (by omega) hlt); clear h3 k3 L3) | (go_at_call 84; refine (H2.out _ H3.out).mono ?_; rintro e w4 ⟨rfl, h4, k4⟩))
    go_ret
    exact ⟨rfl, h4, K3.out.trans k4⟩
theorem op_160 {X : PS -> Ans} (HX : Reads B rb b 160 X) {a a' : Nat} (h : St Av B rb b w s) (ho : opP X a s = some (a', s')) :
    Calls Tryz.prog 87 #[.pointer (some ⟨rb, 0, none⟩), .int .i64 (a : Int), .func (.func 160) #[.pointer (some ⟨rb, 0, none⟩)] #[]] w (APost Av B rb b w a' s') := by
  obtain ⟨p, v, hp, _⟩ := h.rb_
  obtain ⟨c0, c1, c2, c3, c4⟩ := hp.cells
  have HN := Lib.hid (next_s h hp)
  have hBw := h.hB
  have hlt := h.rlt
  obtain ⟨y, s1, h1, h2⟩ := bind_some ho
  have H1 : Hid (∀ W, St Av B rb b W s.nx -> Calls Tryz.prog 160 #[.pointer (some ⟨rb, 0, none⟩)] W (APost Av B rb b W y s1)) := Lib.hid fun W hW => HX W _ _ _ hW h1
  have H2 : Hid (∀ W, St Av B rb b W s1 -> Calls Tryz.prog 84 #[.pointer (some ⟨rb, 0, none⟩), .agg #[.int .i64 10, .int .i64 (a : Int), .int .i64 (y : Int), .int .i64 0, .int .i64 (prim s.pk.s), .string ⟨#[]⟩, .string ⟨#[]⟩, .slice none 0 0, .int .i64 s.pk.p]] W (APost Av B rb b W a' s')) := Lib.hid fun W hW => add_any (y := ⟨10, (a : Int), (y : Int), 0, prim s.pk.s, ⟨#[]⟩, ⟨#[]⟩, [], s.pk.p⟩) hW (ownF_nil _ _) (no_own _) h2
  obtain ⟨q, hq⟩ : ∃ q, prim s.pk.s = q := ⟨_, rfl⟩
  rw [hq] at H2
  have HP : Hid (∀ W, Calls Tryz.prog 129 #[.string s.pk.s] W fun e w' => e = .returned (.int .i64 q) /\ W = w') := Lib.hid fun W => by rw [<- hq]; exact prim_any _ _
  clear h hp h1 h2 ho HX hq
  go_enter Tryz.func87, Tryz.ntmps87
  go_wp2_with (go_at_call 125; refine HN.out.mono ?_; rintro e w1 ⟨rfl, h1, k1⟩; have hz1 := k1.fr.size; have H1s := Lib.hid ((h1.alloc (.cells #[.int .i64 s.pk.k, .string s.pk.s, .int .i64 s.pk.n, .int .i64 s.pk.p] 63)).alloc (.cells #[.int .i64 10, .int .i64 (a : Int), .int .i64 0, .int .i64 0, .int .i64 q, .string ⟨#[]⟩, .string ⟨#[]⟩, .slice none 0 0, .int .i64 s.pk.p] 37)).drew; have K1s := Lib.hid ((k1.alloc h1.rlt (.cells #[.int .i64 s.pk.k, .string s.pk.s, .int .i64 s.pk.n, .int .i64 s.pk.p] 63)).alloc (h1.alloc (.cells #[.int .i64 s.pk.k, .string s.pk.s, .int .i64 s.pk.n, .int .i64 s.pk.p] 63)).rlt (.cells #[.int .i64 10, .int .i64 (a : Int), .int .i64 0, .int .i64 0, .int .i64 q, .string ⟨#[]⟩, .string ⟨#[]⟩, .slice none 0 0, .int .i64 s.pk.p] 37)).drew; have L1s : Hid (Loc rb b ((w1.alloc (.cells #[.int .i64 s.pk.k, .string s.pk.s, .int .i64 s.pk.n, .int .i64 s.pk.p] 63)).alloc (.cells #[.int .i64 10, .int .i64 (a : Int), .int .i64 0, .int .i64 0, .int .i64 q, .string ⟨#[]⟩, .string ⟨#[]⟩, .slice none 0 0, .int .i64 s.pk.p] 37)).drew (w1.heap.size + 1) #[.int .i64 10, .int .i64 (a : Int), .int .i64 0, .int .i64 0, .int .i64 q, .string ⟨#[]⟩, .string ⟨#[]⟩, .slice none 0 0, .int .i64 s.pk.p] 37) := Lib.hid (by have := (Loc.new (h1.alloc (.cells #[.int .i64 s.pk.k, .string s.pk.s, .int .i64 s.pk.n, .int .i64 s.pk.p] 63)) #[.int .i64 10, .int .i64 (a : Int), .int .i64 0, .int .i64 0, .int .i64 q, .string ⟨#[]⟩, .string ⟨#[]⟩, .slice none 0 0, .int .i64 s.pk.p] 37).drew; simp only [World.size_alloc] at this; exact this); clear h1 k1)
  have z1 : (w1.alloc (.cells #[.int .i64 s.pk.k, .string s.pk.s, .int .i64 s.pk.n, .int .i64 s.pk.p] 63)).cell? ⟨w1.heap.size, 1, none⟩ = some (.string s.pk.s) := (Blk_cell (World.alloc_heap_new w1 _) 1)
  have z3 : (w1.alloc (.cells #[.int .i64 s.pk.k, .string s.pk.s, .int .i64 s.pk.n, .int .i64 s.pk.p] 63)).cell? ⟨w1.heap.size, 3, none⟩ = some (.int .i64 s.pk.p) := (Blk_cell (World.alloc_heap_new w1 _) 3)
  have y1 : ((w1.alloc (.cells #[.int .i64 s.pk.k, .string s.pk.s, .int .i64 s.pk.n, .int .i64 s.pk.p] 63)).alloc (.cells Z9 37)).drew.cell? ⟨w1.heap.size, 1, none⟩ = some (.string s.pk.s) := (Blk_cell (nextAt (World.alloc_heap_new w1 _)) 1)
  have y3 : ((w1.alloc (.cells #[.int .i64 s.pk.k, .string s.pk.s, .int .i64 s.pk.n, .int .i64 s.pk.p] 63)).alloc (.cells Z9 37)).drew.cell? ⟨w1.heap.size, 3, none⟩ = some (.int .i64 s.pk.p) := (Blk_cell (nextAt (World.alloc_heap_new w1 _)) 3)
  have u1 : ((w1.alloc (.cells #[.int .i64 s.pk.k, .string s.pk.s, .int .i64 s.pk.n, .int .i64 s.pk.p] 63)).alloc (.cells #[.int .i64 10, .int .i64 (a : Int), .int .i64 0, .int .i64 0, .int .i64 q, .string ⟨#[]⟩, .string ⟨#[]⟩, .slice none 0 0, .int .i64 s.pk.p] 37)).drew.cell? ⟨w1.heap.size, 1, none⟩ = some (.string s.pk.s) := (Blk_cell (nextAt (World.alloc_heap_new w1 _)) 1)
  have u3 : ((w1.alloc (.cells #[.int .i64 s.pk.k, .string s.pk.s, .int .i64 s.pk.n, .int .i64 s.pk.p] 63)).alloc (.cells #[.int .i64 10, .int .i64 (a : Int), .int .i64 0, .int .i64 0, .int .i64 q, .string ⟨#[]⟩, .string ⟨#[]⟩, .slice none 0 0, .int .i64 s.pk.p] 37)).drew.cell? ⟨w1.heap.size, 3, none⟩ = some (.int .i64 s.pk.p) := (Blk_cell (nextAt (World.alloc_heap_new w1 _)) 3)
  go_region_held3 (fun W => W.cell? ⟨w1.heap.size, 1, none⟩ = some (.string s.pk.s) /\ W.cell? ⟨w1.heap.size, 3, none⟩ = some (.int .i64 s.pk.p)) (first | exact ⟨z1, z3⟩ | exact ⟨y1, y3⟩ | exact ⟨u1, u3⟩) (first | (go_at_call 129; refine (HP.out _).mono ?_; rintro e w2 ⟨rfl, rfl⟩))
  all_goals
    clear z1 z3 u1 u3 y1 y3
    go_wp2_with (first | (go_at_call 160; refine (H1.out _ H1s.out).mono ?_; rintro e w3 ⟨rfl, h3, k3⟩; have L3 := L1s.out.kpt k3; have hfz := fun j => L3.frozen j; obtain ⟨q0, q1, q2, q3, q4, q5, q6, q7, q8⟩ := nd_cells (x := ⟨10, (a : Int), 0, 0, q, ⟨#[]⟩, ⟨#[]⟩, [], s.pk.p⟩) (v := .slice none 0 0) L3.1; have H3 := Lib.hid (h3.loc L3 (by decide) (by omega) (j := 2) (.int .i64 (y : Int))); have K3 := Lib.hid ((K1s.out.trans k3).set (k := w1.heap.size + 1) (j := 2) (.int .i64 (y : Int)) (by omega) hlt); clear h3 k3 L3) | (go_at_call 84; refine (H2.out _ H3.out).mono ?_; rintro e w4 ⟨rfl, h4, k4⟩))
    go_ret
    exact ⟨rfl, h4, K3.out.trans k4⟩
end
open T Go.RowKit Go.Shelf
attribute [local go_sem] field_p field_s field_n
section
variable {Av : Nat -> Prop} {B rb b : Nat} {w w' : World} {s s' : PS}
theorem tk_yes {k : Int} {x : List UInt8} (h : s.is k x = true) : s.tk k x = s.nx := by unfold PS.tk; rw [if_pos h]
theorem tk_not {k : Int} {x : List UInt8} (h : s.is k x = false) : s.tk k x = s := by unfold PS.tk; rw [if_neg (by rw [h]; decide)]
theorem post_any {X : PS -> Ans} (HA : Reads B rb b 199 (atomP X)) : Reads B rb b 181 (postP X) := by
  intro Av w s af sf h ho
  obtain ⟨a0, s0, h1, h2⟩ := bind_some ho
  have HA0 := Lib.hid (HA w s _ _ h h1)
  have HL := Lib.hid h2
  clear h ho h1 h2 HA
  go_enter Tryz.func181, Tryz.ntmps181
  go_wp2_with (first | (go_at_call 199; refine HA0.out.mono ?_; rintro e w1 ⟨rfl, h1, k1⟩; obtain ⟨p, v, hp, _⟩ := h1.rb_; obtain ⟨c0, c1, c2, c3, c4⟩ := hp.cells; have H1 := Lib.hid h1; have K1 := Lib.hid k1; have HP1 := Lib.hid hp; clear h1 k1 hp) | (go_at_call 46; refine (peek_s H1.out HP1.out).mono ?_; rintro e w2 ⟨rfl, hb2⟩; have H2 := Lib.hid (H1.out.below hb2); have K2 := Lib.hid (K1.out.trans (Kpt.of_below H1.out.rlt hb2)); clear hb2))
  clear c0 c1 c2 c3 c4
  go_loopg [3, 4] (s0.l.length + 1) (fun n s3 s4 wr => ∃ (a : Nat) (x : PS), s3 = .int .i64 (a : Int) /\ s4 = .int .i64 x.pk.p /\ Hid (St Av B rb b wr x) /\ Hid (Kpt rb b w wr) /\ Hid (postL n a x = some (af, sf)))
  case atStart => exact ⟨a0, s0, rfl, rfl, H2, K2, HL⟩
  case round =>
    obtain ⟨a, x, rfl, rfl, HS, HK, HPP⟩ := hrel
    cases gk with
    | zero => have := HPP.out; simp [postL] at this
    | succ m =>
      have hp := HPP.out
      rw [postL] at hp
      by_cases hx : x.is 7 s_dot = true
      · rw [if_pos hx] at hp
        obtain ⟨a1, s1, e1, e2⟩ := bind_some hp
        have HE2 := Lib.hid e2
        have HT := Lib.hid (tk_yes hx)
        obtain ⟨nm, hnm⟩ : ∃ nm, (x.nx.txt 2).1 = nm := ⟨_, rfl⟩
        have HAD : Hid (∀ W, St Av B rb b W (x.nx.txt 2).2 -> Calls Tryz.prog 84 #[.pointer (some ⟨rb, 0, none⟩), .agg #[.int .i64 12, .int .i64 (a : Int), .int .i64 0, .int .i64 0, .int .i64 0, .string nm, .string ⟨#[]⟩, .slice none 0 0, .int .i64 x.pk.p]] W (APost Av B rb b W a1 s1)) := Lib.hid fun W hW => by
          rw [hnm] at e1
          exact add_any (y := ⟨12, (a : Int), 0, 0, 0, nm, ⟨#[]⟩, [], x.pk.p⟩) hW (ownF_nil _ _) (no_own _) e1
        have HNM := Lib.hid hnm
        clear hp e1 e2 hnm
        go_wp2_with (first | (go_at_call 46; refine (peek_s H5.out HP5.out).mono ?_; rintro e w6 ⟨rfl, hb6⟩; have H6 := Lib.hid (H5.out.below hb6); have K6 := Lib.hid (K5.out.trans (Kpt.of_below H5.out.rlt hb6)); clear hb6) | (go_at_call 84; refine (HAD.out _ H4.out).mono ?_; rintro e w5 ⟨rfl, h5, k5⟩; obtain ⟨p5, v5, hp5, _⟩ := h5.rb_; obtain ⟨c0, c1, c2, c3, c4⟩ := hp5.cells; have H5 := Lib.hid h5; have K5 := Lib.hid (K4.out.trans k5); have HP5 := Lib.hid hp5; clear h5 k5 hp5) | (go_at_call 82; refine (text_any H3.out 2).mono ?_; rintro e w4 ⟨rfl, h4, k4⟩; rw [HNM.out]; have H4 := Lib.hid h4; have K4 := Lib.hid (K3.out.trans k4); clear h4 k4) | (go_at_call 200; refine (sign_at (l := s_dot) HS.out (mk_list #[46])).mono ?_; rintro e w3 ⟨rfl, h3, k3⟩; rw [HT.out] at h3; have H3 := Lib.hid h3; have K3 := Lib.hid (HK.out.trans k3); clear h3 k3))
        go_roundg m
        case measure => omega
        case rel => exact ⟨a1, s1, rfl, rfl, H6, K6, HE2⟩
      · rw [if_neg hx] at hp
        cases hp
        have hx' := Bool.eq_false_iff.2 hx
        have HT := Lib.hid (tk_not hx')
        clear hx
        go_wp2_with (go_at_call 200; refine (sign_at (l := s_dot) HS.out (mk_list #[46])).mono ?_; rintro e w3 ⟨rfl, h3, k3⟩; rw [HT.out] at h3; have H3 := Lib.hid h3; have K3 := Lib.hid (HK.out.trans k3); clear h3 k3)
        go_ret
        exact ⟨rfl, H3.out, K3.out⟩
end
open T Go.RowKit Go.Shelf
attribute [local go_sem] field_p field_s field_n
section
variable {Av : Nat -> Prop} {B rb b : Nat} {w w' : World} {s s' : PS}
theorem app_tag {X : PS -> Ans} (HQ : Reads B rb b 181 (postP X)) {af : Nat} {sf : PS} (h : St Av B rb b w s) (hk : s.pk.k = 3) (ho : appP X s = some (af, sf)) : Calls Tryz.prog 160 #[.pointer (some ⟨rb, 0, none⟩)] w (APost Av B rb b w af sf) := by
  unfold appP at ho
  rw [if_pos hk] at ho
  obtain ⟨a0, s0, h1, h2⟩ := bind_some ho
  have hk' : (s.pk.k == 3) = true := by simpa using hk
  obtain ⟨p, v, hp, _⟩ := h.rb_
  obtain ⟨c0, c1, c2, c3, c4⟩ := hp.cells
  have HPK := Lib.hid (peek_s h hp)
  have hlt := h.rlt
  have hBw := h.hB
  have H := Lib.hid h
  obtain ⟨nm, hnm⟩ : ∃ nm, (s.txt 3).1 = nm := ⟨_, rfl⟩
  rw [hnm] at h2
  have HNM := Lib.hid hnm
  have HQ0 : Hid (∀ W, St Av B rb b W (s.txt 3).2 -> Calls Tryz.prog 181 #[.pointer (some ⟨rb, 0, none⟩)] W (APost Av B rb b W a0 s0)) := Lib.hid fun W hW => HQ W _ _ _ hW h1
  have HAD : Hid (∀ W, St Av B rb b W s0 -> Calls Tryz.prog 84 #[.pointer (some ⟨rb, 0, none⟩), .agg #[.int .i64 13, .int .i64 (a0 : Int), .int .i64 0, .int .i64 0, .int .i64 0, .string nm, .string ⟨#[]⟩, .slice none 0 0, .int .i64 s.pk.p]] W (APost Av B rb b W af sf)) := Lib.hid fun W hW =>
    add_any (y := ⟨13, (a0 : Int), 0, 0, 0, nm, ⟨#[]⟩, [], s.pk.p⟩) hW (ownF_nil _ _) (no_own _) h2
  clear h hp h1 h2 ho HQ hk hnm
  go_enter Tryz.func160, Tryz.ntmps160
  go_wp2_with (first | (go_at_call 84; refine (HAD.out _ H4.out).mono ?_; rintro e w5 ⟨rfl, h5, k5⟩; have H5 := Lib.hid h5; have K5 := Lib.hid (K4.out.trans k5); clear h5 k5) | (go_at_call 181; refine (HQ0.out _ H3.out).mono ?_; rintro e w4 ⟨rfl, h4, k4⟩; have L4 := (L3.out.kpt k4); have hfz4 := fun j => L4.frozen j; obtain ⟨q0, q1, q2, q3, q4, q5, q6, q7, q8⟩ := nd_cells (x := ⟨13, 0, 0, 0, 0, nm, ⟨#[]⟩, [], s.pk.p⟩) (v := .slice none 0 0) L4.1; have H4 := Lib.hid (h4.loc L4 (by decide) (by omega) (j := 1) (.int .i64 (a0 : Int))); have K4 := Lib.hid ((K3.out.trans k4).set (k := w1.heap.size + 1) (j := 1) (.int .i64 (a0 : Int)) (by omega) hlt); clear h4 k4 L4) | (go_at_call 82; refine (text_any H2.out 3).mono ?_; rintro e w3 ⟨rfl, h3, k3⟩; rw [HNM.out]; have L3a := L2.out.kpt k3; have hfz3 := fun j => L3a.frozen j; obtain ⟨y0, y1, y2, y3, y4, y5, y6, y7, y8⟩ := nd_cells (x := ⟨13, 0, 0, 0, 0, ⟨#[]⟩, ⟨#[]⟩, [], s.pk.p⟩) (v := .slice none 0 0) L3a.1; have L3 := Lib.hid (L3a.set (j := 5) (.string nm)); have H3 := Lib.hid (h3.loc L3a (by decide) (by omega) (j := 5) (.string nm)); have K3 := Lib.hid ((K2.out.trans k3).set (k := w1.heap.size + 1) (j := 5) (.string nm) (by omega) hlt); clear h3 k3 L3a) | (go_at_call 46; refine HPK.out.mono ?_; rintro e w1 ⟨rfl, hb1⟩; have hz1 := hb1.size; have hb := hb1.alloc hb1.size (.cells #[.int .i64 s.pk.k, .string s.pk.s, .int .i64 s.pk.n, .int .i64 s.pk.p] 63); have h1 := H.out.below hb; have H2 := Lib.hid (h1.alloc (.cells #[.int .i64 13, .int .i64 0, .int .i64 0, .int .i64 0, .int .i64 0, .string ⟨#[]⟩, .string ⟨#[]⟩, .slice none 0 0, .int .i64 s.pk.p] 37)); have K2 := Lib.hid ((Kpt.of_below (b := b) hlt hb).alloc h1.rlt (.cells #[.int .i64 13, .int .i64 0, .int .i64 0, .int .i64 0, .int .i64 0, .string ⟨#[]⟩, .string ⟨#[]⟩, .slice none 0 0, .int .i64 s.pk.p] 37)); have L2 : Hid (Loc rb b ((w1.alloc (.cells #[.int .i64 s.pk.k, .string s.pk.s, .int .i64 s.pk.n, .int .i64 s.pk.p] 63)).alloc (.cells #[.int .i64 13, .int .i64 0, .int .i64 0, .int .i64 0, .int .i64 0, .string ⟨#[]⟩, .string ⟨#[]⟩, .slice none 0 0, .int .i64 s.pk.p] 37)) (w1.heap.size + 1) #[.int .i64 13, .int .i64 0, .int .i64 0, .int .i64 0, .int .i64 0, .string ⟨#[]⟩, .string ⟨#[]⟩, .slice none 0 0, .int .i64 s.pk.p] 37) := Lib.hid (by have := Loc.new h1 #[.int .i64 13, .int .i64 0, .int .i64 0, .int .i64 0, .int .i64 0, .string ⟨#[]⟩, .string ⟨#[]⟩, .slice none 0 0, .int .i64 s.pk.p] 37; simp only [World.size_alloc] at this; exact this); clear hb hb1 h1))
  go_ret
  exact ⟨rfl, H5.out, K5.out⟩
end
open T Go.RowKit Go.Shelf
attribute [local go_sem] field_p field_s field_n
section
variable {Av : Nat -> Prop} {B rb b : Nat} {w w' : World} {s s' : PS}
theorem St.nd (h : St Av B rb b w s) {a : Nat} {x : Nd} (hx : s.N[a]? = some x) : ∃ g o c, w.cell? ⟨rb, 1, none⟩ = some (.slice (some ⟨g, o, none⟩) s.N.length c) /\ w.cell? ⟨g, o + a * 9, none⟩ = some (.int .i64 x.kind) /\ w.cell? ⟨g, o + a * 9 + 8, none⟩ = some (.int .i64 x.pos) := by
  obtain ⟨p, v, ps, h1, _, h3, h4⟩ := h.at_
  obtain ⟨A, c, e, _, _, hh⟩ := own_nodes h4.1
  rw [h3] at e hh
  have hl : a < s.N.length := (List.getElem?_eq_some_iff.1 hx).1
  obtain ⟨g, o, e1, _, e3⟩ := hh (by omega)
  obtain ⟨_, _, m0, _, _, _, _, _, _, _, m8⟩ := e3 a x hx
  exact ⟨g, o, c, by rw [Blk_cell h1 1, <- e1, <- e]; rfl, m0, m8⟩
theorem app_post {X : PS -> Ans} (HQ : Reads B rb b 181 (postP X)) {af : Nat} {sf : PS} (h : St Av B rb b w s) (hk : s.pk.k ≠ 3) (ho : appP X s = some (af, sf)) : Calls Tryz.prog 160 #[.pointer (some ⟨rb, 0, none⟩)] w (APost Av B rb b w af sf) := by
  unfold appP at ho
  rw [if_neg hk] at ho
  obtain ⟨a0, s0, h1, h2⟩ := bind_some ho
  have hk' : (s.pk.k == 3) = false := by simpa using hk
  obtain ⟨p, v, hp, _⟩ := h.rb_
  obtain ⟨c0, c1, c2, c3, c4⟩ := hp.cells
  have HPK := Lib.hid (peek_s h hp)
  have hlt := h.rlt
  have hBw := h.hB
  have H := Lib.hid h
  have HQ0 : Hid (∀ W, St Av B rb b W s -> Calls Tryz.prog 181 #[.pointer (some ⟨rb, 0, none⟩)] W (APost Av B rb b W a0 s0)) := Lib.hid fun W hW => HQ W _ _ _ hW h1
  have HQQ := Lib.hid HQ
  have HL := Lib.hid h2
  clear h hp h1 h2 ho HQ hk
  go_enter Tryz.func160, Tryz.ntmps160
  go_wp2_with (first | (go_at_call 46; refine HPK.out.mono ?_; rintro e w1 ⟨rfl, hb1⟩; have hb := hb1.alloc hb1.size (.cells #[.int .i64 s.pk.k, .string s.pk.s, .int .i64 s.pk.n, .int .i64 s.pk.p] 63); have HB := Lib.hid hb; clear hb hb1) | (go_at_call 181; refine (HQ0.out _ (H.out.below HB.out)).mono ?_; rintro e w2 ⟨rfl, h2, k2⟩; have H2 := Lib.hid h2; have K2 := Lib.hid ((Kpt.of_below (b := b) hlt HB.out).trans k2); clear h2 k2))
  clear c0 c1 c2 c3 c4
  go_loopg [5] (s0.l.length + 1) (fun n s5 wr => ∃ (a : Nat) (x : PS), s5 = .int .i64 (a : Int) /\ Hid (St Av B rb b wr x) /\ Hid (Kpt rb b w wr) /\ Hid (appL (postP X) n a x = some (af, sf)))
  case atStart => exact ⟨a0, s0, rfl, H2, K2, HL⟩
  case round =>
    obtain ⟨a, x, rfl, HS, HK, HPP⟩ := hrel
    cases gk with
    | zero => have := HPP.out; simp [appL] at this
    | succ m =>
      have hp := HPP.out
      rw [appL] at hp
      have hzw := HK.out.fr.size
      by_cases hx : begins x.l = true
      · rw [if_pos hx] at hp
        cases hn : x.N[a]? with
        | none => rw [hn] at hp; cases hp
        | some y =>
          rw [hn] at hp
          simp only at hp
          obtain ⟨a1, s1, e1, e2⟩ := bind_some hp
          obtain ⟨a2, s2, e3, e4⟩ := bind_some e2
          have HE4 := Lib.hid e4
          obtain ⟨g, o, c, g1, g2, g3⟩ := HS.out.nd hn
          have hal : a < x.N.length := (List.getElem?_eq_some_iff.1 hn).1
          obtain ⟨NL, hNL⟩ : ∃ NL, x.N.length = NL := ⟨_, rfl⟩
          rw [hNL] at g1 hal
          obtain ⟨yp, hyp⟩ : ∃ yp, y.pos = yp := ⟨_, rfl⟩
          rw [hyp] at g3 e3
          have gb : g < wr.heap.size := World.block_lt_of_cell? wr _ g3
          have HI : Hid (∀ W, Below wr.heap.size wr W -> True) := Lib.hid fun _ _ => trivial
          have HIA := Lib.hid (isAtom_any HS.out)
          rw [hx] at HIA
          have HP1 : Hid (∀ W, St Av B rb b W x -> Calls Tryz.prog 181 #[.pointer (some ⟨rb, 0, none⟩)] W (APost Av B rb b W a1 s1)) := Lib.hid fun W hW => HQQ.out W _ _ _ hW e1
          have HAD : Hid (∀ W, St Av B rb b W s1 -> Calls Tryz.prog 84 #[.pointer (some ⟨rb, 0, none⟩), .agg #[.int .i64 6, .int .i64 (a : Int), .int .i64 (a1 : Int), .int .i64 0, .int .i64 0, .string ⟨#[]⟩, .string ⟨#[]⟩, .slice none 0 0, .int .i64 yp]] W (APost Av B rb b W a2 s2)) := Lib.hid fun W hW =>
            add_any (y := ⟨6, (a : Int), (a1 : Int), 0, 0, ⟨#[]⟩, ⟨#[]⟩, [], yp⟩) hW (ownF_nil _ _) (no_own _) e3
          clear hp e1 e2 e3 e4 hn hx hNL hyp HI
          go_wp2_with (first | (go_at_call 84; refine (HAD.out _ H4.out).mono ?_; rintro e w5 ⟨rfl, h5, k5⟩; have H5 := Lib.hid h5; have K5 := Lib.hid (K4.out.trans k5); clear h5 k5) | (go_at_call 181; refine (HP1.out _ H3.out).mono ?_; rintro e w4 ⟨rfl, h4, k4⟩; have L4 := (L3.out.kpt k4); have hfz4 := fun j => L4.frozen j; obtain ⟨q0, q1, q2, q3, q4, q5, q6, q7, q8⟩ := nd_cells (x := ⟨6, (a : Int), 0, 0, 0, ⟨#[]⟩, ⟨#[]⟩, [], yp⟩) (v := .slice none 0 0) L4.1; have H4 := Lib.hid (h4.loc L4 (by decide) (by omega) (j := 2) (.int .i64 (a1 : Int))); have K4 := Lib.hid ((K3.out.trans k4).set (k := w3.heap.size) (j := 2) (.int .i64 (a1 : Int)) (by omega) hlt); clear h4 k4 L4) | (go_at_call 182; refine HIA.out.mono ?_; rintro e w3 ⟨rfl, hb3⟩; have hz3 := hb3.size; have h3 := HS.out.below hb3; have d1 := (hb3.cell (p := ⟨rb, 1, none⟩) HS.out.rlt).trans g1; have d2 := (hb3.cell (p := ⟨g, o + a * 9 + 8, none⟩) gb).trans g3; have k3 := HK.out.trans (Kpt.of_below HS.out.rlt hb3); have H3 := Lib.hid (h3.alloc (.cells #[.int .i64 6, .int .i64 (a : Int), .int .i64 0, .int .i64 0, .int .i64 0, .string ⟨#[]⟩, .string ⟨#[]⟩, .slice none 0 0, .int .i64 yp] 37)); have K3 := Lib.hid (k3.alloc h3.rlt (.cells #[.int .i64 6, .int .i64 (a : Int), .int .i64 0, .int .i64 0, .int .i64 0, .string ⟨#[]⟩, .string ⟨#[]⟩, .slice none 0 0, .int .i64 yp] 37)); have L3 := Lib.hid (Loc.new h3 #[.int .i64 6, .int .i64 (a : Int), .int .i64 0, .int .i64 0, .int .i64 0, .string ⟨#[]⟩, .string ⟨#[]⟩, .slice none 0 0, .int .i64 yp] 37); clear hb3 h3 k3))
          go_roundg m
          case measure => omega
          case rel => exact ⟨a2, s2, rfl, H5, K5, HE4⟩
      · rw [if_neg hx] at hp
        cases hp
        have hx' := Bool.eq_false_iff.2 hx
        have HIA := Lib.hid (isAtom_any HS.out)
        rw [hx'] at HIA
        clear hx hx'
        go_wp2_with (go_at_call 182; refine HIA.out.mono ?_; rintro e w3 ⟨rfl, hb3⟩; have H3 := Lib.hid (HS.out.below hb3); have K3 := Lib.hid (HK.out.trans (Kpt.of_below HS.out.rlt hb3)); clear hb3)
        go_ret
        exact ⟨rfl, H3.out, K3.out⟩
theorem app_any {X : PS -> Ans} (HQ : Reads B rb b 181 (postP X)) : Reads B rb b 160 (appP X) := by
  intro Av w s af sf h ho
  by_cases hk : s.pk.k = 3
  · exact app_tag HQ h hk ho
  · exact app_post HQ h hk ho
end
open T Go.RowKit Go.Shelf
attribute [local go_sem] field_p field_s field_n
section
variable {Av : Nat -> Prop} {B rb b : Nat} {w w' : World} {s s' : PS}
theorem any_prod (s : PS) : ([(⟨#[42]⟩ : ByteArray), ⟨#[47]⟩].any fun z => s.is 7 z.toList) = anyOf o_prod s := by simp [anyOf, o_prod, mk_list]
theorem any_sum (s : PS) : ([(⟨#[43]⟩ : ByteArray), ⟨#[45]⟩, ⟨#[94]⟩].any fun z => s.is 7 z.toList) = anyOf o_sum s := by simp [anyOf, o_sum, mk_list]
theorem any_cmp (s : PS) : ([(⟨#[60]⟩ : ByteArray), ⟨#[61, 61]⟩].any fun z => s.is 7 z.toList) = anyOf o_cmp s := by simp [anyOf, o_cmp, mk_list]
theorem prod_any {X : PS -> Ans} (HX : Reads B rb b 160 (appP X)) : Reads B rb b 126 (prodP X) := by
  intro Av w s af sf h ho
  unfold prodP at ho
  obtain ⟨a0, s0, h1, h2⟩ := bind_some ho
  have HA0 := Lib.hid (HX w s _ _ h h1)
  have HL := Lib.hid h2
  have HXX := Lib.hid HX
  clear h ho h1 h2 HX
  go_enter Tryz.func126, Tryz.ntmps126
  go_wp2_with (go_at_call 160; refine HA0.out.mono ?_; rintro e w1 ⟨rfl, h1, k1⟩; have H2 := Lib.hid h1; have K2 := Lib.hid k1; clear h1 k1)
  go_loopg [3] (s0.l.length + 1) (fun n s3 wr => ∃ (a : Nat) (x : PS), s3 = .int .i64 (a : Int) /\ Hid (St Av B rb b wr x) /\ Hid (Kpt rb b w wr) /\ Hid (loopP o_prod (appP X) n a x = some (af, sf)))
  case atStart => exact ⟨a0, s0, rfl, H2, K2, HL⟩
  case round =>
    obtain ⟨a, x, rfl, HS, HK, HPP⟩ := hrel
    cases gk with
    | zero => have := HPP.out; simp [loopP] at this
    | succ m =>
      have hp := HPP.out
      rw [loopP] at hp
      have HI := Lib.hid (isSign_any (HS.out.alloc (.cells #[.string ⟨#[42]⟩, .string ⟨#[47]⟩] 9)) [⟨#[42]⟩, ⟨#[47]⟩] 2 2 wr.heap.size 0 _ (any_prod x) rfl (by decide) (by simp) (tx_two wr 9 ⟨#[42]⟩ ⟨#[47]⟩ _ rfl))
      by_cases hx : anyOf o_prod x = true
      · rw [if_pos hx] at hp
        rw [hx] at HI
        obtain ⟨a1, s1, e1, e2⟩ := bind_some hp
        have HE2 := Lib.hid e2
        have HO : Hid (∀ W, St Av B rb b W x -> Calls Tryz.prog 87 #[.pointer (some ⟨rb, 0, none⟩), .int .i64 (a : Int), .func (.func 160) #[.pointer (some ⟨rb, 0, none⟩)] #[]] W (APost Av B rb b W a1 s1)) := Lib.hid fun W hW => op_160 HXX.out hW e1
        clear hp e1 e2 hx
        go_wp2_with (first | (go_at_call 87; refine (HO.out _ H3.out).mono ?_; rintro e w4 ⟨rfl, h4, k4⟩; have H4 := Lib.hid h4; have K4 := Lib.hid (K3.out.trans k4); clear h4 k4) | (go_at_call 86; refine HI.out.mono ?_; rintro e w3 ⟨rfl, hb3⟩; have h0 := HS.out.alloc (.cells #[.string ⟨#[42]⟩, .string ⟨#[47]⟩] 9); have H3 := Lib.hid (h0.below hb3); have K3 := Lib.hid ((HK.out.alloc HS.out.rlt (.cells #[.string ⟨#[42]⟩, .string ⟨#[47]⟩] 9)).trans (Kpt.of_below h0.rlt hb3)); clear hb3 h0))
        go_roundg m
        case measure => omega
        case rel => exact ⟨a1, s1, rfl, H4, K4, HE2⟩
      · rw [if_neg hx] at hp
        rw [Bool.eq_false_iff.2 hx] at HI
        cases hp
        clear hx
        go_wp2_with (go_at_call 86; refine HI.out.mono ?_; rintro e w3 ⟨rfl, hb3⟩; have h0 := HS.out.alloc (.cells #[.string ⟨#[42]⟩, .string ⟨#[47]⟩] 9); have H3 := Lib.hid (h0.below hb3); have K3 := Lib.hid ((HK.out.alloc HS.out.rlt (.cells #[.string ⟨#[42]⟩, .string ⟨#[47]⟩] 9)).trans (Kpt.of_below h0.rlt hb3)); clear hb3 h0)
        go_ret
        exact ⟨rfl, H3.out, K3.out⟩
theorem sum_any {X : PS -> Ans} (HX : Reads B rb b 126 (prodP X)) : Reads B rb b 85 (sumP X) := by
  intro Av w s af sf h ho
  unfold sumP at ho
  obtain ⟨a0, s0, h1, h2⟩ := bind_some ho
  have HA0 := Lib.hid (HX w s _ _ h h1)
  have HL := Lib.hid h2
  have HXX := Lib.hid HX
  clear h ho h1 h2 HX
  go_enter Tryz.func85, Tryz.ntmps85
  go_wp2_with (go_at_call 126; refine HA0.out.mono ?_; rintro e w1 ⟨rfl, h1, k1⟩; have H2 := Lib.hid h1; have K2 := Lib.hid k1; clear h1 k1)
  go_loopg [3] (s0.l.length + 1) (fun n s3 wr => ∃ (a : Nat) (x : PS), s3 = .int .i64 (a : Int) /\ Hid (St Av B rb b wr x) /\ Hid (Kpt rb b w wr) /\ Hid (loopP o_sum (prodP X) n a x = some (af, sf)))
  case atStart => exact ⟨a0, s0, rfl, H2, K2, HL⟩
  case round =>
    obtain ⟨a, x, rfl, HS, HK, HPP⟩ := hrel
    cases gk with
    | zero => have := HPP.out; simp [loopP] at this
    | succ m =>
      have hp := HPP.out
      rw [loopP] at hp
      have HI := Lib.hid (isSign_any (HS.out.alloc (.cells #[.string ⟨#[43]⟩, .string ⟨#[45]⟩, .string ⟨#[94]⟩] 9)) [⟨#[43]⟩, ⟨#[45]⟩, ⟨#[94]⟩] 3 3 wr.heap.size 0 _ (any_sum x) rfl (by decide) (by simp) (tx_three wr 9 ⟨#[43]⟩ ⟨#[45]⟩ ⟨#[94]⟩ _ rfl))
      by_cases hx : anyOf o_sum x = true
      · rw [if_pos hx] at hp
        rw [hx] at HI
        obtain ⟨a1, s1, e1, e2⟩ := bind_some hp
        have HE2 := Lib.hid e2
        have HO : Hid (∀ W, St Av B rb b W x -> Calls Tryz.prog 87 #[.pointer (some ⟨rb, 0, none⟩), .int .i64 (a : Int), .func (.func 126) #[.pointer (some ⟨rb, 0, none⟩)] #[]] W (APost Av B rb b W a1 s1)) := Lib.hid fun W hW => op_126 HXX.out hW e1
        clear hp e1 e2 hx
        go_wp2_with (first | (go_at_call 87; refine (HO.out _ H3.out).mono ?_; rintro e w4 ⟨rfl, h4, k4⟩; have H4 := Lib.hid h4; have K4 := Lib.hid (K3.out.trans k4); clear h4 k4) | (go_at_call 86; refine HI.out.mono ?_; rintro e w3 ⟨rfl, hb3⟩; have h0 := HS.out.alloc (.cells #[.string ⟨#[43]⟩, .string ⟨#[45]⟩, .string ⟨#[94]⟩] 9); have H3 := Lib.hid (h0.below hb3); have K3 := Lib.hid ((HK.out.alloc HS.out.rlt (.cells #[.string ⟨#[43]⟩, .string ⟨#[45]⟩, .string ⟨#[94]⟩] 9)).trans (Kpt.of_below h0.rlt hb3)); clear hb3 h0))
        go_roundg m
        case measure => omega
        case rel => exact ⟨a1, s1, rfl, H4, K4, HE2⟩
      · rw [if_neg hx] at hp
        rw [Bool.eq_false_iff.2 hx] at HI
        cases hp
        clear hx
        go_wp2_with (go_at_call 86; refine HI.out.mono ?_; rintro e w3 ⟨rfl, hb3⟩; have h0 := HS.out.alloc (.cells #[.string ⟨#[43]⟩, .string ⟨#[45]⟩, .string ⟨#[94]⟩] 9); have H3 := Lib.hid (h0.below hb3); have K3 := Lib.hid ((HK.out.alloc HS.out.rlt (.cells #[.string ⟨#[43]⟩, .string ⟨#[45]⟩, .string ⟨#[94]⟩] 9)).trans (Kpt.of_below h0.rlt hb3)); clear hb3 h0)
        go_ret
        exact ⟨rfl, H3.out, K3.out⟩
theorem cmp_any {X : PS -> Ans} (HX : Reads B rb b 85 (sumP X)) : Reads B rb b 53 (cmpP X) := by
  intro Av w s af sf h ho
  unfold cmpP at ho
  obtain ⟨a0, s0, h1, h2⟩ := bind_some ho
  have HA0 := Lib.hid (HX w s _ _ h h1)
  simp only at h2
  by_cases hx : anyOf o_cmp s0 = true
  · rw [if_pos hx] at h2
    have HO : Hid (∀ W, St Av B rb b W s0 -> Calls Tryz.prog 87 #[.pointer (some ⟨rb, 0, none⟩), .int .i64 (a0 : Int), .func (.func 85) #[.pointer (some ⟨rb, 0, none⟩)] #[]] W (APost Av B rb b W af sf)) := Lib.hid fun W hW => op_85 HX hW h2
    have HX2 := Lib.hid hx
    clear h ho h1 h2 HX hx
    go_enter Tryz.func53, Tryz.ntmps53
    go_wp2_with (first | (go_at_call 87; refine (HO.out _ H3.out).mono ?_; rintro e w4 ⟨rfl, h4, k4⟩; have H4 := Lib.hid h4; have K4 := Lib.hid (K3.out.trans k4); clear h4 k4) | (go_at_call 86; refine (isSign_any (H2.out.alloc (.cells #[.string ⟨#[60]⟩, .string ⟨#[61, 61]⟩] 9)) [⟨#[60]⟩, ⟨#[61, 61]⟩] 2 2 w1.heap.size 0 true ((any_cmp s0).trans HX2.out) rfl (by decide) (by simp) (tx_two w1 9 ⟨#[60]⟩ ⟨#[61, 61]⟩ _ rfl)).mono ?_; rintro e w3 ⟨rfl, hb3⟩; have h0 := H2.out.alloc (.cells #[.string ⟨#[60]⟩, .string ⟨#[61, 61]⟩] 9); have H3 := Lib.hid (h0.below hb3); have K3 := Lib.hid ((K2.out.alloc H2.out.rlt (.cells #[.string ⟨#[60]⟩, .string ⟨#[61, 61]⟩] 9)).trans (Kpt.of_below h0.rlt hb3)); clear hb3 h0) | (go_at_call 85; refine HA0.out.mono ?_; rintro e w1 ⟨rfl, h1, k1⟩; have H2 := Lib.hid h1; have K2 := Lib.hid k1; clear h1 k1))
    go_ret
    exact ⟨rfl, H4.out, K4.out⟩
  · rw [if_neg hx] at h2
    cases h2
    have HX2 := Lib.hid (Bool.eq_false_iff.2 hx)
    clear h ho h1 HX hx
    go_enter Tryz.func53, Tryz.ntmps53
    go_wp2_with (first | (go_at_call 86; refine (isSign_any (H2.out.alloc (.cells #[.string ⟨#[60]⟩, .string ⟨#[61, 61]⟩] 9)) [⟨#[60]⟩, ⟨#[61, 61]⟩] 2 2 w1.heap.size 0 false ((any_cmp _).trans HX2.out) rfl (by decide) (by simp) (tx_two w1 9 ⟨#[60]⟩ ⟨#[61, 61]⟩ _ rfl)).mono ?_; rintro e w3 ⟨rfl, hb3⟩; have h0 := H2.out.alloc (.cells #[.string ⟨#[60]⟩, .string ⟨#[61, 61]⟩] 9); have H3 := Lib.hid (h0.below hb3); have K3 := Lib.hid ((K2.out.alloc H2.out.rlt (.cells #[.string ⟨#[60]⟩, .string ⟨#[61, 61]⟩] 9)).trans (Kpt.of_below h0.rlt hb3)); clear hb3 h0) | (go_at_call 85; refine HA0.out.mono ?_; rintro e w1 ⟨rfl, h1, k1⟩; have H2 := Lib.hid h1; have K2 := Lib.hid k1; clear h1 k1))
    go_ret
    exact ⟨rfl, H3.out, K3.out⟩
end
open T Go.RowKit Go.Shelf
attribute [local go_sem] field_p field_s field_n
section
variable {Av : Nat -> Prop} {B rb b : Nat} {w w' : World} {s s' : PS}
theorem fun_any {X : PS -> Ans} (HX : Reads B rb b 26 X) (p : Int) {af : Nat} {sf : PS} (h : St Av B rb b w s) (ho : funP X p s = some (af, sf)) : Calls Tryz.prog 50 #[.pointer (some ⟨rb, 0, none⟩), .int .i64 p] w (APost Av B rb b w af sf) := by
  unfold funP at ho
  obtain ⟨a0, s0, h1, h2⟩ := bind_some ho
  obtain ⟨nm, hnm⟩ : ∃ nm, (s.txt 2).1 = nm := ⟨_, rfl⟩
  rw [hnm] at h2
  have HNM := Lib.hid hnm
  have hlt := h.rlt
  have hBw := h.hB
  have H0 := Lib.hid (h.alloc (.cells #[.int .i64 5, .int .i64 0, .int .i64 0, .int .i64 0, .int .i64 0, .string ⟨#[]⟩, .string ⟨#[]⟩, .slice none 0 0, .int .i64 p] 37))
  have K0 := Lib.hid ((Kpt.refl rb b w).alloc h.rlt (.cells #[.int .i64 5, .int .i64 0, .int .i64 0, .int .i64 0, .int .i64 0, .string ⟨#[]⟩, .string ⟨#[]⟩, .slice none 0 0, .int .i64 p] 37))
  have L0 := Lib.hid (Loc.new h #[.int .i64 5, .int .i64 0, .int .i64 0, .int .i64 0, .int .i64 0, .string ⟨#[]⟩, .string ⟨#[]⟩, .slice none 0 0, .int .i64 p] 37)
  have HX1 : Hid (∀ W, St Av B rb b W ((s.txt 2).2.must 7 s_arrow) -> Calls Tryz.prog 26 #[.pointer (some ⟨rb, 0, none⟩)] W (APost Av B rb b W a0 s0)) := Lib.hid fun W hW => HX W _ _ _ hW h1
  have HAD : Hid (∀ W, St Av B rb b W s0 -> Calls Tryz.prog 84 #[.pointer (some ⟨rb, 0, none⟩), .agg #[.int .i64 5, .int .i64 (a0 : Int), .int .i64 0, .int .i64 0, .int .i64 0, .string nm, .string ⟨#[]⟩, .slice none 0 0, .int .i64 p]] W (APost Av B rb b W af sf)) := Lib.hid fun W hW => add_any (y := ⟨5, (a0 : Int), 0, 0, 0, nm, ⟨#[]⟩, [], p⟩) hW (ownF_nil _ _) (no_own _) h2
  clear h h1 h2 ho HX hnm
  go_enter Tryz.func50, Tryz.ntmps50
  go_wp2_with (first | (go_at_call 84; refine (HAD.out _ H3.out).mono ?_; rintro e w4 ⟨rfl, h, k⟩; have H4 := Lib.hid h; have K4 := Lib.hid (K3.out.trans k); clear h k) | (go_at_call 26; refine (HX1.out _ H2.out).mono ?_; rintro e w3 ⟨rfl, h, k⟩; have La := L2.out.kpt k; have hfz3 := fun j => La.frozen j; obtain ⟨q30, q31, q32, q33, q34, q35, q36, q37, q38⟩ := nd_cells (x := ⟨5, 0, 0, 0, 0, nm, ⟨#[]⟩, [], p⟩) (v := .slice none 0 0) La.1; have H3 := Lib.hid (h.loc La (by decide) hBw (j := 1) (.int .i64 (a0 : Int))); have K3 := Lib.hid ((K2.out.trans k).set (k := w.heap.size) (j := 1) (.int .i64 (a0 : Int)) (Nat.le_refl _) hlt); have L3 := Lib.hid (La.set (j := 1) (.int .i64 (a0 : Int))); clear h k La) | (go_at_call 83; refine (must_at H1.out 7 (l := s_arrow) (mk_list #[45, 62]) (by decide) (by decide)).mono ?_; rintro e w2 ⟨rfl, h, k⟩; have La := L1.out.kpt k; have hfz2 := fun j => La.frozen j; obtain ⟨q20, q21, q22, q23, q24, q25, q26, q27, q28⟩ := nd_cells (x := ⟨5, 0, 0, 0, 0, nm, ⟨#[]⟩, [], p⟩) (v := .slice none 0 0) La.1; have H2 := Lib.hid h; have K2 := Lib.hid (K1.out.trans k); have L2 := Lib.hid La; clear h k La) | (go_at_call 82; refine (text_any H0.out 2).mono ?_; rintro e w1 ⟨rfl, h, k⟩; rw [HNM.out]; have La := L0.out.kpt k; have hfz1 := fun j => La.frozen j; obtain ⟨q10, q11, q12, q13, q14, q15, q16, q17, q18⟩ := nd_cells (x := ⟨5, 0, 0, 0, 0, ⟨#[]⟩, ⟨#[]⟩, [], p⟩) (v := .slice none 0 0) La.1; have H1 := Lib.hid (h.loc La (by decide) hBw (j := 5) (.string nm)); have K1 := Lib.hid ((K0.out.trans k).set (k := w.heap.size) (j := 5) (.string nm) (Nat.le_refl _) hlt); have L1 := Lib.hid (La.set (j := 5) (.string nm)); clear h k La))
  go_ret
  exact ⟨rfl, H4.out, K4.out⟩
theorem if_any {X : PS -> Ans} (HX : Reads B rb b 26 X) (p : Int) {af : Nat} {sf : PS} (h : St Av B rb b w s) (ho : ifP X p s = some (af, sf)) : Calls Tryz.prog 52 #[.pointer (some ⟨rb, 0, none⟩), .int .i64 p] w (APost Av B rb b w af sf) := by
  unfold ifP at ho
  obtain ⟨a0, s0, h1, h2⟩ := bind_some ho
  obtain ⟨a1, s1, h3, h4⟩ := bind_some h2
  obtain ⟨a2, s2, h5, h6⟩ := bind_some h4
  have hlt := h.rlt
  have hBw := h.hB
  have H0 := Lib.hid (h.alloc (.cells #[.int .i64 9, .int .i64 0, .int .i64 0, .int .i64 0, .int .i64 0, .string ⟨#[]⟩, .string ⟨#[]⟩, .slice none 0 0, .int .i64 p] 37))
  have K0 := Lib.hid ((Kpt.refl rb b w).alloc h.rlt (.cells #[.int .i64 9, .int .i64 0, .int .i64 0, .int .i64 0, .int .i64 0, .string ⟨#[]⟩, .string ⟨#[]⟩, .slice none 0 0, .int .i64 p] 37))
  have L0 := Lib.hid (Loc.new h #[.int .i64 9, .int .i64 0, .int .i64 0, .int .i64 0, .int .i64 0, .string ⟨#[]⟩, .string ⟨#[]⟩, .slice none 0 0, .int .i64 p] 37)
  have HX1 : Hid (∀ W, St Av B rb b W s -> Calls Tryz.prog 26 #[.pointer (some ⟨rb, 0, none⟩)] W (APost Av B rb b W a0 s0)) := Lib.hid fun W hW => HX W _ _ _ hW h1
  have HX2 : Hid (∀ W, St Av B rb b W (s0.must 1 w_then) -> Calls Tryz.prog 26 #[.pointer (some ⟨rb, 0, none⟩)] W (APost Av B rb b W a1 s1)) := Lib.hid fun W hW => HX W _ _ _ hW h3
  have HX3 : Hid (∀ W, St Av B rb b W (s1.must 1 w_else) -> Calls Tryz.prog 26 #[.pointer (some ⟨rb, 0, none⟩)] W (APost Av B rb b W a2 s2)) := Lib.hid fun W hW => HX W _ _ _ hW h5
  have HAD : Hid (∀ W, St Av B rb b W s2 -> Calls Tryz.prog 84 #[.pointer (some ⟨rb, 0, none⟩), .agg #[.int .i64 9, .int .i64 (a0 : Int), .int .i64 (a1 : Int), .int .i64 (a2 : Int), .int .i64 0, .string ⟨#[]⟩, .string ⟨#[]⟩, .slice none 0 0, .int .i64 p]] W (APost Av B rb b W af sf)) := Lib.hid fun W hW => add_any (y := ⟨9, (a0 : Int), (a1 : Int), (a2 : Int), 0, ⟨#[]⟩, ⟨#[]⟩, [], p⟩) hW (ownF_nil _ _) (no_own _) h6
  clear h h1 h2 h3 h4 h5 h6 ho HX
  go_enter Tryz.func52, Tryz.ntmps52
  go_wp2_with (first | (go_at_call 84; refine (HAD.out _ H5.out).mono ?_; rintro e w6 ⟨rfl, h, k⟩; have H6 := Lib.hid h; have K6 := Lib.hid (K5.out.trans k); clear h k) | (go_at_call 26; refine (HX3.out _ H4.out).mono ?_; rintro e w5 ⟨rfl, h, k⟩; have La := L4.out.kpt k; have hfz5 := fun j => La.frozen j; obtain ⟨q50, q51, q52, q53, q54, q55, q56, q57, q58⟩ := nd_cells (x := ⟨9, (a0 : Int), (a1 : Int), 0, 0, ⟨#[]⟩, ⟨#[]⟩, [], p⟩) (v := .slice none 0 0) La.1; have H5 := Lib.hid (h.loc La (by decide) hBw (j := 3) (.int .i64 (a2 : Int))); have K5 := Lib.hid ((K4.out.trans k).set (k := w.heap.size) (j := 3) (.int .i64 (a2 : Int)) (Nat.le_refl _) hlt); have L5 := Lib.hid (La.set (j := 3) (.int .i64 (a2 : Int))); clear h k La) | (go_at_call 83; refine (must_at H3.out 1 (l := w_else) (mk_list #[101, 108, 115, 101]) (by decide) (by decide)).mono ?_; rintro e w4 ⟨rfl, h, k⟩; have La := L3.out.kpt k; have hfz4 := fun j => La.frozen j; obtain ⟨q40, q41, q42, q43, q44, q45, q46, q47, q48⟩ := nd_cells (x := ⟨9, (a0 : Int), (a1 : Int), 0, 0, ⟨#[]⟩, ⟨#[]⟩, [], p⟩) (v := .slice none 0 0) La.1; have H4 := Lib.hid h; have K4 := Lib.hid (K3.out.trans k); have L4 := Lib.hid La; clear h k La) | (go_at_call 26; refine (HX2.out _ H2.out).mono ?_; rintro e w3 ⟨rfl, h, k⟩; have La := L2.out.kpt k; have hfz3 := fun j => La.frozen j; obtain ⟨q30, q31, q32, q33, q34, q35, q36, q37, q38⟩ := nd_cells (x := ⟨9, (a0 : Int), 0, 0, 0, ⟨#[]⟩, ⟨#[]⟩, [], p⟩) (v := .slice none 0 0) La.1; have H3 := Lib.hid (h.loc La (by decide) hBw (j := 2) (.int .i64 (a1 : Int))); have K3 := Lib.hid ((K2.out.trans k).set (k := w.heap.size) (j := 2) (.int .i64 (a1 : Int)) (Nat.le_refl _) hlt); have L3 := Lib.hid (La.set (j := 2) (.int .i64 (a1 : Int))); clear h k La) | (go_at_call 83; refine (must_at H1.out 1 (l := w_then) (mk_list #[116, 104, 101, 110]) (by decide) (by decide)).mono ?_; rintro e w2 ⟨rfl, h, k⟩; have La := L1.out.kpt k; have hfz2 := fun j => La.frozen j; obtain ⟨q20, q21, q22, q23, q24, q25, q26, q27, q28⟩ := nd_cells (x := ⟨9, (a0 : Int), 0, 0, 0, ⟨#[]⟩, ⟨#[]⟩, [], p⟩) (v := .slice none 0 0) La.1; have H2 := Lib.hid h; have K2 := Lib.hid (K1.out.trans k); have L2 := Lib.hid La; clear h k La) | (go_at_call 26; refine (HX1.out _ H0.out).mono ?_; rintro e w1 ⟨rfl, h, k⟩; have La := L0.out.kpt k; have hfz1 := fun j => La.frozen j; obtain ⟨q10, q11, q12, q13, q14, q15, q16, q17, q18⟩ := nd_cells (x := ⟨9, 0, 0, 0, 0, ⟨#[]⟩, ⟨#[]⟩, [], p⟩) (v := .slice none 0 0) La.1; have H1 := Lib.hid (h.loc La (by decide) hBw (j := 1) (.int .i64 (a0 : Int))); have K1 := Lib.hid ((K0.out.trans k).set (k := w.heap.size) (j := 1) (.int .i64 (a0 : Int)) (Nat.le_refl _) hlt); have L1 := Lib.hid (La.set (j := 1) (.int .i64 (a0 : Int))); clear h k La))
  go_ret
  exact ⟨rfl, H6.out, K6.out⟩
end
end Go.Proofs.YtjakeidbajkdcaaGreatDoor.A
