/- Joined by program: SX. -/
import Derived.Test.YtjakeidbajkdcaaGreatDoorG47
import Derived.Test.YtjakeidbajkdcaaGreatDoorG48
import Derived.Deep.RegionHeld3
/- ShowPrints: its walk. -/
namespace Go.Proofs.YtjakeidbajkdcaaGreatDoor.S
open T Go.RowKit Go.Shelf
set_option maxRecDepth 100000 in
set_option maxHeartbeats 16000000 in
theorem prints_walk (x : Nd) (fv : Value) (op : Int) (A0 : Option Addr) (LA c0 L : Nat) (ml : List Nd) (S : ByteArray) (M t : Int) (g : ByteArray) (w : World)
    (HF1 : Hid (∀ w1, Below w.heap.size w w1 → Calls Tryz.prog 14 #[.agg #[.slice A0 LA c0]] w1 fun e w' => ∃ A c ps, e = .returned (.agg #[.slice A L c]) ∧ ps.map Prod.fst = ml ∧ OwnN w1.heap.size w' (.slice A L c) ps ∧ Below w1.heap.size w1 w'))
    (HF2 : Hid (∀ (w1 : World) (A : Option Addr) (c : Nat), Nodes w1.heap.size w1 (.slice A L c) ml → Calls Tryz.prog 14 #[.agg #[.slice A L c]] w1 fun e w' => ∃ A c, e = .returned (.agg #[.slice A L c]) ∧ Nodes w'.heap.size w' (.slice A L c) ml ∧ Below w1.heap.size w1 w'))
    (HP : Hid (∀ (w1 : World) (A : Option Addr) (c : Nat), Below w.heap.size w w1 → Nodes w1.heap.size w1 (.slice A L c) ml → Calls Tryz.prog 15 #[.agg #[.slice A L c]] w1 fun e w' => e = .returned (.tuple #[.string S, .int .i64 M]) ∧ Below w1.heap.size w1 w'))
    (HR : Hid (∀ (w1 : World) (A : Option Addr) (c : Nat), Nodes w1.heap.size w1 (.slice A L c) ml → Calls Tryz.prog 16 #[.agg #[.slice A L c]] w1 fun e w' => e = .returned (.tuple #[.string S, .int .i64 M]) ∧ Below w1.heap.size w1 w'))
    (HT : Hid (∀ w1, Calls Tryz.prog 17 #[.agg #[.int .i64 x.kind, .int .i64 x.a, .int .i64 x.b, .int .i64 x.c, .int .i64 x.n, .string x.nm, .string x.s, fv, .int .i64 x.pos]] w1 fun e w' => e = .returned (.int .i64 t) ∧ Below w1.heap.size w1 w'))
    (HU : Hid (∀ w1, Calls Tryz.prog 18 #[.agg #[.int .i64 x.kind, .int .i64 x.a, .int .i64 x.b, .int .i64 x.c, .int .i64 x.n, .string x.nm, .string x.s, fv, .int .i64 x.pos]] w1 fun e w' => e = .returned (.int .i64 t) ∧ Below w1.heap.size w1 w'))
    (HS : Hid (∀ w1, Calls Tryz.prog 19 #[.int .i64 op] w1 fun e w' => e = .returned (.string g) ∧ Below w1.heap.size w1 w'))
    (HQ : Hid (∀ w1, Calls Tryz.prog 20 #[.int .i64 op] w1 fun e w' => e = .returned (.string g) ∧ Below w1.heap.size w1 w'))
    (HW : Hid (∀ w1, Below w.heap.size w w1 → Calls Tryz.prog 21 #[] w1 fun e w' => e = .returned (.bool true) ∧ Below w1.heap.size w1 w')) :
    Calls Tryz.prog 5 #[.agg #[.slice A0 LA c0], .agg #[.int .i64 x.kind, .int .i64 x.a, .int .i64 x.b, .int .i64 x.c, .int .i64 x.n, .string x.nm, .string x.s, fv, .int .i64 x.pos], .int .i64 op] w fun e w' => e = .returned (.bool true) ∧ Below w.heap.size w w' := by
  have HB0 : Hid (Below w.heap.size w ((w.alloc (.cells #[.slice A0 LA c0] 25)).alloc (.cells (ndArr x fv) 37))) := Lib.hid (((Below.refl _ w).alloc (Nat.le_refl _) _).alloc (by simp) _)
  have X0 : Hid (((w.alloc (.cells #[.slice A0 LA c0] 25)).alloc (.cells (ndArr x fv) 37)).heap[w.heap.size]? = some (.cells #[.slice A0 LA c0] 25 (0, 0))) := Lib.hid (nextAt (newAt rfl))
  have Y0 : Hid (((w.alloc (.cells #[.slice A0 LA c0] 25)).alloc (.cells (ndArr x fv) 37)).heap[w.heap.size + 1]? = some (.cells (ndArr x fv) 37 (0, 0))) := Lib.hid (newAt (by simp))
  go_enter Tryz.func5, Tryz.ntmps5
  go_upto_region 4 with (first
    | (go_at_call 16; refine (HR.out _ _ _ S4.out.nodes).mono ?_; rintro e w5 ⟨rfl, hb⟩; have S5 := Lib.hid (S4.out.next hb); have Y5 := Lib.hid (blk_next Y4.out hb); clear hb)
    | (go_at_call 15; refine (HP.out _ _ _ S3.out.2.2 N3.out).mono ?_; rintro e w4 ⟨rfl, hb⟩; have S4 := Lib.hid (S3.out.next hb); have Y4 := Lib.hid (blk_next Y3.out hb); have c4 := S4.out.c; clear hb)
    | (go_at_call 14; have _tag := S2.out; clear _tag; refine (HF2.out _ _ _ S2.out.nodes).mono ?_; rintro e w3 ⟨A3, k3, rfl, hn, hb⟩; have S3 := Lib.hid (S2.out.next hb); have Y3 := Lib.hid (blk_next Y2.out hb); have N3 := Lib.hid hn; clear hb hn)
    | (go_at_call 14; refine (HF1.out _ HB0.out).mono ?_; rintro e w2 ⟨A2, k2, ps2, rfl, hps2, hown2, hb2⟩; have S2 := Lib.hid (ASt.put (m := 2) (by decide) (below_next HB0.out hb2 (Nat.le_refl _)) (ownN_low hown2 (by simp)) hps2 (blk_next X0.out hb2) rfl); have y2 := blk_next Y0.out hb2; have Y2 := Lib.hid ((set_far w2 w.heap.size 0 (w.heap.size + 1) (.slice A2 L k2) (by omega)).trans y2); have c2 := S2.out.c; have x2 := blk_next X0.out hb2; have f2 := Blk_frozen x2 0; have d2 : w2.cell? ⟨w.heap.size, 0, none⟩ = some (.slice A0 LA c0) := (Blk_cell x2 0).trans rfl; clear x2 y2 hb2 hown2 hps2))
  go_region_held3 (fun W => W.cell? ⟨w.heap.size + 1, 0, none⟩ = some (.int .i64 x.kind) ∧ W.cell? ⟨w.heap.size + 1, 1, none⟩ = some (.int .i64 x.a) ∧ W.cell? ⟨w.heap.size + 1, 2, none⟩ = some (.int .i64 x.b) ∧ W.cell? ⟨w.heap.size + 1, 3, none⟩ = some (.int .i64 x.c) ∧ W.cell? ⟨w.heap.size + 1, 4, none⟩ = some (.int .i64 x.n) ∧ W.cell? ⟨w.heap.size + 1, 5, none⟩ = some (.string x.nm) ∧ W.cell? ⟨w.heap.size + 1, 6, none⟩ = some (.string x.s) ∧ W.cell? ⟨w.heap.size + 1, 7, none⟩ = some fv ∧ W.cell? ⟨w.heap.size + 1, 8, none⟩ = some (.int .i64 x.pos)) (first | exact nd_cells Y5.out | exact nd_cells (blk_next Y5.out (Below.refl _ _).drew) | exact nd_cells Y6.out | exact nd_cells Y7.out | exact nd_cells Y8.out | exact nd_cells Y9.out | exact nd_cells Y10.out) (first
    | (go_at_call 21; refine (HW.out _ S9.out.2.2).mono ?_; rintro e w10 ⟨rfl, hb⟩; have S10 := Lib.hid (S9.out.next hb); have Y10 := Lib.hid (blk_next Y9.out hb); clear hb)
    | (go_at_call 20; refine (HQ.out _).mono ?_; rintro e w9 ⟨rfl, hb⟩; have S9 := Lib.hid (S8.out.next hb); have Y9 := Lib.hid (blk_next Y8.out hb); clear hb)
    | (go_at_call 19; refine (HS.out _).mono ?_; rintro e w8 ⟨rfl, hb⟩; have S8 := Lib.hid (S7.out.next hb); have Y8 := Lib.hid (blk_next Y7.out hb); clear hb)
    | (go_at_call 18; refine (HU.out _).mono ?_; rintro e w7 ⟨rfl, hb⟩; have S7 := Lib.hid (S6.out.next hb); have Y7 := Lib.hid (blk_next Y6.out hb); clear hb)
    | (go_at_call 17; refine (HT.out _).mono ?_; rintro e w6 ⟨rfl, hb⟩; have S6 := Lib.hid (S5.out.drew.next hb); have Y6 := Lib.hid (blk_next (blk_next Y5.out (Below.refl _ _).drew) hb); clear hb))
  all_goals
    go_wp2_with fail
    go_ret
    exact ⟨rfl, S10.out.2.2⟩
end Go.Proofs.YtjakeidbajkdcaaGreatDoor.S
