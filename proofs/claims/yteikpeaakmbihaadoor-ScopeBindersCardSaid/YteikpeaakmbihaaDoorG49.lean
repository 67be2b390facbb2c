/- Joined by program: LBinds. -/
import Derived.Test.YteikpeaakmbihaaDoorG48
import Derived.IntWalk
/- The walks of ScopeBinders. -/
namespace Go.Proofs.YteikpeaakmbihaaDoor.T
open Go.RowKit Go.Shelf
set_option maxRecDepth 100000 in
set_option maxHeartbeats 16000000 in
theorem binds_bad (a la : List Nd) (A0 : Option Addr) (LA c0 : Nat) (i m : Int) (h0 : m ≠ 0) (w : World)
    (HK : Hid (∀ W, Below w.heap.size w W → Kws W.heap.size W))
    (HWK : Hid (∀ W, Kws W.heap.size W → Calls Tryd.prog 32 #[] W fun e W' => e = .returned (.bool true) ∧ Below W.heap.size W W'))
    (HFA : Hid (∀ W, Below w.heap.size w W → Calls Tryd.prog 10 #[.agg #[.slice A0 LA c0]] W (FewPost a W))) (HLA : Hid (few a = la))
    (HF2 : Hid (∀ (W : World) (A : Option Addr) (c : Nat), Nodes W.heap.size W (.slice A la.length c) la → Calls Tryd.prog 10 #[.agg #[.slice A la.length c]] W fun e W' => ∃ A c, e = .returned (.agg #[.slice A la.length c]) ∧ Nodes W'.heap.size W' (.slice A la.length c) la ∧ Below W.heap.size W W'))
    (HBI : Hid (∀ (W : World) (v : Value), Kws W.heap.size W → Nodes W.heap.size W v la → Calls Tryd.prog 30 #[.agg #[v]] W fun e W' => e = .returned (.tuple #[.slice none 0 0, .int .i64 m]) ∧ Below W.heap.size W W'))
    (HUS : Hid (∀ (W : World) (v : Value), Kws W.heap.size W → Nodes W.heap.size W v la → Calls Tryd.prog 31 #[.agg #[v], .int .i64 i] W fun e W' => e = .returned (.tuple #[.slice none 0 0, .int .i64 m]) ∧ Below W.heap.size W W'))
    (HRM : Hid (∀ (W : World) (v : Value), Nodes W.heap.size W v la → Calls Tryd.prog 11 #[.agg #[v]] W fun e W' => e = .returned (.int .i64 m) ∧ Below W.heap.size W W')) :
    Calls Tryd.prog 7 #[.agg #[.slice A0 LA c0], .int .i64 i] w fun e w' => e = .returned (.bool true) ∧ Below w.heap.size w w' := by
  have X0 : Hid ((w.alloc (.cells #[.slice A0 LA c0] 24)).heap[w.heap.size]? = some (.cells #[.slice A0 LA c0] 24 (0, 0))) := Lib.hid (newAt rfl)
  have HB0 : Hid (Below w.heap.size w (w.alloc (.cells #[.slice A0 LA c0] 24))) := Lib.hid ((Below.refl _ w).alloc (Nat.le_refl _) _)
  have hmb : (m != 0) = true := by simpa using h0
  have hmm : (m == m) = true := by simp
  clear h0
  go_enter Tryd.func7, Tryd.ntmps7
  go_upto_region 2 with (go_at_call 10; refine (HFA.out _ HB0.out).mono ?_; rintro e w2 ⟨v2, ps2, rfl, hps2, hown2, hb2⟩; obtain ⟨A2, k2, rfl⟩ := own_slice_len hown2 hps2 HLA.out rfl; have S2 := Lib.hid (SSt.put (below_next HB0.out hb2 (Nat.le_refl _)) (own_lowS hown2 (by simp)) (hps2.trans HLA.out) (blk_next X0.out hb2) rfl); have c2 := S2.out.c; have x2 := blk_next X0.out hb2; have f2 := Blk_frozen x2 0; have d2 : w2.cell? ⟨w.heap.size, 0, none⟩ = some (.slice A0 LA c0) := (Blk_cell x2 0).trans rfl; clear x2 hb2 hown2 hps2)
  clear d2 f2
  go_upto_region 4 with (first
    | (go_at_call 31; refine (HUS.out _ _ (HK.out _ S5.out.2.2) N5.out).mono ?_; rintro e w6 ⟨rfl, hb⟩; have S6 := Lib.hid (S5.out.next hb); have c6 := S6.out.c; clear hb)
    | (go_at_call 10; have _tag := S4.out; clear _tag; refine (HF2.out _ _ _ S4.out.nodes).mono ?_; rintro e w5 ⟨A5, k5, rfl, hn, hb⟩; have S5 := Lib.hid (S4.out.next hb); have N5 := Lib.hid hn; clear hb hn)
    | (go_at_call 30; refine (HBI.out _ _ (HK.out _ S3.out.2.2) N3.out).mono ?_; rintro e w4 ⟨rfl, hb⟩; have S4 := Lib.hid (S3.out.next hb); have c4 := S4.out.c; clear hb)
    | (go_at_call 10; refine (HF2.out _ _ _ S2.out.nodes).mono ?_; rintro e w3 ⟨A3, k3, rfl, hn, hb⟩; have S3 := Lib.hid (S2.out.next hb); have N3 := Lib.hid hn; clear hb hn))
  go_wp2_with (first
    | (go_at_call 11; refine (HRM.out _ _ S6.out.nodes).mono ?_; rintro e w7 ⟨rfl, hb⟩; have S7 := Lib.hid (S6.out.next hb); clear hb)
    | (go_at_call 32; refine (HWK.out _ (HK.out _ S7.out.2.2)).mono ?_; rintro e w8 ⟨rfl, hb⟩; have S8 := Lib.hid (S7.out.next hb); clear hb))
  go_ret
  exact ⟨rfl, S8.out.2.2⟩
set_option maxRecDepth 100000 in
set_option maxHeartbeats 16000000 in
theorem binds_out (a la : List Nd) (B : List (Int × Int)) (A0 : Option Addr) (LA c0 : Nat) (i : Int) (w : World)
    (HK : Hid (∀ W, Below w.heap.size w W → Kws W.heap.size W)) (hL : la.length ≤ 1000)
    (HWK : Hid (∀ W, Kws W.heap.size W → Calls Tryd.prog 32 #[] W fun e W' => e = .returned (.bool true) ∧ Below W.heap.size W W'))
    (HFA : Hid (∀ W, Below w.heap.size w W → Calls Tryd.prog 10 #[.agg #[.slice A0 LA c0]] W (FewPost a W))) (HLA : Hid (few a = la))
    (HF2 : Hid (∀ (W : World) (A : Option Addr) (c : Nat), Nodes W.heap.size W (.slice A la.length c) la → Calls Tryd.prog 10 #[.agg #[.slice A la.length c]] W fun e W' => ∃ A c, e = .returned (.agg #[.slice A la.length c]) ∧ Nodes W'.heap.size W' (.slice A la.length c) la ∧ Below W.heap.size W W'))
    (HBI : Hid (∀ (W : World) (v : Value), Kws W.heap.size W → Nodes W.heap.size W v la → Calls Tryd.prog 30 #[.agg #[v]] W fun e W' => ∃ g c, e = .returned (.tuple #[.slice (some ⟨g, 0, none⟩) la.length c, .int .i64 0]) ∧ RowB W' g B ∧ Below W.heap.size W W')) (HBL : Hid (B.length = la.length))
    (HUS : Hid (∀ (W : World) (v : Value), Kws W.heap.size W → Nodes W.heap.size W v la → Calls Tryd.prog 31 #[.agg #[v], .int .i64 i] W fun e W' => e = .returned (.tuple #[.slice none 0 0, .int .i64 3]) ∧ Below W.heap.size W W'))
    (HRM : Hid (∀ (W : World) (v : Value), Nodes W.heap.size W v la → Calls Tryd.prog 11 #[.agg #[v]] W fun e W' => e = .returned (.int .i64 0) ∧ Below W.heap.size W W'))
    (HRB : Hid (∀ (W : World) (v : Value), Nodes W.heap.size W v la → Calls Tryd.prog 33 #[.agg #[v]] W fun e W' => ∃ g c, e = .returned (.slice (some ⟨g, 0, none⟩) la.length c) ∧ RowB W' g B ∧ Below W.heap.size W W'))
    (hio : i < 0 ∨ (la.length : Int) ≤ i) :
    Calls Tryd.prog 7 #[.agg #[.slice A0 LA c0], .int .i64 i] w fun e w' => e = .returned (.bool true) ∧ Below w.heap.size w w' := by
  have X0 : Hid ((w.alloc (.cells #[.slice A0 LA c0] 24)).heap[w.heap.size]? = some (.cells #[.slice A0 LA c0] 24 (0, 0))) := Lib.hid (newAt rfl)
  have HB0 : Hid (Below w.heap.size w (w.alloc (.cells #[.slice A0 LA c0] 24))) := Lib.hid ((Below.refl _ w).alloc (Nat.le_refl _) _)
  go_enter Tryd.func7, Tryd.ntmps7
  go_upto_region 2 with (go_at_call 10; refine (HFA.out _ HB0.out).mono ?_; rintro e w2 ⟨v2, ps2, rfl, hps2, hown2, hb2⟩; obtain ⟨A2, k2, rfl⟩ := own_slice_len hown2 hps2 HLA.out rfl; have S2 := Lib.hid (SSt.put (below_next HB0.out hb2 (Nat.le_refl _)) (own_lowS hown2 (by simp)) (hps2.trans HLA.out) (blk_next X0.out hb2) rfl); have c2 := S2.out.c; have x2 := blk_next X0.out hb2; have f2 := Blk_frozen x2 0; have d2 : w2.cell? ⟨w.heap.size, 0, none⟩ = some (.slice A0 LA c0) := (Blk_cell x2 0).trans rfl; clear x2 hb2 hown2 hps2)
  clear d2 f2
  go_upto_region 4 with (first
    | (go_at_call 31; refine (HUS.out _ _ (HK.out _ S5.out.2.2) N5.out).mono ?_; rintro e w6 ⟨rfl, hb⟩; have S6 := Lib.hid (S5.out.next hb); have R6 := Lib.hid (R5.out.next hb); have c6 := S6.out.c; clear hb)
    | (go_at_call 10; have _tag := S4.out; clear _tag; refine (HF2.out _ _ _ S4.out.nodes).mono ?_; rintro e w5 ⟨A5, k5, rfl, hn, hb⟩; have S5 := Lib.hid (S4.out.next hb); have R5 := Lib.hid (R4.out.next hb); have N5 := Lib.hid hn; clear hb hn)
    | (go_at_call 30; refine (HBI.out _ _ (HK.out _ S3.out.2.2) N3.out).mono ?_; rintro e w4 ⟨gb, cb, rfl, hr, hb⟩; have S4 := Lib.hid (S3.out.next hb); have R4 := Lib.hid hr; have c4 := S4.out.c; clear hb hr)
    | (go_at_call 10; refine (HF2.out _ _ _ S2.out.nodes).mono ?_; rintro e w3 ⟨A3, k3, rfl, hn, hb⟩; have S3 := Lib.hid (S2.out.next hb); have N3 := Lib.hid hn; clear hb hn))
  go_wp2_with (first
    | (go_at_call 11; refine (HRM.out _ _ S6.out.nodes).mono ?_; rintro e w7 ⟨rfl, hb⟩; have S7 := Lib.hid (S6.out.next hb); have R7 := Lib.hid (R6.out.next hb); have c7 := S7.out.c; clear hb)
    | (go_at_call 33; refine (HRB.out _ _ S7.out.nodes).mono ?_; rintro e w8 ⟨g8, c8, rfl, hr, hb⟩; have S8 := Lib.hid (S7.out.next hb); have R8 := Lib.hid (R7.out.next hb); have T8 := Lib.hid hr; clear hb hr))
  go_loopw [11] (fun s11 wr => ∃ q : Nat, s11 = .int .i64 (q : Int) ∧ q ≤ la.length ∧ Hid (SSt w wr A2 k2 la) ∧ Hid (RowB wr gb B) ∧ Hid (RowB wr g8 B)) (fun s11 _ => la.length - (intOf s11).toNat)
  case atStart => exact ⟨0, rfl, Nat.zero_le _, S8, R8, T8⟩
  case round =>
    obtain ⟨q, rfl, hq, S9, R9, T9⟩ := hrel
    have c9 := S9.out.c
    clear c2 c4 c6 c7
    by_cases hlt : q < la.length
    · obtain ⟨⟨P1, P2⟩, hp⟩ : ∃ p, B[q]? = some p := ⟨_, List.getElem?_eq_getElem (by rw [HBL.out]; exact hlt)⟩
      have z1 := R9.out.cell hp
      have z2 := T9.out.cell hp
      simp only at z1 z2
      have e1 : (P1 != P1) = false := by simp
      have e2 : (P2 != P2) = false := by simp
      clear hp
      go_upto_region 13 with fail
      go_region_held3 (fun W => W.cell? ⟨gb, q * 2, none⟩ = some (.int .i64 P1) ∧ W.cell? ⟨gb, q * 2 + 1, none⟩ = some (.int .i64 P2) ∧ W.cell? ⟨g8, q * 2, none⟩ = some (.int .i64 P1) ∧ W.cell? ⟨g8, q * 2 + 1, none⟩ = some (.int .i64 P2)) (first | exact ⟨z1.1, z1.2, z2.1, z2.2⟩) (fail)
      all_goals
        go_wp2_with fail
        go_roundw
        case rel => exact ⟨q + 1, by go_num, by omega, Lib.hid (S9.out.next (Below.refl _ _).drew), Lib.hid (R9.out.next (Below.refl _ _).drew), Lib.hid (T9.out.next (Below.refl _ _).drew)⟩
        case measure => simp [intOf]; omega
    · obtain rfl : q = la.length := by omega
      by_cases hi : i < 0
      · go_wp2_with (go_at_call 32; refine (HWK.out _ (HK.out _ S9.out.2.2)).mono ?_; rintro e wd ⟨rfl, hb⟩; have Sd := Lib.hid (S9.out.next hb); clear hb)
        go_ret
        exact ⟨rfl, Sd.out.2.2⟩
      · have hi2 : (la.length : Int) ≤ i := by omega
        have d1 : decide (i < 0) = false := by simpa using hi
        have d2 : decide (i ≥ (la.length : Int)) = true := by simpa using hi2
        clear hio
        go_wp2_with (go_at_call 32; refine (HWK.out _ (HK.out _ S9.out.2.2)).mono ?_; rintro e wd ⟨rfl, hb⟩; have Sd := Lib.hid (S9.out.next hb); clear hb)
        go_ret
        exact ⟨rfl, Sd.out.2.2⟩
set_option maxRecDepth 100000 in
set_option maxHeartbeats 16000000 in
theorem binds_in (a la : List Nd) (B : List (Int × Int)) (A0 : Option Addr) (LA c0 : Nat) (i : Int) (U : List Int) (un : Nat) (w : World)
    (HK : Hid (∀ W, Below w.heap.size w W → Kws W.heap.size W)) (hL : la.length ≤ 1000)
    (HWK : Hid (∀ W, Kws W.heap.size W → Calls Tryd.prog 32 #[] W fun e W' => e = .returned (.bool true) ∧ Below W.heap.size W W'))
    (HFA : Hid (∀ W, Below w.heap.size w W → Calls Tryd.prog 10 #[.agg #[.slice A0 LA c0]] W (FewPost a W))) (HLA : Hid (few a = la))
    (HF2 : Hid (∀ (W : World) (A : Option Addr) (c : Nat), Nodes W.heap.size W (.slice A la.length c) la → Calls Tryd.prog 10 #[.agg #[.slice A la.length c]] W fun e W' => ∃ A c, e = .returned (.agg #[.slice A la.length c]) ∧ Nodes W'.heap.size W' (.slice A la.length c) la ∧ Below W.heap.size W W'))
    (HBI : Hid (∀ (W : World) (v : Value), Kws W.heap.size W → Nodes W.heap.size W v la → Calls Tryd.prog 30 #[.agg #[v]] W fun e W' => ∃ g c, e = .returned (.tuple #[.slice (some ⟨g, 0, none⟩) la.length c, .int .i64 0]) ∧ RowB W' g B ∧ Below W.heap.size W W')) (HBL : Hid (B.length = la.length))
    (HUS : Hid (∀ (W : World) (v : Value), Kws W.heap.size W → Nodes W.heap.size W v la → Calls Tryd.prog 31 #[.agg #[v], .int .i64 i] W fun e W' => ∃ v, e = .returned (.tuple #[v, .int .i64 0]) ∧ IntsP U W v W'))
    (HRM : Hid (∀ (W : World) (v : Value), Nodes W.heap.size W v la → Calls Tryd.prog 11 #[.agg #[v]] W fun e W' => e = .returned (.int .i64 0) ∧ Below W.heap.size W W'))
    (HRB : Hid (∀ (W : World) (v : Value), Nodes W.heap.size W v la → Calls Tryd.prog 33 #[.agg #[v]] W fun e W' => ∃ g c, e = .returned (.slice (some ⟨g, 0, none⟩) la.length c) ∧ RowB W' g B ∧ Below W.heap.size W W'))
    (HUL : Hid (U.length = un)) (hun : un ≤ 1000)
    (HRU : Hid (∀ (W : World) (v : Value), Nodes W.heap.size W v la → Calls Tryd.prog 34 #[.agg #[v], .int .i64 i] W fun e W' => ∃ v, e = .returned v ∧ IntsP U W v W'))
    (hi0 : 0 ≤ i) (hi1 : i < (la.length : Int)) :
    Calls Tryd.prog 7 #[.agg #[.slice A0 LA c0], .int .i64 i] w fun e w' => e = .returned (.bool true) ∧ Below w.heap.size w w' := by
  have X0 : Hid ((w.alloc (.cells #[.slice A0 LA c0] 24)).heap[w.heap.size]? = some (.cells #[.slice A0 LA c0] 24 (0, 0))) := Lib.hid (newAt rfl)
  have HB0 : Hid (Below w.heap.size w (w.alloc (.cells #[.slice A0 LA c0] 24))) := Lib.hid ((Below.refl _ w).alloc (Nat.le_refl _) _)
  go_enter Tryd.func7, Tryd.ntmps7
  go_upto_region 2 with (go_at_call 10; refine (HFA.out _ HB0.out).mono ?_; rintro e w2 ⟨v2, ps2, rfl, hps2, hown2, hb2⟩; obtain ⟨A2, k2, rfl⟩ := own_slice_len hown2 hps2 HLA.out rfl; have S2 := Lib.hid (SSt.put (below_next HB0.out hb2 (Nat.le_refl _)) (own_lowS hown2 (by simp)) (hps2.trans HLA.out) (blk_next X0.out hb2) rfl); have c2 := S2.out.c; have x2 := blk_next X0.out hb2; have f2 := Blk_frozen x2 0; have d2 : w2.cell? ⟨w.heap.size, 0, none⟩ = some (.slice A0 LA c0) := (Blk_cell x2 0).trans rfl; clear x2 hb2 hown2 hps2)
  clear d2 f2
  go_upto_region 4 with (first
    | (go_at_call 31; refine (HUS.out _ _ (HK.out _ S5.out.2.2) N5.out).mono ?_; rintro e w6 ⟨u6, rfl, hu, hb⟩; obtain ⟨UA, uc, rfl, _⟩ := row_slice hu; have U6 := Lib.hid hu; have S6 := Lib.hid (S5.out.next hb); have R6 := Lib.hid (R5.out.next hb); have c6 := S6.out.c; clear hb hu)
    | (go_at_call 10; have _tag := S4.out; clear _tag; refine (HF2.out _ _ _ S4.out.nodes).mono ?_; rintro e w5 ⟨A5, k5, rfl, hn, hb⟩; have S5 := Lib.hid (S4.out.next hb); have R5 := Lib.hid (R4.out.next hb); have N5 := Lib.hid hn; clear hb hn)
    | (go_at_call 30; refine (HBI.out _ _ (HK.out _ S3.out.2.2) N3.out).mono ?_; rintro e w4 ⟨gb, cb, rfl, hr, hb⟩; have S4 := Lib.hid (S3.out.next hb); have R4 := Lib.hid hr; have c4 := S4.out.c; clear hb hr)
    | (go_at_call 10; refine (HF2.out _ _ _ S2.out.nodes).mono ?_; rintro e w3 ⟨A3, k3, rfl, hn, hb⟩; have S3 := Lib.hid (S2.out.next hb); have N3 := Lib.hid hn; clear hb hn))
  go_wp2_with (first
    | (go_at_call 11; refine (HRM.out _ _ S6.out.nodes).mono ?_; rintro e w7 ⟨rfl, hb⟩; have S7 := Lib.hid (S6.out.next hb); have R7 := Lib.hid (R6.out.next hb); have c7 := S7.out.c; have U7 := Lib.hid (World.ownsRow.kept U6.out (grown_of hb) (ne_none _)); clear hb)
    | (go_at_call 33; refine (HRB.out _ _ S7.out.nodes).mono ?_; rintro e w8 ⟨g8, c8, rfl, hr, hb⟩; have S8 := Lib.hid (S7.out.next hb); have R8 := Lib.hid (R7.out.next hb); have T8 := Lib.hid hr; have U8 := Lib.hid (World.ownsRow.kept U7.out (grown_of hb) (ne_none _)); clear hb hr))
  go_loopw [11] (fun s11 wr => ∃ q : Nat, s11 = .int .i64 (q : Int) ∧ q ≤ la.length ∧ Hid (SSt w wr A2 k2 la) ∧ Hid (RowB wr gb B) ∧ Hid (RowB wr g8 B) ∧ Hid (∃ Bu, wr.ownsRow Bu 3 1 (.slice UA U.length uc) U.length (U.map (Value.int .i64)))) (fun s11 _ => la.length - (intOf s11).toNat)
  case atStart => exact ⟨0, rfl, Nat.zero_le _, S8, R8, T8, Lib.hid ⟨_, U8.out⟩⟩
  case round =>
    obtain ⟨q, rfl, hq, S9, R9, T9, U9⟩ := hrel
    have c9 := S9.out.c
    clear c2 c4 c6 c7
    by_cases hlt : q < la.length
    · obtain ⟨⟨P1, P2⟩, hp⟩ : ∃ p, B[q]? = some p := ⟨_, List.getElem?_eq_getElem (by rw [HBL.out]; exact hlt)⟩
      have z1 := R9.out.cell hp
      have z2 := T9.out.cell hp
      simp only at z1 z2
      have e1 : (P1 != P1) = false := by simp
      have e2 : (P2 != P2) = false := by simp
      clear hp
      go_upto_region 13 with fail
      go_region_held3 (fun W => W.cell? ⟨gb, q * 2, none⟩ = some (.int .i64 P1) ∧ W.cell? ⟨gb, q * 2 + 1, none⟩ = some (.int .i64 P2) ∧ W.cell? ⟨g8, q * 2, none⟩ = some (.int .i64 P1) ∧ W.cell? ⟨g8, q * 2 + 1, none⟩ = some (.int .i64 P2)) (first | exact ⟨z1.1, z1.2, z2.1, z2.2⟩) (fail)
      all_goals
        go_wp2_with fail
        go_roundw
        case rel => exact ⟨q + 1, by go_num, by omega, Lib.hid (S9.out.next (Below.refl _ _).drew), Lib.hid (R9.out.next (Below.refl _ _).drew), Lib.hid (T9.out.next (Below.refl _ _).drew), Lib.hid (by obtain ⟨Bu, h⟩ := U9.out; exact ⟨Bu, World.ownsRow.kept h (grown_of (Below.refl _ _).drew) (ne_none _)⟩)⟩
        case measure => simp [intOf]; omega
    · obtain rfl : q = la.length := by omega
      have d1 : decide (i < 0) = false := by simpa using hi0
      have d2 : decide (i ≥ (la.length : Int)) = false := by simpa using hi1
      obtain ⟨Bu, hU9⟩ := U9.out
      have UB := Lib.hid hU9
      clear hU9
      go_wp2_with (first
        | (go_at_call 34; refine (HRU.out _ _ S9.out.nodes).mono ?_; rintro e wa ⟨va, rfl, hv, hb⟩; have Sa := Lib.hid (S9.out.next hb); have Ua := Lib.hid (World.ownsRow.kept UB.out (grown_of hb) (ne_none _)); have Va := Lib.hid hv; clear hb hv)
        | (go_at_call 15; refine (sints_any U _ _ _ _ _ _ (by have := HUL.out; omega) (Lib.hid rfl) Ua Va).mono ?_; rintro e wb ⟨rfl, hb⟩; have Sb := Lib.hid (Sa.out.next hb); clear hb)
        | (go_at_call 32; refine (HWK.out _ (HK.out _ Sb.out.2.2)).mono ?_; rintro e wd ⟨rfl, hb⟩; have Sd := Lib.hid (Sb.out.next hb); clear hb))
      go_ret
      exact ⟨rfl, Sd.out.2.2⟩
end Go.Proofs.YteikpeaakmbihaaDoor.T
