/- Joined by program: LSames. -/
import Derived.Test.YteikpeaakmbihaaDoorG45
import Derived.Test.YteikpeaakmbihaaDoorG46
import Derived.Test.YteikpeaakmbihaaDoorG48
import Derived.Deep.RegionHeld3
import Derived.IntWalk
/- The walk of ScopeSame. -/
namespace Go.Proofs.YteikpeaakmbihaaDoor.T
open Go.RowKit Go.Shelf
set_option maxRecDepth 100000 in
set_option maxHeartbeats 16000000 in
theorem sames_a (a b la lb : List Nd) (A0 B0 : Option Addr) (LA LB c0 d0 : Nat) (T : Bool) (X Y : List ByteArray) (n : Nat) (w : World)
    (HK : Hid (∀ W, Below w.heap.size w W → Kws W.heap.size W))
    (HWK : Hid (∀ W, Kws W.heap.size W → Calls Tryd.prog 32 #[] W fun e W' => e = .returned (.bool true) ∧ Below W.heap.size W W'))
    (HFA : Hid (∀ W, Below w.heap.size w W → Calls Tryd.prog 10 #[.agg #[.slice A0 LA c0]] W (FewPost a W))) (HFB : Hid (∀ W, Below w.heap.size w W → Calls Tryd.prog 10 #[.agg #[.slice B0 LB d0]] W (FewPost b W))) (HLA : Hid (few a = la)) (HLB : Hid (few b = lb))
    (HAL : Hid (∀ (W : World) (v u : Value), Kws W.heap.size W → Nodes W.heap.size W v la → Nodes W.heap.size W u lb → Calls Tryd.prog 40 #[.agg #[v], .agg #[u]] W fun e W' => e = .returned (.bool T) ∧ Below W.heap.size W W'))
    (HRS : T = false → Hid (∀ (W : World) (v u : Value), Nodes W.heap.size W v la → Nodes W.heap.size W u lb → Calls Tryd.prog 23 #[.agg #[v], .agg #[u]] W fun e W' => e = .returned (.bool false) ∧ Below W.heap.size W W'))
    (HFX : T = true → Hid (∀ (W : World) (v : Value), Kws W.heap.size W → Nodes W.heap.size W v la → Calls Tryd.prog 35 #[.agg #[v]] W (FrPost X 0 W)))
    (HFY : T = true → Hid (∀ (W : World) (v : Value), Kws W.heap.size W → Nodes W.heap.size W v lb → Calls Tryd.prog 35 #[.agg #[v]] W (FrPost Y 0 W)))
    (HXL : Hid (X.length = n)) (HYL : T = true → Hid (Y.length = n)) (hn : n ≤ 1000) (HSB : T = true → Hid (∀ s ∈ X, inN s Y = true)) :
    Calls Tryd.prog 9 #[.agg #[.slice A0 LA c0], .agg #[.slice B0 LB d0]] w fun e w' => e = .returned (.bool true) ∧ Below w.heap.size w w' := by
  have HW2 : Hid (Below w.heap.size w ((w.alloc (.cells #[.slice A0 LA c0] 24)).alloc (.cells #[.slice B0 LB d0] 24))) := Lib.hid (((Below.refl _ w).alloc (Nat.le_refl _) _).alloc (by simp) _)
  have X0 : Hid (((w.alloc (.cells #[.slice A0 LA c0] 24)).alloc (.cells #[.slice B0 LB d0] 24)).heap[w.heap.size]? = some (.cells #[.slice A0 LA c0] 24 (0, 0))) := Lib.hid (nextAt (newAt rfl))
  have Y0 : Hid (((w.alloc (.cells #[.slice A0 LA c0] 24)).alloc (.cells #[.slice B0 LB d0] 24)).heap[w.heap.size + 1]? = some (.cells #[.slice B0 LB d0] 24 (0, 0))) := Lib.hid (newAt (by simp))
  go_enter Tryd.func9, Tryd.ntmps9
  go_upto_region 3 with (go_at_call 32; refine (HWK.out _ (HK.out _ HW2.out)).mono ?_; rintro e wk ⟨rfl, hbk⟩; have HWk := Lib.hid (below_next HW2.out hbk (Nat.le_refl _)); have Xk := Lib.hid (blk_next X0.out hbk); have Yk := Lib.hid (blk_next Y0.out hbk); have ck := (Blk_cell Xk.out 0).trans rfl; have dk := (Blk_cell Yk.out 0).trans rfl; clear hbk)
  have hsk : w.heap.size + 1 < wk.heap.size := (Array.getElem?_eq_some_iff.1 Yk.out).1
  go_cut [4] (fun s4 wx => s4 = .bool false ∧ ∃ A ka C kc, Hid (BSt w wx A ka la.length la C kc lb.length lb))
  case first =>
    go_region_with (first
      | (go_at_call 10; have _tag := O1.out; clear _tag; refine (HFB.out _ HB1.out).mono ?_; rintro e w2 ⟨v2, ps2, rfl, hps2, hown2, hb2⟩; obtain ⟨A2, k2, rfl⟩ := own_slice_len hown2 hps2 HLB.out rfl; have hs1 := HB1.out.size; have hle := HS1.out; have O2 : Hid (OwnN (w.heap.size + 2) w2 (.slice A2 lb.length k2) ps2) := Lib.hid (own_lowS hown2 (by omega)); have O1 := Lib.hid (ownN_grow O1.out (grown_of hb2)); have E2 := Lib.hid (hps2.trans HLB.out); have x2 := blk_next X1.out hb2; have y2 := blk_next Y1.out hb2; have f2 := Blk_frozen x2 0; have g2 := Blk_frozen y2 0; have c2 : w2.cell? ⟨w.heap.size, 0, none⟩ = some (.slice A0 LA c0) := (Blk_cell x2 0).trans rfl; have d2 : w2.cell? ⟨w.heap.size + 1, 0, none⟩ = some (.slice B0 LB d0) := (Blk_cell y2 0).trans rfl; have X2 := Lib.hid x2; have Y2 := Lib.hid y2; have HB2 := Lib.hid (below_next HB1.out hb2 (Nat.le_refl _)); clear x2 y2 hb2 hown2 hps2)
      | (go_at_call 10; refine (HFA.out _ HWk.out.drew).mono ?_; rintro e w1 ⟨v1, ps1, rfl, hps1, hown1, hb1⟩; obtain ⟨A1, k1, rfl⟩ := own_slice_len hown1 hps1 HLA.out rfl; have O1 : Hid (OwnN (w.heap.size + 2) w1 (.slice A1 la.length k1) ps1) := Lib.hid (own_lowS hown1 (by simp; omega)); have E1 := Lib.hid (hps1.trans HLA.out); have x1 := blk_next Xk.out (Below.trans (Below.refl _ _).drew hb1); have y1 := blk_next Yk.out (Below.trans (Below.refl _ _).drew hb1); have c1 : w1.cell? ⟨w.heap.size, 0, none⟩ = some (.slice A0 LA c0) := (Blk_cell x1 0).trans rfl; have d1 : w1.cell? ⟨w.heap.size + 1, 0, none⟩ = some (.slice B0 LB d0) := (Blk_cell y1 0).trans rfl; have X1 := Lib.hid x1; have Y1 := Lib.hid y1; have HB1 := Lib.hid (below_next HWk.out.drew hb1 (Nat.le_refl _)); have HS1 : Hid (w.heap.size + 2 ≤ w1.heap.size) := Lib.hid (by have := hb1.size; simp at this; omega); clear x1 y1 hb1 hown1 hps1))
    all_goals
      go_wp2_with fail
      go_meet
      exact ⟨rfl, A1, k1, A2, k2, Lib.hid (two_boxes HB2.out O1.out O2.out E1.out E2.out X2.out Y2.out)⟩
  case rest =>
    obtain ⟨rfl, A1, ka, C1, kc, S0⟩ := hcut
    clear X0 Y0 HW2 Xk Yk HWk ck dk
    have c20 := S0.out.c2
    have c30 := S0.out.c3
    cases T with
    | false =>
      replace HRS := HRS rfl
      clear HFX HFY HYL HSB
      go_wp2_with (first
        | (go_at_call 40; refine (HAL.out _ _ _ (HK.out _ S0.out.1) S0.out.2.1 S0.out.2.2.1).mono ?_; rintro e w3 ⟨rfl, hb⟩; have S3 := Lib.hid (S0.out.next hb); have c23 := S3.out.c2; have c33 := S3.out.c3; clear hb)
        | (go_at_call 23; refine (HRS.out _ _ _ S3.out.2.1 S3.out.2.2.1).mono ?_; rintro e w4 ⟨rfl, hb⟩; have S4 := Lib.hid (S3.out.next hb); clear hb))
      go_ret
      exact ⟨rfl, S4.out.1⟩
    | true =>
      replace HFX := HFX rfl
      replace HFY := HFY rfl
      replace HYL := HYL rfl
      replace HSB := HSB rfl
      clear HRS
      go_wp2_with (first
        | (go_at_call 40; refine (HAL.out _ _ _ (HK.out _ S0.out.1) S0.out.2.1 S0.out.2.2.1).mono ?_; rintro e w3 ⟨rfl, hb⟩; have S3 := Lib.hid (S0.out.next hb); have c23 := S3.out.c2; have c33 := S3.out.c3; clear hb)
        | (go_at_call 35; have _tag := U4.out; clear _tag; refine (HFY.out _ _ (HK.out _ S4.out.1) S4.out.2.2.1).mono ?_; rintro e w5 ⟨v5, rfl, ho, hb⟩; rw [HYL.out] at ho; obtain ⟨UB, ud, rfl, _⟩ := row_slice ho; have S5 := Lib.hid (S4.out.next hb); have U5 := Lib.hid (World.ownsRow.kept U4.out (grown_of hb) (ne_none _)); have Z5 := Lib.hid ho; clear hb ho)
        | (go_at_call 35; refine (HFX.out _ _ (HK.out _ S3.out.1) S3.out.2.1).mono ?_; rintro e w4 ⟨v4, rfl, ho, hb⟩; rw [HXL.out] at ho; obtain ⟨UA, uc, rfl, _⟩ := row_slice ho; have S4 := Lib.hid (S3.out.next hb); have U4 := Lib.hid ho; have c34 := S4.out.c3; clear hb ho))
      go_loopw [9] (fun s9 wr => ∃ q : Nat, s9 = .int .i64 (q : Int) ∧ q ≤ n ∧ Hid (Below w5.heap.size w5 wr)) (fun s9 _ => n - (intOf s9).toNat)
      case atStart => exact ⟨0, rfl, Nat.zero_le _, Lib.hid (Below.refl _ _)⟩
      case round =>
        obtain ⟨q, rfl, hq, HB⟩ := hrel
        clear c20 c30 c23 c33 c34
        by_cases hlt : q < n
        · obtain ⟨s, hs⟩ : ∃ s, X[q]? = some s := ⟨_, List.getElem?_eq_getElem (by rw [HXL.out]; exact hlt)⟩
          have HSY := Lib.hid (HSB.out s (List.mem_of_getElem? hs))
          have HXC : Hid (∀ W, Below w5.heap.size w5 W → ∃ g, UA = some ⟨g, 0, none⟩ ∧ W.cell? ⟨g, q, none⟩ = some (.string s)) := Lib.hid fun W hb => str_cell (World.ownsRow.kept U5.out (grown_of hb) (ne_none _)) hs
          clear hs
          go_wp2
          go_loopw [10, 11] (fun s10 s11 wr => ∃ j : Nat, s10 = .bool (inN s (Y.take j)) ∧ s11 = .int .i64 (j : Int) ∧ j ≤ n ∧ Hid (Below w5.heap.size w5 wr)) (fun _ s11 _ => n - (intOf s11).toNat)
          case atStart => exact ⟨0, rfl, rfl, Nat.zero_le _, HB⟩
          case round =>
            clear HB
            obtain ⟨j, rfl, rfl, hj, HB⟩ := hrel
            by_cases hjn : j < n
            · obtain ⟨z, hz⟩ : ∃ z, Y[j]? = some z := ⟨_, List.getElem?_eq_getElem (by rw [HYL.out]; exact hjn)⟩
              obtain ⟨g, rfl, h1⟩ := HXC.out _ HB.out
              obtain ⟨g', rfl, h2⟩ := str_cell (World.ownsRow.kept Z5.out (grown_of HB.out) (ne_none _)) hz
              have HIT := Lib.hid (inN_take (s := s) hz)
              clear hz
              cases ti : inN s (Y.take j) with
              | true =>
                have HIT2 : Hid (inN s (Y.take (j + 1)) = true) := Lib.hid (by rw [HIT.out, ti]; rfl)
                go_upto_region 17 with fail
                go_region
                all_goals
                  go_wp2_with fail
                  go_roundw
                  case rel => exact ⟨j + 1, by rw [HIT2.out], by go_num, by omega, Lib.hid HB.out.drew⟩
                  case measure => simp [intOf]; omega
              | false =>
                have hcm : (z.toList == s.toList) = (s.toList == z.toList) := BEq.comm
                have HIT2 : Hid (inN s (Y.take (j + 1)) = (s.toList == z.toList)) := Lib.hid (by rw [HIT.out, ti, hcm]; rfl)
                clear hcm
                go_upto_region 17 with fail
                go_region_held3 (fun W => W.cell? ⟨g, q, none⟩ = some (.string s) ∧ W.cell? ⟨g', j, none⟩ = some (.string z)) (first | exact ⟨h1, h2⟩) (fail)
                all_goals
                  go_wp2_with fail
                  go_roundw
                  case rel => exact ⟨j + 1, by rw [HIT2.out], by go_num, by omega, Lib.hid HB.out.drew⟩
                  case measure => simp [intOf]; omega
            · obtain rfl : j = n := by omega
              have HTK : Hid (inN s (Y.take j) = true) := Lib.hid (by rw [List.take_of_length_le (by rw [HYL.out]; exact Nat.le_refl _)]; exact HSY.out)
              rw [HTK.out]
              go_wp2
              go_roundw
              case rel => exact ⟨q + 1, by go_num, by omega, HB⟩
              case measure => simp [intOf]; omega
        · obtain rfl : q = n := by omega
          go_wp2
          go_ret
          exact ⟨rfl, below_next S5.out.1 HB.out (Nat.le_refl _)⟩
end Go.Proofs.YteikpeaakmbihaaDoor.T
