/- Joined by program. -/
import Derived.Test.YtjakeidbajkdcaaGreatDoorH11
import Derived.Test.YtjakeidbajkdcaaGreatDoorH10
import Derived.Test.YtjakeidbajkdcaaGreatDoorH09
set_option maxRecDepth 100000
set_option maxHeartbeats 8000000
namespace Go.Proofs.YtjakeidbajkdcaaGreatDoor.T
open Go.RowKit
theorem rright_is (x : Nd) (r : Bool) (hr : rightB x = r) (vl : Value) (w : World) (hv : Flds w.heap.size w vl x.l) (hS : Small x) : Calls Tryz.prog 41 #[.agg (ndArr x vl)] w fun e w' => e = .returned (.bool r) /\ Below w.heap.size w w' := by
  subst hr
  exact right_any x vl w hv hS.2.2.1 hS.1 hS.2.1 hS.2.2.2
theorem rmay_full (A : Option Addr) (L c : Nat) (h : L < 1 ∨ 600 < L) (hL : L <= 9223372036854775807) (w : World) : Calls Tryz.prog 22 #[.agg #[.slice A L c]] w fun e w' => e = .returned (.int .i64 8) /\ Below w.heap.size w w' := by
  by_cases h0 : L = 0
  · subst h0
    go_enter Tryz.func22, Tryz.ntmps22
    go_wp2
    go_ret
    exact ⟨rfl, (Below.refl _ w).alloc (Nat.le_refl _) _⟩
  · have h1 : decide ((L : Int) < 1) = false := by simp; omega
    have h2 : decide ((600 : Int) < (L : Int)) = true := by simp; omega
    have h3 : (600 : Int) < (L : Int) := by omega
    have h4 : ¬ (L : Int) < 1 := by omega
    go_enter Tryz.func22, Tryz.ntmps22
    go_wp2
    go_ret
    exact ⟨rfl, (Below.refl _ w).alloc (Nat.le_refl _) _⟩
theorem rmay_any (l : List Nd) (L c b o : Nat) (HL : Hid (l.length = L)) (hL0 : 0 < L) (hL : L <= 600) (w : World) (hb : b < w.heap.size) (HN : Hid (NdsAt w.heap.size w b o l)) (HS : Hid (∀ x ∈ l, Small x)) :
    Calls Tryz.prog 22 #[.agg #[.slice (some ⟨b, o, none⟩) L c]] w fun e w' => e = .returned (.int .i64 (may l)) /\ Below w.heap.size w w' := by
  have h1 : decide ((L : Int) < 1) = false := by simp; omega
  have h1' : ¬ L < 1 := by omega
  have h2 : decide ((600 : Int) < (L : Int)) = false := by simp; omega
  have hnf : ¬ (l.length < 1 ∨ 600 < l.length) := by rw [HL.out]; omega
  have hbx : (w.alloc (.cells #[.slice (some ⟨b, o, none⟩) L c] 25)).cell? ⟨w.heap.size, 0, none⟩ = some (.slice (some ⟨b, o, none⟩) L c) := new_cellsT' w 25 [.slice (some ⟨b, o, none⟩) L c] 0 _ rfl
  have hmk := make_arr L (by omega)
  have HBX := Lib.hid hbx
  go_enter Tryz.func22, Tryz.ntmps22
  go_wp2
  go_region
  · obtain ⟨W3, hW3⟩ : ∃ W3, (((w.alloc (.cells #[.slice (some ⟨b, o, none⟩) L c] 25)).alloc (.cells (Array.replicate L (Value.int .i64 0)) 3)).alloc (.cells (Array.replicate L (Value.int .i64 0)) 3)).drew = W3 := ⟨_, rfl⟩
    rw [hW3]
    have HB3 : Hid (Below (w.heap.size + 1) (w.alloc (.cells #[.slice (some ⟨b, o, none⟩) L c] 25)) W3) := Lib.hid (by rw [<- hW3]; exact (((Below.refl _ _).alloc (by simp) _).alloc (by simp) _).drew)
    have HB0 : Hid (Below w.heap.size w W3) := Lib.hid (((Below.refl _ w).alloc (Nat.le_refl _) _).trans (HB3.out.mono (by omega)))
    have HG1 : Hid (W3.heap[w.heap.size + 1]? = some (.cells ((List.replicate L (0 : Int)).map (Value.int .i64)).toArray 3)) := Lib.hid (by
      rw [<- hW3, <- rep_arr]
      exact (((Below.refl (w.heap.size + 2) ((w.alloc (.cells #[.slice (some ⟨b, o, none⟩) L c] 25)).alloc (.cells (Array.replicate L (Value.int .i64 0)) 3))).alloc (by simp) (.cells (Array.replicate L (Value.int .i64 0)) 3)).block (w.heap.size + 1) (by omega)).trans (heap_new _ _ _ (by simp)))
    have HG2 : Hid (W3.heap[w.heap.size + 1 + 1]? = some (.cells ((List.replicate L (0 : Int)).map (Value.int .i64)).toArray 3)) := Lib.hid (by
      rw [<- hW3, <- rep_arr]
      exact heap_new _ _ _ (by simp))
    have hbx3 : W3.cell? ⟨w.heap.size, 0, none⟩ = some (.slice (some ⟨b, o, none⟩) L c) := (HB3.out.cell (p := ⟨w.heap.size, 0, none⟩) (by simp)).trans HBX.out
    clear hW3
    go_wp2
    go_loopw [5] (fun v wr => ∃ (i : Nat) (C D : List Int), v = .int .i64 (i : Int) /\ i <= L /\ Hid (wr.heap[w.heap.size + 1]? = some (.cells (C.map (Value.int .i64)).toArray 3)) /\ Hid (wr.heap[w.heap.size + 1 + 1]? = some (.cells (D.map (Value.int .i64)).toArray 3)) /\ Hid (CRow L (allKids (l.take i)) C) /\ Hid ((allKids (l.take i)).length <= i * 1000003) /\ Hid (ORow l i D) /\ Hid (∀ (i' : Nat) (y : Nd), i' < i -> l[i']? = some y -> rightB y = true /\ ahead i' y /\ recAt l y) /\ Hid (Below (w.heap.size + 1) W3 wr)) (fun v _ => L - (intOf v).toNat)
    case atStart => exact ⟨0, List.replicate L 0, List.replicate L 0, rfl, Nat.zero_le _, HG1, HG2, Lib.hid (CRow.start L), Lib.hid (by simp [allKids]), Lib.hid (ORow.start l L HL.out), Lib.hid (fun i' y h => absurd h (by omega)), Lib.hid (Below.refl _ _)⟩
    case round =>
      obtain ⟨i, C, D, rfl, hi, HC, HD, HCR, HCL, HDR, HAL, HBR⟩ := hrel
      have HB : Hid (Below w.heap.size w wr) := Lib.hid (HB0.out.trans (HBR.out.mono (by omega)))
      have hgs : w.heap.size + 1 + 1 < wr.heap.size := (Array.getElem?_eq_some_iff.1 HD.out).1
      have hcb : wr.cell? ⟨w.heap.size, 0, none⟩ = some (.slice (some ⟨b, o, none⟩) L c) := (HBR.out.cell (p := ⟨w.heap.size, 0, none⟩) (by simp)).trans hbx3
      by_cases hlt : i < L
      · obtain ⟨x, hx⟩ : ∃ x, l[i]? = some x := ⟨_, List.getElem?_eq_getElem (by rw [HL.out]; exact hlt)⟩
        obtain ⟨fv, hfl, m0, m1, m2, m3, m4, m5, m6, m7, m8⟩ := (HN.out.below HB.out hb) i x hx
        have HFL : Hid (Flds wr.heap.size wr fv x.l) := Lib.hid (hfl.mono HB.out.size)
        obtain ⟨FA, fc, rfl, _⟩ := hfl
        have HX := Lib.hid hx
        have HSX := Lib.hid (HS.out x (List.mem_of_getElem? hx))
        obtain ⟨r, hr⟩ : ∃ r, rightB x = r := ⟨_, rfl⟩
        have HRT := Lib.hid (rright_is x r hr (.slice FA x.l.length fc) wr HFL.out HSX.out)
        have HR := Lib.hid hr
        clear hx hr
        cases r with
        | false =>
          have HBAD : Hid (¬ formed l) := Lib.hid (fun h => by have := h.1 x (List.mem_of_getElem? HX.out); rw [HR.out] at this; cases this)
          go_wp2_with (go_at_call 41; refine HRT.out.mono ?_; rintro e w4 ⟨rfl, hb4⟩; have HB4 := Lib.hid hb4; clear hb4)
          go_ret
          exact ⟨by rw [may_form hnf HBAD.out]; rfl, HB.out.trans (HB4.out.mono HB.out.size)⟩
        | true =>
          have HKD : Hid (∀ w1, Below wr.heap.size wr w1 -> Calls Tryz.prog 42 #[.agg (ndArr x (.slice FA x.l.length fc))] w1 (KidsPost (kids x) w1.heap.size w1)) := Lib.hid fun w1 hb1 => kids_any x _ w1 (Nat.le_refl _) ((HFL.out.below hb1).mono hb1.size) HSX.out.2.2.1
          obtain ⟨K, hK⟩ : ∃ K, kids x = K := ⟨_, rfl⟩
          rw [hK] at HKD
          have HKX := Lib.hid hK
          clear hK
          have HMM := Lib.hid (And.intro m0 (And.intro m1 (And.intro m2 (And.intro m3 (And.intro m4 (And.intro m5 (And.intro m6 (And.intro m7 m8))))))))
          go_wp2_with (first | (go_at_call 41; refine HRT.out.mono ?_; rintro e w4 ⟨rfl, hb4⟩; have hs4 := hb4.size; have c4 := (hb4.cell (p := ⟨w.heap.size, 0, none⟩) (by show w.heap.size < wr.heap.size; omega)).trans hcb; have q0 := (hb4.cell (p := ⟨b, o + i * 9, none⟩) (by show b < wr.heap.size; omega)).trans m0; have q1 := (hb4.cell (p := ⟨b, o + i * 9 + 1, none⟩) (by show b < wr.heap.size; omega)).trans m1; have q2 := (hb4.cell (p := ⟨b, o + i * 9 + 2, none⟩) (by show b < wr.heap.size; omega)).trans m2; have q3 := (hb4.cell (p := ⟨b, o + i * 9 + 3, none⟩) (by show b < wr.heap.size; omega)).trans m3; have q4 := (hb4.cell (p := ⟨b, o + i * 9 + 4, none⟩) (by show b < wr.heap.size; omega)).trans m4; have q5 := (hb4.cell (p := ⟨b, o + i * 9 + 5, none⟩) (by show b < wr.heap.size; omega)).trans m5; have q6 := (hb4.cell (p := ⟨b, o + i * 9 + 6, none⟩) (by show b < wr.heap.size; omega)).trans m6; have q7 := (hb4.cell (p := ⟨b, o + i * 9 + 7, none⟩) (by show b < wr.heap.size; omega)).trans m7; have q8 := (hb4.cell (p := ⟨b, o + i * 9 + 8, none⟩) (by show b < wr.heap.size; omega)).trans m8; have HB4 := Lib.hid hb4; clear hb4) | (go_at_call 42; refine (HKD.out _ HB4.out).mono ?_; rintro e w5 ⟨gk, ck, rfl, hi5, hb5⟩; have HI5 := Lib.hid hi5; have HB5 := Lib.hid (HB4.out.trans (hb5.mono HB4.out.size)); have hgk := (hi5.lt gk rfl); clear hi5 hb5))
          have hkl : K.length <= 1000003 := by rw [<- HKX.out]; have := kids_len x; have := HSX.out.2.2.1; omega
          have HC5 : Hid (w5.heap[w.heap.size + 1]? = some (.cells (C.map (Value.int .i64)).toArray 3)) := Lib.hid ((HB5.out.block _ (by omega)).trans HC.out)
          have HD5 : Hid (w5.heap[w.heap.size + 1 + 1]? = some (.cells (D.map (Value.int .i64)).toArray 3)) := Lib.hid ((HB5.out.block _ (by omega)).trans HD.out)
          have HR5 : Hid (Row0 w5 gk K) := Lib.hid (ints_cells HI5.out)
          have HB35 := Lib.hid (HBR.out.trans (HB5.out.mono (by omega)))
          clear m0 m1 m2 m3 m4 m5 m6 m7 m8 q0 q1 q2 q3 q4 q5 q6 q7 q8 hcb c4
          have HAHX : Hid (∀ (j : Nat) (k : Int), K[j]? = some k -> k ∈ kids x) := Lib.hid (fun j k h => by rw [HKX.out]; exact List.mem_of_getElem? h)
          go_loopw [7] (fun v w6 => ∃ (j d : Nat) (C' D' : List Int), v = .int .i64 (j : Int) /\ j <= K.length /\ d <= 100000 /\ Hid (d = mx l (K.take j)) /\ Hid (∀ k ∈ K.take j, 0 <= k /\ k < (i : Int)) /\ Hid (w6.heap[w.heap.size + 1]? = some (.cells (C'.map (Value.int .i64)).toArray 3)) /\ Hid (w6.heap[w.heap.size + 1 + 1]? = some (.cells (D'.map (Value.int .i64)).toArray 3)) /\ Hid (CRow L (allKids (l.take i) ++ K.take j) C') /\ Hid (DRow l i d D') /\ Hid (Row0 w6 gk K) /\ Hid (Below (w.heap.size + 1) W3 w6)) (fun v _ => K.length - (intOf v).toNat)
          case atStart => exact ⟨0, 0, C, D, rfl, Nat.zero_le _, Nat.zero_le _, Lib.hid rfl, Lib.hid (by simp), HC5, HD5, Lib.hid (by simpa using HCR.out), Lib.hid (HDR.out.row (by rw [HL.out]; exact hlt)), HR5, HB35⟩
          case round =>
            obtain ⟨j, d, C', D', rfl, hj, hd, HDM, HAK, HC6, HD6, HCR6, HDR6, HR6, HB6⟩ := hrel
            have HB06 : Hid (Below w.heap.size w wr) := Lib.hid (HB0.out.trans (HB6.out.mono (by omega)))
            have hcb : wr.cell? ⟨w.heap.size, 0, none⟩ = some (.slice (some ⟨b, o, none⟩) L c) := (HB6.out.cell (p := ⟨w.heap.size, 0, none⟩) (by simp)).trans hbx3
            by_cases hjl : j < K.length
            · obtain ⟨k, hk⟩ : ∃ k, K[j]? = some k := ⟨_, List.getElem?_eq_getElem hjl⟩
              have hck := HR6.out j k hk
              have HKK := Lib.hid hk
              clear hk
              by_cases h0 : k < 0
              · have HBAD : Hid (¬ formed l) := Lib.hid (fun hh => by
                  have := (hh.2.1 i x HX.out k (HAHX.out j k HKK.out)).1; omega)
                go_wp2
                go_ret
                exact ⟨by rw [may_form hnf HBAD.out]; rfl, HB06.out⟩
              · obtain ⟨q, rfl⟩ := Int.eq_ofNat_of_zero_le (by omega : 0 <= k)
                by_cases hqi : q < i
                · obtain ⟨dq, hdq⟩ : ∃ dq, (deeps l).getD q 0 = dq := ⟨_, rfl⟩
                  obtain ⟨z, hz⟩ : ∃ z : Nat, (allKids (l.take i) ++ K.take j).count ((q : Nat) : Int) = z := ⟨_, rfl⟩
                  have hzb : z <= 1000000000 := by
                    have h3 := List.count_le_length (a := ((q : Nat) : Int)) (l := allKids (l.take i) ++ K.take j)
                    have h4 := HCL.out
                    rw [List.length_append, List.length_take] at h3
                    have : i * 1000003 <= 600 * 1000003 := Nat.mul_le_mul_right _ (by omega)
                    omega
                  have hcq := row0_of HC6.out q (z : Int) (by rw [HCR6.out.2 q (by omega), hz])
                  have hfq := Blk_frozen HC6.out q
                  have hci := row0_of HD6.out i (d : Int) HDR6.out.2.2.1
                  have hfi := Blk_frozen HD6.out i
                  have hcd := row0_of HD6.out q (dq : Int) (by rw [<- hdq]; exact HDR6.out.2.1 q hqi)
                  have HNX : Hid (mx l (K.take (j + 1)) = max d dq) := Lib.hid (by rw [take_snoc K j _ HKK.out, mx_snoc, <- HDM.out, Int.toNat_natCast, hdq])
                  have HAK1 : Hid (∀ k ∈ K.take (j + 1), 0 <= k /\ k < (i : Int)) := Lib.hid (by
                    rw [take_snoc K j _ HKK.out]
                    intro m hm
                    rw [List.mem_append, List.mem_singleton] at hm
                    rcases hm with hm | rfl
                    · exact HAK.out m hm
                    · omega)
                  have hdl : dq <= 100000 := by
                    have hk' : kidsOk (l.take i) := fun i' y hy => by
                      rw [List.getElem?_take] at hy
                      split at hy
                      · rename_i hlt'; exact (HAL.out i' y hlt' hy).2.1
                      · cases hy
                    have h5 := deeps_le hk' q (by rw [List.length_take, HL.out]; omega)
                    rw [deeps_take, List.getD_eq_getElem?_getD, List.getElem?_take, if_pos hqi, <- List.getD_eq_getElem?_getD, hdq] at h5
                    omega
                  have HCN : Hid (CRow L (allKids (l.take i) ++ K.take (j + 1)) (C'.set q ((z + 1 : Nat) : Int))) := Lib.hid (by
                    rw [take_snoc K j _ HKK.out, <- List.append_assoc, <- hz]
                    exact HCR6.out.step (by omega))
                  have HZ := Lib.hid hz
                  clear hdq hz
                  go_wp2_with fail
                  go_region
                  all_goals
                    go_wp2
                    go_roundw
                    case rel =>
                      refine ⟨j + 1, max d dq, C'.set q ((z + 1 : Nat) : Int), D'.set i ((max d dq : Nat) : Int), by go_num, by omega, by omega, Lib.hid HNX.out.symm, HAK1, Lib.hid ?_, Lib.hid ?_, HCN, Lib.hid (HDR6.out.set _), Lib.hid (Row0.drew ((HR6.out.set (by omega)).set (by omega))), Lib.hid ((HB6.out.setCell (p := ⟨w.heap.size + 1, q, none⟩) (by simp <;> omega) _).setCell (p := ⟨w.heap.size + 1 + 1, i, none⟩) (by simp <;> omega) _).drew⟩
                      · exact (set_far _ _ _ _ _ (by omega)).trans (set_row (k := q) (z := ((z + 1 : Nat) : Int)) HC6.out)
                      · have e : max (d : Int) (dq : Int) = ((max d dq : Nat) : Int) := by omega
                        rw [e]
                        exact set_row (k := i) (z := ((max d dq : Nat) : Int)) ((set_far _ _ _ _ _ (by omega)).trans HD6.out)
                    case measure => simp [intOf]; omega
                · have HBAD : Hid (¬ formed l) := Lib.hid (fun hh => by
                    have := (hh.2.1 i x HX.out _ (HAHX.out j _ HKK.out)).2; omega)
                  have h1q : (i : Int) <= (q : Int) := by omega
                  go_wp2
                  go_ret
                  exact ⟨by rw [may_form hnf HBAD.out]; rfl, HB06.out⟩
            · obtain rfl : j = K.length := by omega
              have hAK := HAK.out
              have hCR := HCR6.out
              have hdm := HDM.out
              rw [List.take_length] at hAK hCR hdm
              have hah : ahead i x := by rw [<- HKX.out] at hAK; exact hAK
              have HMX : Hid ((deeps l).getD i 0 = d + 1) := Lib.hid (by rw [deeps_mx HX.out hah, HKX.out, hdm])
              have HALK : Hid (allKids (l.take (i + 1)) = allKids (l.take i) ++ K) := Lib.hid (by rw [take_snoc l i x HX.out, allKids_snoc, HKX.out])
              have hci := row0_of HD6.out i (d : Int) HDR6.out.2.2.1
              have hfi := Blk_frozen HD6.out i
              have hbl : b < wr.heap.size := by have := HB6.out.size; have := HB3.out.size; rw [World.size_alloc] at this; omega
              obtain ⟨fv', _, m0, m1, _⟩ := (HN.out.below HB06.out hb) i x HX.out
              have HAH := Lib.hid hah
              have HCR7 := Lib.hid hCR
              clear hAK hCR hdm hah
              by_cases hk8 : x.kind = 8
              · obtain ⟨h0, h1⟩ := HAH.out _ (kid_a hk8)
                obtain ⟨q, hq⟩ := Int.eq_ofNat_of_zero_le h0
                have hqi : q < i := by omega
                obtain ⟨y, hy⟩ : ∃ y, l[q]? = some y := ⟨_, List.getElem?_eq_getElem (by rw [HL.out]; omega)⟩
                obtain ⟨gv', _, y0, _⟩ := (HN.out.below HB06.out hb) q y hy
                rw [hk8] at m0
                rw [hq] at m1
                have HQ := Lib.hid hq
                have HYY := Lib.hid hy
                have HK8 := Lib.hid hk8
                obtain ⟨ky, hky⟩ : ∃ ky, y.kind = ky := ⟨_, rfl⟩
                rw [hky] at y0
                have HKY := Lib.hid hky
                clear hk8 hq hy hky
                by_cases h5 : ky = 5
                · subst h5
                  go_wp2_with fail
                  go_region
                  all_goals
                    go_wp2
                    go_roundw
                    case rel =>
                      refine ⟨i + 1, C', D'.set i ((d + 1 : Nat) : Int), by go_num, by omega, Lib.hid ((set_far _ _ _ _ _ (by omega)).trans HC6.out), Lib.hid (set_row (k := i) (z := ((d + 1 : Nat) : Int)) HD6.out), Lib.hid (by rw [HALK.out]; exact HCR7.out), Lib.hid ?_, Lib.hid ((HDR6.out.set _).out HMX.out), Lib.hid ?_, Lib.hid (HB6.out.setCell (p := ⟨w.heap.size + 1 + 1, i, none⟩) (by simp <;> omega) _).drew⟩
                      · rw [HALK.out, List.length_append]; have := HCL.out; omega
                      · intro i' y' hi' hy'
                        by_cases e : i' = i
                        · subst e
                          rw [HX.out] at hy'; injection hy' with hy'; subst hy'
                          exact ⟨HR.out, HAH.out, fun _ => ⟨y, by rw [HQ.out, Int.toNat_natCast]; exact HYY.out, HKY.out⟩⟩
                        · exact HAL.out i' y' (by omega) hy'
                    case measure => simp [intOf]; omega
                · have h5b : (ky != 5) = true := by simpa using h5
                  have HBAD : Hid (¬ formed l) := Lib.hid (fun hh => by
                    obtain ⟨y', hy', h5'⟩ := hh.2.2.2 i x HX.out HK8.out
                    rw [HQ.out, Int.toNat_natCast, HYY.out] at hy'
                    injection hy' with hy'
                    subst hy'
                    exact h5 (HKY.out.symm.trans h5'))
                  go_wp2_with fail
                  go_region
                  all_goals
                    go_wp2
                    go_ret
                    exact ⟨by rw [may_form hnf HBAD.out]; rfl, (HB06.out.setCell (p := ⟨w.heap.size + 1 + 1, i, none⟩) (by simp <;> omega) _).drew⟩
              · have hk8b := neI hk8
                have HK8 := Lib.hid hk8
                clear hk8
                go_wp2_with fail
                go_region
                all_goals
                  go_wp2
                  go_roundw
                  case rel =>
                    refine ⟨i + 1, C', D'.set i ((d + 1 : Nat) : Int), by go_num, by omega, Lib.hid ((set_far _ _ _ _ _ (by omega)).trans HC6.out), Lib.hid (set_row (k := i) (z := ((d + 1 : Nat) : Int)) HD6.out), Lib.hid (by rw [HALK.out]; exact HCR7.out), Lib.hid ?_, Lib.hid ((HDR6.out.set _).out HMX.out), Lib.hid ?_, Lib.hid (HB6.out.setCell (p := ⟨w.heap.size + 1 + 1, i, none⟩) (by simp <;> omega) _).drew⟩
                    · rw [HALK.out, List.length_append]; have := HCL.out; omega
                    · intro i' y' hi' hy'
                      by_cases e : i' = i
                      · subst e
                        rw [HX.out] at hy'; injection hy' with hy'; subst hy'
                        exact ⟨HR.out, HAH.out, fun h => absurd h HK8.out⟩
                      · exact HAL.out i' y' (by omega) hy'
                  case measure => simp [intOf]; omega
      · obtain rfl : i = L := by omega
        have hfull : l.take i = l := List.take_of_length_le (by rw [HL.out]; omega)
        have hcr := HCR.out
        rw [hfull, <- HL.out] at hcr
        have hall : ∀ (i' : Nat) (y : Nd), l[i']? = some y -> rightB y = true /\ ahead i' y /\ recAt l y := fun i' y hy => HAL.out i' y (by have := lt_of_some hy; rw [HL.out] at this; exact this) hy
        have HKO : Hid (kidsOk l) := Lib.hid (fun i' y hy => (hall i' y hy).2.1)
        have HONCE := Lib.hid (CRow.once hcr HKO.out)
        have HFORM : Hid (onceOk l -> formed l) := Lib.hid (fun h => ⟨fun y hy => by obtain ⟨i', hi'⟩ := List.getElem?_of_mem hy; exact (hall i' y hi').1, HKO.out, h, fun i' y hy => (hall i' y hy).2.2⟩)
        have hsub : IntKind.i64.wrap ((i : Int) - 1) = ((i - 1 : Nat) : Int) := by rw [IntWalk.i64_in _ (by omega)]; omega
        clear hfull hcr hall
        go_wp2
        go_loop [8] (fun v => ∃ j : Nat, v = .int .i64 (j : Int) /\ j <= i - 1 /\ Hid (∀ j' : Nat, j' < j -> C[j']? = some 1)) (fun v => (i - 1) - (intOf v).toNat)
        case atStart => exact ⟨0, rfl, Nat.zero_le _, Lib.hid (fun j' h => absurd h (by omega))⟩
        case round =>
          obtain ⟨j, rfl, hj, HJ⟩ := hrel
          by_cases hjl : j < i - 1
          · obtain ⟨z, hz⟩ : ∃ z, C[j]? = some z := ⟨_, List.getElem?_eq_getElem (by rw [HCR.out.1]; omega)⟩
            have hcz := row0_of HC.out j z hz
            have HZ := Lib.hid hz
            clear hz
            have hjl2 : (j : Int) < ((i - 1 : Nat) : Int) := by omega
            by_cases h1z : z = 1
            · subst h1z
              go_wp2
              go_round
              case rel =>
                refine ⟨j + 1, by go_num, by omega, Lib.hid fun j' hj' => ?_⟩
                by_cases e : j' = j
                · subst e; exact HZ.out
                · exact HJ.out j' (by omega)
              case measure => simp [intOf]; omega
            · have hzb : (z != 1) = true := by simpa using h1z
              have HBAD : Hid (¬ formed l) := Lib.hid (fun hh => by
                have := HONCE.out.2 hh.2.2.1 j (by rw [HL.out]; omega)
                rw [HZ.out] at this
                injection this with this
                exact h1z this)
              go_wp2
              go_ret
              exact ⟨by rw [may_form hnf HBAD.out]; rfl, HB.out⟩
          · obtain rfl : j = i - 1 := by omega
            have hon : onceOk l := HONCE.out.1 (fun j' hj' => HJ.out j' (by rw [HL.out] at hj'; omega))
            have HF := Lib.hid (HFORM.out hon)
            obtain ⟨r, hr⟩ : ∃ r, root l = r := ⟨_, rfl⟩
            have hcr := row0_of HD.out (i - 1) (r : Int) (by rw [HDR.out.2.1 (i - 1) (by omega), <- hr, root, HL.out])
            have HRR := Lib.hid hr
            clear hr hon
            by_cases hd : 100 < r
            · have HMM : Hid (may l = 6) := Lib.hid (may_deep hnf HF.out (by rw [HRR.out]; exact hd))
              have hd1 : decide ((100 : Int) < (r : Int)) = true := by simp; omega
              have hd2 : (100 : Int) < (r : Int) := by omega
              go_wp2
              go_ret
              exact ⟨by rw [HMM.out]; rfl, HB.out⟩
            · have HMM : Hid (may l = 0) := Lib.hid (may_ok hnf HF.out (by rw [HRR.out]; exact hd))
              have hd1 : decide ((100 : Int) < (r : Int)) = false := by simp; omega
              have hd2 : ¬ (100 : Int) < (r : Int) := by omega
              go_wp2
              go_ret
              exact ⟨by rw [HMM.out]; rfl, HB.out⟩
  · obtain ⟨W3, hW3⟩ : ∃ W3, (((w.alloc (.cells #[.slice (some ⟨b, o, none⟩) L c] 25)).alloc (.cells (Array.replicate L (Value.int .i64 0)) 3)).alloc (.cells (Array.replicate L (Value.int .i64 0)) 3)).drew = W3 := ⟨_, rfl⟩
    rw [hW3]
    have HB3 : Hid (Below (w.heap.size + 1) (w.alloc (.cells #[.slice (some ⟨b, o, none⟩) L c] 25)) W3) := Lib.hid (by rw [<- hW3]; exact (((Below.refl _ _).alloc (by simp) _).alloc (by simp) _).drew)
    have HB0 : Hid (Below w.heap.size w W3) := Lib.hid (((Below.refl _ w).alloc (Nat.le_refl _) _).trans (HB3.out.mono (by omega)))
    have HG1 : Hid (W3.heap[w.heap.size + 1]? = some (.cells ((List.replicate L (0 : Int)).map (Value.int .i64)).toArray 3)) := Lib.hid (by
      rw [<- hW3, <- rep_arr]
      exact (((Below.refl (w.heap.size + 2) ((w.alloc (.cells #[.slice (some ⟨b, o, none⟩) L c] 25)).alloc (.cells (Array.replicate L (Value.int .i64 0)) 3))).alloc (by simp) (.cells (Array.replicate L (Value.int .i64 0)) 3)).block (w.heap.size + 1) (by omega)).trans (heap_new _ _ _ (by simp)))
    have HG2 : Hid (W3.heap[w.heap.size + 1 + 1]? = some (.cells ((List.replicate L (0 : Int)).map (Value.int .i64)).toArray 3)) := Lib.hid (by
      rw [<- hW3, <- rep_arr]
      exact heap_new _ _ _ (by simp))
    have hbx3 : W3.cell? ⟨w.heap.size, 0, none⟩ = some (.slice (some ⟨b, o, none⟩) L c) := (HB3.out.cell (p := ⟨w.heap.size, 0, none⟩) (by simp)).trans HBX.out
    clear hW3
    go_wp2
    go_loopw [5] (fun v wr => ∃ (i : Nat) (C D : List Int), v = .int .i64 (i : Int) /\ i <= L /\ Hid (wr.heap[w.heap.size + 1 + 1]? = some (.cells (C.map (Value.int .i64)).toArray 3)) /\ Hid (wr.heap[w.heap.size + 1]? = some (.cells (D.map (Value.int .i64)).toArray 3)) /\ Hid (CRow L (allKids (l.take i)) C) /\ Hid ((allKids (l.take i)).length <= i * 1000003) /\ Hid (ORow l i D) /\ Hid (∀ (i' : Nat) (y : Nd), i' < i -> l[i']? = some y -> rightB y = true /\ ahead i' y /\ recAt l y) /\ Hid (Below (w.heap.size + 1) W3 wr)) (fun v _ => L - (intOf v).toNat)
    case atStart => exact ⟨0, List.replicate L 0, List.replicate L 0, rfl, Nat.zero_le _, HG2, HG1, Lib.hid (CRow.start L), Lib.hid (by simp [allKids]), Lib.hid (ORow.start l L HL.out), Lib.hid (fun i' y h => absurd h (by omega)), Lib.hid (Below.refl _ _)⟩
    case round =>
      obtain ⟨i, C, D, rfl, hi, HC, HD, HCR, HCL, HDR, HAL, HBR⟩ := hrel
      have HB : Hid (Below w.heap.size w wr) := Lib.hid (HB0.out.trans (HBR.out.mono (by omega)))
      have hgs : w.heap.size + 1 + 1 < wr.heap.size := (Array.getElem?_eq_some_iff.1 HC.out).1
      have hcb : wr.cell? ⟨w.heap.size, 0, none⟩ = some (.slice (some ⟨b, o, none⟩) L c) := (HBR.out.cell (p := ⟨w.heap.size, 0, none⟩) (by simp)).trans hbx3
      by_cases hlt : i < L
      · obtain ⟨x, hx⟩ : ∃ x, l[i]? = some x := ⟨_, List.getElem?_eq_getElem (by rw [HL.out]; exact hlt)⟩
        obtain ⟨fv, hfl, m0, m1, m2, m3, m4, m5, m6, m7, m8⟩ := (HN.out.below HB.out hb) i x hx
        have HFL : Hid (Flds wr.heap.size wr fv x.l) := Lib.hid (hfl.mono HB.out.size)
        obtain ⟨FA, fc, rfl, _⟩ := hfl
        have HX := Lib.hid hx
        have HSX := Lib.hid (HS.out x (List.mem_of_getElem? hx))
        obtain ⟨r, hr⟩ : ∃ r, rightB x = r := ⟨_, rfl⟩
        have HRT := Lib.hid (rright_is x r hr (.slice FA x.l.length fc) wr HFL.out HSX.out)
        have HR := Lib.hid hr
        clear hx hr
        cases r with
        | false =>
          have HBAD : Hid (¬ formed l) := Lib.hid (fun h => by have := h.1 x (List.mem_of_getElem? HX.out); rw [HR.out] at this; cases this)
          go_wp2_with (go_at_call 41; refine HRT.out.mono ?_; rintro e w4 ⟨rfl, hb4⟩; have HB4 := Lib.hid hb4; clear hb4)
          go_ret
          exact ⟨by rw [may_form hnf HBAD.out]; rfl, HB.out.trans (HB4.out.mono HB.out.size)⟩
        | true =>
          have HKD : Hid (∀ w1, Below wr.heap.size wr w1 -> Calls Tryz.prog 42 #[.agg (ndArr x (.slice FA x.l.length fc))] w1 (KidsPost (kids x) w1.heap.size w1)) := Lib.hid fun w1 hb1 => kids_any x _ w1 (Nat.le_refl _) ((HFL.out.below hb1).mono hb1.size) HSX.out.2.2.1
          obtain ⟨K, hK⟩ : ∃ K, kids x = K := ⟨_, rfl⟩
          rw [hK] at HKD
          have HKX := Lib.hid hK
          clear hK
          have HMM := Lib.hid (And.intro m0 (And.intro m1 (And.intro m2 (And.intro m3 (And.intro m4 (And.intro m5 (And.intro m6 (And.intro m7 m8))))))))
          go_wp2_with (first | (go_at_call 41; refine HRT.out.mono ?_; rintro e w4 ⟨rfl, hb4⟩; have hs4 := hb4.size; have c4 := (hb4.cell (p := ⟨w.heap.size, 0, none⟩) (by show w.heap.size < wr.heap.size; omega)).trans hcb; have q0 := (hb4.cell (p := ⟨b, o + i * 9, none⟩) (by show b < wr.heap.size; omega)).trans m0; have q1 := (hb4.cell (p := ⟨b, o + i * 9 + 1, none⟩) (by show b < wr.heap.size; omega)).trans m1; have q2 := (hb4.cell (p := ⟨b, o + i * 9 + 2, none⟩) (by show b < wr.heap.size; omega)).trans m2; have q3 := (hb4.cell (p := ⟨b, o + i * 9 + 3, none⟩) (by show b < wr.heap.size; omega)).trans m3; have q4 := (hb4.cell (p := ⟨b, o + i * 9 + 4, none⟩) (by show b < wr.heap.size; omega)).trans m4; have q5 := (hb4.cell (p := ⟨b, o + i * 9 + 5, none⟩) (by show b < wr.heap.size; omega)).trans m5; have q6 := (hb4.cell (p := ⟨b, o + i * 9 + 6, none⟩) (by show b < wr.heap.size; omega)).trans m6; have q7 := (hb4.cell (p := ⟨b, o + i * 9 + 7, none⟩) (by show b < wr.heap.size; omega)).trans m7; have q8 := (hb4.cell (p := ⟨b, o + i * 9 + 8, none⟩) (by show b < wr.heap.size; omega)).trans m8; have HB4 := Lib.hid hb4; clear hb4) | (go_at_call 42; refine (HKD.out _ HB4.out).mono ?_; rintro e w5 ⟨gk, ck, rfl, hi5, hb5⟩; have HI5 := Lib.hid hi5; have HB5 := Lib.hid (HB4.out.trans (hb5.mono HB4.out.size)); have hgk := (hi5.lt gk rfl); clear hi5 hb5))
          have hkl : K.length <= 1000003 := by rw [<- HKX.out]; have := kids_len x; have := HSX.out.2.2.1; omega
          have HC5 : Hid (w5.heap[w.heap.size + 1 + 1]? = some (.cells (C.map (Value.int .i64)).toArray 3)) := Lib.hid ((HB5.out.block _ (by omega)).trans HC.out)
          have HD5 : Hid (w5.heap[w.heap.size + 1]? = some (.cells (D.map (Value.int .i64)).toArray 3)) := Lib.hid ((HB5.out.block _ (by omega)).trans HD.out)
          have HR5 : Hid (Row0 w5 gk K) := Lib.hid (ints_cells HI5.out)
          have HB35 := Lib.hid (HBR.out.trans (HB5.out.mono (by omega)))
          clear m0 m1 m2 m3 m4 m5 m6 m7 m8 q0 q1 q2 q3 q4 q5 q6 q7 q8 hcb c4
          have HAHX : Hid (∀ (j : Nat) (k : Int), K[j]? = some k -> k ∈ kids x) := Lib.hid (fun j k h => by rw [HKX.out]; exact List.mem_of_getElem? h)
          go_loopw [7] (fun v w6 => ∃ (j d : Nat) (C' D' : List Int), v = .int .i64 (j : Int) /\ j <= K.length /\ d <= 100000 /\ Hid (d = mx l (K.take j)) /\ Hid (∀ k ∈ K.take j, 0 <= k /\ k < (i : Int)) /\ Hid (w6.heap[w.heap.size + 1 + 1]? = some (.cells (C'.map (Value.int .i64)).toArray 3)) /\ Hid (w6.heap[w.heap.size + 1]? = some (.cells (D'.map (Value.int .i64)).toArray 3)) /\ Hid (CRow L (allKids (l.take i) ++ K.take j) C') /\ Hid (DRow l i d D') /\ Hid (Row0 w6 gk K) /\ Hid (Below (w.heap.size + 1) W3 w6)) (fun v _ => K.length - (intOf v).toNat)
          case atStart => exact ⟨0, 0, C, D, rfl, Nat.zero_le _, Nat.zero_le _, Lib.hid rfl, Lib.hid (by simp), HC5, HD5, Lib.hid (by simpa using HCR.out), Lib.hid (HDR.out.row (by rw [HL.out]; exact hlt)), HR5, HB35⟩
          case round =>
            obtain ⟨j, d, C', D', rfl, hj, hd, HDM, HAK, HC6, HD6, HCR6, HDR6, HR6, HB6⟩ := hrel
            have HB06 : Hid (Below w.heap.size w wr) := Lib.hid (HB0.out.trans (HB6.out.mono (by omega)))
            have hcb : wr.cell? ⟨w.heap.size, 0, none⟩ = some (.slice (some ⟨b, o, none⟩) L c) := (HB6.out.cell (p := ⟨w.heap.size, 0, none⟩) (by simp)).trans hbx3
            by_cases hjl : j < K.length
            · obtain ⟨k, hk⟩ : ∃ k, K[j]? = some k := ⟨_, List.getElem?_eq_getElem hjl⟩
              have hck := HR6.out j k hk
              have HKK := Lib.hid hk
              clear hk
              by_cases h0 : k < 0
              · have HBAD : Hid (¬ formed l) := Lib.hid (fun hh => by
                  have := (hh.2.1 i x HX.out k (HAHX.out j k HKK.out)).1; omega)
                go_wp2
                go_ret
                exact ⟨by rw [may_form hnf HBAD.out]; rfl, HB06.out⟩
              · obtain ⟨q, rfl⟩ := Int.eq_ofNat_of_zero_le (by omega : 0 <= k)
                by_cases hqi : q < i
                · obtain ⟨dq, hdq⟩ : ∃ dq, (deeps l).getD q 0 = dq := ⟨_, rfl⟩
                  obtain ⟨z, hz⟩ : ∃ z : Nat, (allKids (l.take i) ++ K.take j).count ((q : Nat) : Int) = z := ⟨_, rfl⟩
                  have hzb : z <= 1000000000 := by
                    have h3 := List.count_le_length (a := ((q : Nat) : Int)) (l := allKids (l.take i) ++ K.take j)
                    have h4 := HCL.out
                    rw [List.length_append, List.length_take] at h3
                    have : i * 1000003 <= 600 * 1000003 := Nat.mul_le_mul_right _ (by omega)
                    omega
                  have hcq := row0_of HC6.out q (z : Int) (by rw [HCR6.out.2 q (by omega), hz])
                  have hfq := Blk_frozen HC6.out q
                  have hci := row0_of HD6.out i (d : Int) HDR6.out.2.2.1
                  have hfi := Blk_frozen HD6.out i
                  have hcd := row0_of HD6.out q (dq : Int) (by rw [<- hdq]; exact HDR6.out.2.1 q hqi)
                  have HNX : Hid (mx l (K.take (j + 1)) = max d dq) := Lib.hid (by rw [take_snoc K j _ HKK.out, mx_snoc, <- HDM.out, Int.toNat_natCast, hdq])
                  have HAK1 : Hid (∀ k ∈ K.take (j + 1), 0 <= k /\ k < (i : Int)) := Lib.hid (by
                    rw [take_snoc K j _ HKK.out]
                    intro m hm
                    rw [List.mem_append, List.mem_singleton] at hm
                    rcases hm with hm | rfl
                    · exact HAK.out m hm
                    · omega)
                  have hdl : dq <= 100000 := by
                    have hk' : kidsOk (l.take i) := fun i' y hy => by
                      rw [List.getElem?_take] at hy
                      split at hy
                      · rename_i hlt'; exact (HAL.out i' y hlt' hy).2.1
                      · cases hy
                    have h5 := deeps_le hk' q (by rw [List.length_take, HL.out]; omega)
                    rw [deeps_take, List.getD_eq_getElem?_getD, List.getElem?_take, if_pos hqi, <- List.getD_eq_getElem?_getD, hdq] at h5
                    omega
                  have HCN : Hid (CRow L (allKids (l.take i) ++ K.take (j + 1)) (C'.set q ((z + 1 : Nat) : Int))) := Lib.hid (by
                    rw [take_snoc K j _ HKK.out, <- List.append_assoc, <- hz]
                    exact HCR6.out.step (by omega))
                  have HZ := Lib.hid hz
                  clear hdq hz
                  go_wp2_with fail
                  go_region
                  all_goals
                    go_wp2
                    go_roundw
                    case rel =>
                      refine ⟨j + 1, max d dq, C'.set q ((z + 1 : Nat) : Int), D'.set i ((max d dq : Nat) : Int), by go_num, by omega, by omega, Lib.hid HNX.out.symm, HAK1, Lib.hid ?_, Lib.hid ?_, HCN, Lib.hid (HDR6.out.set _), Lib.hid (Row0.drew ((HR6.out.set (by omega)).set (by omega))), Lib.hid ((HB6.out.setCell (p := ⟨w.heap.size + 1 + 1, q, none⟩) (by simp <;> omega) _).setCell (p := ⟨w.heap.size + 1, i, none⟩) (by simp <;> omega) _).drew⟩
                      · exact (set_far _ _ _ _ _ (by omega)).trans (set_row (k := q) (z := ((z + 1 : Nat) : Int)) HC6.out)
                      · have e : max (d : Int) (dq : Int) = ((max d dq : Nat) : Int) := by omega
                        rw [e]
                        exact set_row (k := i) (z := ((max d dq : Nat) : Int)) ((set_far _ _ _ _ _ (by omega)).trans HD6.out)
                    case measure => simp [intOf]; omega
                · have HBAD : Hid (¬ formed l) := Lib.hid (fun hh => by
                    have := (hh.2.1 i x HX.out _ (HAHX.out j _ HKK.out)).2; omega)
                  have h1q : (i : Int) <= (q : Int) := by omega
                  go_wp2
                  go_ret
                  exact ⟨by rw [may_form hnf HBAD.out]; rfl, HB06.out⟩
            · obtain rfl : j = K.length := by omega
              have hAK := HAK.out
              have hCR := HCR6.out
              have hdm := HDM.out
              rw [List.take_length] at hAK hCR hdm
              have hah : ahead i x := by rw [<- HKX.out] at hAK; exact hAK
              have HMX : Hid ((deeps l).getD i 0 = d + 1) := Lib.hid (by rw [deeps_mx HX.out hah, HKX.out, hdm])
              have HALK : Hid (allKids (l.take (i + 1)) = allKids (l.take i) ++ K) := Lib.hid (by rw [take_snoc l i x HX.out, allKids_snoc, HKX.out])
              have hci := row0_of HD6.out i (d : Int) HDR6.out.2.2.1
              have hfi := Blk_frozen HD6.out i
              have hbl : b < wr.heap.size := by have := HB6.out.size; have := HB3.out.size; rw [World.size_alloc] at this; omega
              obtain ⟨fv', _, m0, m1, _⟩ := (HN.out.below HB06.out hb) i x HX.out
              have HAH := Lib.hid hah
              have HCR7 := Lib.hid hCR
              clear hAK hCR hdm hah
              by_cases hk8 : x.kind = 8
              · obtain ⟨h0, h1⟩ := HAH.out _ (kid_a hk8)
                obtain ⟨q, hq⟩ := Int.eq_ofNat_of_zero_le h0
                have hqi : q < i := by omega
                obtain ⟨y, hy⟩ : ∃ y, l[q]? = some y := ⟨_, List.getElem?_eq_getElem (by rw [HL.out]; omega)⟩
                obtain ⟨gv', _, y0, _⟩ := (HN.out.below HB06.out hb) q y hy
                rw [hk8] at m0
                rw [hq] at m1
                have HQ := Lib.hid hq
                have HYY := Lib.hid hy
                have HK8 := Lib.hid hk8
                obtain ⟨ky, hky⟩ : ∃ ky, y.kind = ky := ⟨_, rfl⟩
                rw [hky] at y0
                have HKY := Lib.hid hky
                clear hk8 hq hy hky
                by_cases h5 : ky = 5
                · subst h5
                  go_wp2_with fail
                  go_region
                  all_goals
                    go_wp2
                    go_roundw
                    case rel =>
                      refine ⟨i + 1, C', D'.set i ((d + 1 : Nat) : Int), by go_num, by omega, Lib.hid ((set_far _ _ _ _ _ (by omega)).trans HC6.out), Lib.hid (set_row (k := i) (z := ((d + 1 : Nat) : Int)) HD6.out), Lib.hid (by rw [HALK.out]; exact HCR7.out), Lib.hid ?_, Lib.hid ((HDR6.out.set _).out HMX.out), Lib.hid ?_, Lib.hid (HB6.out.setCell (p := ⟨w.heap.size + 1, i, none⟩) (by simp <;> omega) _).drew⟩
                      · rw [HALK.out, List.length_append]; have := HCL.out; omega
                      · intro i' y' hi' hy'
                        by_cases e : i' = i
                        · subst e
                          rw [HX.out] at hy'; injection hy' with hy'; subst hy'
                          exact ⟨HR.out, HAH.out, fun _ => ⟨y, by rw [HQ.out, Int.toNat_natCast]; exact HYY.out, HKY.out⟩⟩
                        · exact HAL.out i' y' (by omega) hy'
                    case measure => simp [intOf]; omega
                · have h5b : (ky != 5) = true := by simpa using h5
                  have HBAD : Hid (¬ formed l) := Lib.hid (fun hh => by
                    obtain ⟨y', hy', h5'⟩ := hh.2.2.2 i x HX.out HK8.out
                    rw [HQ.out, Int.toNat_natCast, HYY.out] at hy'
                    injection hy' with hy'
                    subst hy'
                    exact h5 (HKY.out.symm.trans h5'))
                  go_wp2_with fail
                  go_region
                  all_goals
                    go_wp2
                    go_ret
                    exact ⟨by rw [may_form hnf HBAD.out]; rfl, (HB06.out.setCell (p := ⟨w.heap.size + 1, i, none⟩) (by simp <;> omega) _).drew⟩
              · have hk8b := neI hk8
                have HK8 := Lib.hid hk8
                clear hk8
                go_wp2_with fail
                go_region
                all_goals
                  go_wp2
                  go_roundw
                  case rel =>
                    refine ⟨i + 1, C', D'.set i ((d + 1 : Nat) : Int), by go_num, by omega, Lib.hid ((set_far _ _ _ _ _ (by omega)).trans HC6.out), Lib.hid (set_row (k := i) (z := ((d + 1 : Nat) : Int)) HD6.out), Lib.hid (by rw [HALK.out]; exact HCR7.out), Lib.hid ?_, Lib.hid ((HDR6.out.set _).out HMX.out), Lib.hid ?_, Lib.hid (HB6.out.setCell (p := ⟨w.heap.size + 1, i, none⟩) (by simp <;> omega) _).drew⟩
                    · rw [HALK.out, List.length_append]; have := HCL.out; omega
                    · intro i' y' hi' hy'
                      by_cases e : i' = i
                      · subst e
                        rw [HX.out] at hy'; injection hy' with hy'; subst hy'
                        exact ⟨HR.out, HAH.out, fun h => absurd h HK8.out⟩
                      · exact HAL.out i' y' (by omega) hy'
                  case measure => simp [intOf]; omega
      · obtain rfl : i = L := by omega
        have hfull : l.take i = l := List.take_of_length_le (by rw [HL.out]; omega)
        have hcr := HCR.out
        rw [hfull, <- HL.out] at hcr
        have hall : ∀ (i' : Nat) (y : Nd), l[i']? = some y -> rightB y = true /\ ahead i' y /\ recAt l y := fun i' y hy => HAL.out i' y (by have := lt_of_some hy; rw [HL.out] at this; exact this) hy
        have HKO : Hid (kidsOk l) := Lib.hid (fun i' y hy => (hall i' y hy).2.1)
        have HONCE := Lib.hid (CRow.once hcr HKO.out)
        have HFORM : Hid (onceOk l -> formed l) := Lib.hid (fun h => ⟨fun y hy => by obtain ⟨i', hi'⟩ := List.getElem?_of_mem hy; exact (hall i' y hi').1, HKO.out, h, fun i' y hy => (hall i' y hy).2.2⟩)
        have hsub : IntKind.i64.wrap ((i : Int) - 1) = ((i - 1 : Nat) : Int) := by rw [IntWalk.i64_in _ (by omega)]; omega
        clear hfull hcr hall
        go_wp2
        go_loop [8] (fun v => ∃ j : Nat, v = .int .i64 (j : Int) /\ j <= i - 1 /\ Hid (∀ j' : Nat, j' < j -> C[j']? = some 1)) (fun v => (i - 1) - (intOf v).toNat)
        case atStart => exact ⟨0, rfl, Nat.zero_le _, Lib.hid (fun j' h => absurd h (by omega))⟩
        case round =>
          obtain ⟨j, rfl, hj, HJ⟩ := hrel
          by_cases hjl : j < i - 1
          · obtain ⟨z, hz⟩ : ∃ z, C[j]? = some z := ⟨_, List.getElem?_eq_getElem (by rw [HCR.out.1]; omega)⟩
            have hcz := row0_of HC.out j z hz
            have HZ := Lib.hid hz
            clear hz
            have hjl2 : (j : Int) < ((i - 1 : Nat) : Int) := by omega
            by_cases h1z : z = 1
            · subst h1z
              go_wp2
              go_round
              case rel =>
                refine ⟨j + 1, by go_num, by omega, Lib.hid fun j' hj' => ?_⟩
                by_cases e : j' = j
                · subst e; exact HZ.out
                · exact HJ.out j' (by omega)
              case measure => simp [intOf]; omega
            · have hzb : (z != 1) = true := by simpa using h1z
              have HBAD : Hid (¬ formed l) := Lib.hid (fun hh => by
                have := HONCE.out.2 hh.2.2.1 j (by rw [HL.out]; omega)
                rw [HZ.out] at this
                injection this with this
                exact h1z this)
              go_wp2
              go_ret
              exact ⟨by rw [may_form hnf HBAD.out]; rfl, HB.out⟩
          · obtain rfl : j = i - 1 := by omega
            have hon : onceOk l := HONCE.out.1 (fun j' hj' => HJ.out j' (by rw [HL.out] at hj'; omega))
            have HF := Lib.hid (HFORM.out hon)
            obtain ⟨r, hr⟩ : ∃ r, root l = r := ⟨_, rfl⟩
            have hcr := row0_of HD.out (i - 1) (r : Int) (by rw [HDR.out.2.1 (i - 1) (by omega), <- hr, root, HL.out])
            have HRR := Lib.hid hr
            clear hr hon
            by_cases hd : 100 < r
            · have HMM : Hid (may l = 6) := Lib.hid (may_deep hnf HF.out (by rw [HRR.out]; exact hd))
              have hd1 : decide ((100 : Int) < (r : Int)) = true := by simp; omega
              have hd2 : (100 : Int) < (r : Int) := by omega
              go_wp2
              go_ret
              exact ⟨by rw [HMM.out]; rfl, HB.out⟩
            · have HMM : Hid (may l = 0) := Lib.hid (may_ok hnf HF.out (by rw [HRR.out]; exact hd))
              have hd1 : decide ((100 : Int) < (r : Int)) = false := by simp; omega
              have hd2 : ¬ (100 : Int) < (r : Int) := by omega
              go_wp2
              go_ret
              exact ⟨by rw [HMM.out]; rfl, HB.out⟩
theorem rmay_all (l : List Nd) (v : Value) (w : World) (hv : Nodes w.heap.size w v l) (hS : ∀ x ∈ l, Small x) : Calls Tryz.prog 22 #[.agg #[v]] w fun e w' => e = .returned (.int .i64 (may l)) /\ Below w.heap.size w w' := by
  obtain ⟨A, c, rfl, ⟨h1, h2⟩, _, hp⟩ := hv
  by_cases h : l.length < 1 ∨ 600 < l.length
  · rw [may_full h]
    exact rmay_full A _ c h (by omega) w
  · obtain ⟨b, o, rfl, hb, hn⟩ := hp (by omega)
    exact rmay_any l _ c b o (Lib.hid rfl) (by omega) (by omega) w hb (Lib.hid hn) (Lib.hid hS)
end Go.Proofs.YtjakeidbajkdcaaGreatDoor.T
