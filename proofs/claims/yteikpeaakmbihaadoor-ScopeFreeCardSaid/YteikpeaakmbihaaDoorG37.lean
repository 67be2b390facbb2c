/- Joined by program: RWithP, RCopyA, PJoinA, TStayA. -/
import Derived.Test.YteikpeaakmbihaaDoorG36
import Derived.Test.YteikpeaakmbihaaDoorG34
import Derived.Test.YteikpeaakmbihaaDoorG27
/- with, the document's: a node with parts. -/
namespace Go.Proofs.YteikpeaakmbihaaDoor.T
open Go.RowKit Go.Shelf
theorem rw_fin {w wr w5 : World} {q : Nat} {v v' : Value} {xs ys : List Value} {cn cm cz : Array Value} {o1 o2 : Obj} (hO : wr.ownsRow (w.heap.size + 3) 75 3 v q xs) (hM : wr.heap[w.heap.size + 2]? = some (.cells cm 27 (0, 0))) (hN : wr.heap[w.heap.size]? = some (.cells cn 27 (0, 0))) (hZ : wr.heap[w.heap.size + 1]? = some (.cells cz 27 (0, 0)))
    (hB : Below w.heap.size w wr) (hown : w5.ownsRow (w.heap.size + 3) 75 3 v' (q + 1) ys) (hg : ((wr.alloc o1).alloc o2).grownBy w5 v.ownBlock) :
    w5.heap[w.heap.size + 2]? = some (.cells cm 27 (0, 0)) ∧ (w5.setCell ⟨w.heap.size + 2, 7, none⟩ v').heap[w.heap.size + 2]? = some (.cells (cm.setIfInBounds 7 v') 27 (0, 0)) ∧ (w5.setCell ⟨w.heap.size + 2, 7, none⟩ v').heap[w.heap.size]? = some (.cells cn 27 (0, 0)) ∧ (w5.setCell ⟨w.heap.size + 2, 7, none⟩ v').heap[w.heap.size + 1]? = some (.cells cz 27 (0, 0)) ∧
      (w5.setCell ⟨w.heap.size + 2, 7, none⟩ v').ownsRow (w.heap.size + 3) 75 3 v' (q + 1) ys ∧ Below w.heap.size w (w5.setCell ⟨w.heap.size + 2, 7, none⟩ v') := by
  have hl := (Array.getElem?_eq_some_iff.1 hM).1
  have hb : ∀ k, k ≤ w.heap.size + 2 → w5.heap[k]? = wr.heap[k]? := fun k hk => by
    rw [hg.block k (by simp; omega) (fun e => by have := (hO.lt k e.symm).1; omega)]
    exact (Below.heap_alloc _ _ _ (by simp; omega)).trans (Below.heap_alloc _ _ _ (by omega))
  have k2 := (hb _ (Nat.le_refl _)).trans hM
  refine ⟨k2, blk_put k2, ?_, ?_, ?_, ?_⟩
  · rw [set_far _ _ _ _ _ (by omega)]; exact (hb _ (by omega)).trans hN
  · rw [set_far _ _ _ _ _ (by omega)]; exact (hb _ (by omega)).trans hZ
  · exact row_heap hown fun g hg _ => set_far _ _ _ _ _ (by omega)
  · have hs := hg.size
    simp only [World.size_alloc] at hs
    refine (hB.trans ⟨hg.os, hg.tape, hg.output, by omega, fun k hk => hb k (by omega)⟩).setCell (p := ⟨w.heap.size + 2, 7, none⟩) (by show w.heap.size ≤ w.heap.size + 2; omega) _
theorem row_slice {W : World} {B e s n : Nat} {v : Value} {xs : List Value} (h : W.ownsRow B e s v n xs) : ∃ A c, v = .slice A n c ∧ (A = none → n = 0 ∧ c = 0) := by
  rcases h.2 with ⟨rfl, rfl⟩ | ⟨g, cap, cur, rfl, _⟩
  · exact ⟨none, 0, rfl, fun _ => ⟨rfl, rfl⟩⟩
  · exact ⟨_, _, rfl, fun h => by cases h⟩
set_option maxRecDepth 100000 in
set_option maxHeartbeats 8000000 in
theorem rwith_p11 (a b c nn pos : Int) (nm s : ByteArray) (l R : List Fld) (ks : List Int) (FA : Option Addr) (L fc g cg : Nat) (w : World) (hg : g < w.heap.size) (HL : Hid (l.length = L)) (hL : L ≤ 1000000) (hfc : L ≤ fc ∧ fc ≤ 9223372036854775807) (HPOS : Hid (0 < L → ∃ b o, FA = some (⟨b, o, none⟩ : Addr) ∧ b < w.heap.size ∧ FldsAt w b o l))
    (HKS : Hid (∀ j z, ks[j]? = some z → w.cell? ⟨g, j, none⟩ = some (.int .i64 z))) (HKL : Hid (ks.length = L)) (HRR : Hid (R = relab l ks)) :
    Calls Tryd.prog 53 #[.agg #[.int .i64 11, .int .i64 a, .int .i64 b, .int .i64 c, .int .i64 nn, .string nm, .string s, .slice FA L fc, .int .i64 pos], .slice (some ⟨g, 0, none⟩) L cg] w fun e w' => ∃ v, e = .returned (.agg #[.int .i64 11, .int .i64 0, .int .i64 0, .int .i64 0, .int .i64 nn, .string nm, .string s, v, .int .i64 pos]) ∧ OwnF w.heap.size w' v R ∧ Below w.heap.size w w' := by
  obtain ⟨i0, hi, hz0, hz1, hz2⟩ := info_parts fldInfo
  obtain ⟨W3, hW3⟩ : ∃ W3, ((w.alloc (.cells #[.int .i64 11, .int .i64 a, .int .i64 b, .int .i64 c, .int .i64 nn, .string nm, .string s, .slice FA L fc, .int .i64 pos] 27)).alloc (.cells zero9 27)).alloc (.cells #[.int .i64 11, .int .i64 0, .int .i64 0, .int .i64 0, .int .i64 nn, .string nm, .string s, .slice none 0 0, .int .i64 pos] 27) = W3 := ⟨_, rfl⟩
  have HW3 := Lib.hid hW3
  clear hW3
  go_enter Tryd.func53, Tryd.ntmps53
  go_wp2
  go_loopw [7] (fun i wr => ∃ (q : Nat) (v : Value), i = .int .i64 (q : Int) ∧ q ≤ L ∧ Hid (wr.ownsRow (w.heap.size + 3) 75 3 v q (fCells (R.take q))) ∧ Hid (wr.heap[w.heap.size + 2]? = some (.cells #[.int .i64 11, .int .i64 0, .int .i64 0, .int .i64 0, .int .i64 nn, .string nm, .string s, v, .int .i64 pos] 27 (0, 0))) ∧ Hid (wr.heap[w.heap.size]? = some (.cells #[.int .i64 11, .int .i64 a, .int .i64 b, .int .i64 c, .int .i64 nn, .string nm, .string s, .slice FA L fc, .int .i64 pos] 27 (0, 0))) ∧ Hid (wr.heap[w.heap.size + 1]? = some (.cells zero9 27 (0, 0))) ∧ Hid (Below w.heap.size w wr)) (fun i _ => L - (intOf i).toNat)
  case atStart =>
    refine ⟨0, _, rfl, by omega, Lib.hid (World.ownsRow_nil _ _ _ _), Lib.hid (newAt (by simp)), Lib.hid (nextAt (nextAt (newAt rfl))), Lib.hid (nextAt (newAt (by simp))), Lib.hid ((((Below.refl w.heap.size w).alloc (Nat.le_refl _) _).alloc (by simp) _).alloc (by simp; omega) _)⟩
  case round =>
    obtain ⟨q, v, rfl, hq, HR, HM, HN, HZ, HB⟩ := hrel
    have cN := (Blk_cell HN.out 7).trans rfl
    have hsz := (Array.getElem?_eq_some_iff.1 HM.out).1
    have cN : wr.cell? ⟨w.heap.size, 7, none⟩ = some (.slice FA L fc) := (Blk_cell HN.out 7).trans rfl
    by_cases hlt : q < L
    · obtain ⟨fb, fo, rfl, hfb, hf⟩ := HPOS.out (by omega)
      obtain ⟨fd, hfd⟩ : ∃ fd, l[q]? = some fd := ⟨_, List.getElem?_eq_getElem (by rw [HL.out]; exact hlt)⟩
      obtain ⟨kz, hkz⟩ : ∃ kz, ks[q]? = some kz := ⟨_, List.getElem?_eq_getElem (by rw [HKL.out]; exact hlt)⟩
      obtain ⟨m0, m1, m2⟩ := (hf.below HB.out hfb) q fd hfd
      have HX : Hid (fCells (R.take (q + 1)) = fCells (R.take q) ++ [.string fd.nm, .string fd.vr, .int .i64 kz]) := Lib.hid (by
        rw [HRR.out, take_snoc _ _ _ (relab_at hfd hkz), fCells_snoc])
      have zk : ∀ o1 : Obj, (wr.alloc o1).cell? ⟨g, q, none⟩ = some (.int .i64 kz) := fun o1 => (((Below.refl wr.heap.size wr).alloc (Nat.le_refl _) o1).cell (p := ⟨g, q, none⟩) (by show g < wr.heap.size; omega)).trans ((HB.out.cell (p := ⟨g, q, none⟩) hg).trans (HKS.out q kz hkz))
      clear hfd hkz hf
      obtain ⟨A, cv, rfl, hnv⟩ := row_slice HR.out
      have cM : ∀ o1 : Obj, (wr.alloc o1).cell? ⟨w.heap.size + 1 + 1, 7, none⟩ = some (.slice A q cv) := fun o1 => (((Below.refl wr.heap.size wr).alloc (Nat.le_refl _) o1).cell (p := ⟨w.heap.size + 1 + 1, 7, none⟩) (by show w.heap.size + 1 + 1 < wr.heap.size; omega)).trans ((Blk_cell HM.out 7).trans rfl)
      have HRA : Hid (∀ o1 o2 : Obj, ((wr.alloc o1).alloc o2).ownsRow (w.heap.size + 3) 75 3 (.slice A q cv) q (fCells (R.take q))) := Lib.hid fun o1 o2 => (HR.out.alloc o1).alloc o2
      go_wp2_with (at_builtin; refine wpList_append_own _ rfl _ _ 25 rfl (w.heap.size + 3) 75 i0 (.agg #[.string ⟨#[]⟩, .string ⟨#[]⟩, .int .i64 0]) 3 40 Tryd.underlying25 hi hz0 hz1 hz2 rfl (by decide) _ q _ rfl (HRA.out _ _) ⟨_, 0, none⟩ 1 1 [.string fd.nm, .string fd.vr, .int .i64 kz] rfl rfl (new_cellsT _ 75 [.string fd.nm, .string fd.vr, .int .i64 kz] _ (by simp)) (fun u hu => by simp at hu; rcases hu with rfl | rfl | rfl <;> rfl) (by unfold maxLen; omega) (by omega) (by simp; omega) ?_; intro v' w5 hown hgrow _; have HF := Lib.hid (rw_fin HR.out HM.out HN.out HZ.out HB.out hown hgrow); have c7 := (Blk_cell HF.out.1 7).trans rfl; have f7 := Blk_frozen HF.out.1 7; obtain ⟨g5, c5, rfl⟩ := ownsRow_succ hown; clear hown hgrow)
      go_roundw
      case rel =>
        refine ⟨q + 1, _, by go_num, by omega, Lib.hid ?_, Lib.hid HF.out.2.1, Lib.hid HF.out.2.2.1, Lib.hid HF.out.2.2.2.1, Lib.hid HF.out.2.2.2.2.2⟩
        rw [HX.out]; exact HF.out.2.2.2.2.1
      case measure => simp [intOf]; omega
    · obtain rfl : q = L := by omega
      obtain ⟨A, cv, rfl, hnv⟩ := row_slice HR.out
      have HRT : Hid (R.take q = R) := Lib.hid (List.take_of_length_le (by rw [HRR.out]; unfold relab; rw [List.length_zipWith]; have := HL.out; omega))
      have HRL : Hid (R.length = q) := Lib.hid (by rw [HRR.out]; unfold relab; rw [List.length_zipWith, HL.out, HKL.out]; exact Nat.min_self q)
      have HOF : Hid (OwnF (w.heap.size + 3) wr (.slice A q cv) R) := Lib.hid (by have h := HR.out; rw [HRT.out] at h; unfold OwnF; rw [HRL.out]; exact h)
      have HZZ := HZ
      obtain ⟨q0, q1, q2, q3, q4, q5, q6, q7, q8, _⟩ := cells9 HM.out
      obtain ⟨z0, z1, z2, z3, z4, z5, z6, z7, z8, zf⟩ := cells9 HZ.out
      go_wp2

      refine bodyPost_ret (v := .agg #[.int .i64 11, .int .i64 0, .int .i64 0, .int .i64 0, .int .i64 nn, .string nm, .string s, .slice A q cv, .int .i64 pos]) (res53 _ _ (w.heap.size + 1) _ _ _ _ _ _ _ _ _ rfl (put9 rfl HZZ.out _ _ _ _ _ _ _ _ _)) rfl ⟨_, rfl, ?_, ?_⟩
      · exact row_mono (row_heap HOF.out fun g hg _ => by rw [put9_far _ _ _ _ _ _ _ _ _ _ _ _ (by omega)]) (by omega)
      · have h1 := HB.out
        exact ((((((((h1.setCell (p := ⟨w.heap.size + 1, 0, none⟩) (by show w.heap.size ≤ w.heap.size + 1; omega) _).setCell (p := ⟨w.heap.size + 1, 1, none⟩) (by show w.heap.size ≤ w.heap.size + 1; omega) _).setCell (p := ⟨w.heap.size + 1, 2, none⟩) (by show w.heap.size ≤ w.heap.size + 1; omega) _).setCell (p := ⟨w.heap.size + 1, 3, none⟩) (by show w.heap.size ≤ w.heap.size + 1; omega) _).setCell (p := ⟨w.heap.size + 1, 4, none⟩) (by show w.heap.size ≤ w.heap.size + 1; omega) _).setCell (p := ⟨w.heap.size + 1, 5, none⟩) (by show w.heap.size ≤ w.heap.size + 1; omega) _).setCell (p := ⟨w.heap.size + 1, 6, none⟩) (by show w.heap.size ≤ w.heap.size + 1; omega) _).setCell (p := ⟨w.heap.size + 1, 7, none⟩) (by show w.heap.size ≤ w.heap.size + 1; omega) _).setCell (p := ⟨w.heap.size + 1, 8, none⟩) (by show w.heap.size ≤ w.heap.size + 1; omega) _
set_option maxRecDepth 100000 in
set_option maxHeartbeats 8000000 in
theorem rwith_p14 (a b c nn pos : Int) (k0 : Int) (nm s : ByteArray) (l R : List Fld) (ks : List Int) (FA : Option Addr) (L fc g cg : Nat) (w : World) (hg : g < w.heap.size) (HL : Hid (l.length = L)) (hL : L ≤ 1000000) (hfc : L ≤ fc ∧ fc ≤ 9223372036854775807) (HPOS : Hid (0 < L → ∃ b o, FA = some (⟨b, o, none⟩ : Addr) ∧ b < w.heap.size ∧ FldsAt w b o l))
    (HK0 : Hid (w.cell? ⟨g, 0, none⟩ = some (.int .i64 k0))) (HKS : Hid (∀ j z, ks[j]? = some z → w.cell? ⟨g, 1 + j, none⟩ = some (.int .i64 z))) (HKL : Hid (ks.length = L)) (HRR : Hid (R = relab l ks)) :
    Calls Tryd.prog 53 #[.agg #[.int .i64 14, .int .i64 a, .int .i64 b, .int .i64 c, .int .i64 nn, .string nm, .string s, .slice FA L fc, .int .i64 pos], .slice (some ⟨g, 0, none⟩) (L + 1) cg] w fun e w' => ∃ v, e = .returned (.agg #[.int .i64 14, .int .i64 k0, .int .i64 0, .int .i64 0, .int .i64 nn, .string nm, .string s, v, .int .i64 pos]) ∧ OwnF w.heap.size w' v R ∧ Below w.heap.size w w' := by
  obtain ⟨i0, hi, hz0, hz1, hz2⟩ := info_parts fldInfo
  obtain ⟨W3, hW3⟩ : ∃ W3, ((w.alloc (.cells #[.int .i64 14, .int .i64 a, .int .i64 b, .int .i64 c, .int .i64 nn, .string nm, .string s, .slice FA L fc, .int .i64 pos] 27)).alloc (.cells zero9 27)).alloc (.cells #[.int .i64 14, .int .i64 0, .int .i64 0, .int .i64 0, .int .i64 nn, .string nm, .string s, .slice none 0 0, .int .i64 pos] 27) = W3 := ⟨_, rfl⟩
  have HW3 := Lib.hid hW3
  clear hW3
  go_enter Tryd.func53, Tryd.ntmps53
  go_wp2
  go_loopw [7] (fun i wr => ∃ (q : Nat) (v : Value), i = .int .i64 (q : Int) ∧ q ≤ L ∧ Hid (wr.ownsRow (w.heap.size + 3) 75 3 v q (fCells (R.take q))) ∧ Hid (wr.heap[w.heap.size + 2]? = some (.cells #[.int .i64 14, .int .i64 0, .int .i64 0, .int .i64 0, .int .i64 nn, .string nm, .string s, v, .int .i64 pos] 27 (0, 0))) ∧ Hid (wr.heap[w.heap.size]? = some (.cells #[.int .i64 14, .int .i64 a, .int .i64 b, .int .i64 c, .int .i64 nn, .string nm, .string s, .slice FA L fc, .int .i64 pos] 27 (0, 0))) ∧ Hid (wr.heap[w.heap.size + 1]? = some (.cells zero9 27 (0, 0))) ∧ Hid (Below w.heap.size w wr)) (fun i _ => L - (intOf i).toNat)
  case atStart =>
    refine ⟨0, _, rfl, by omega, Lib.hid (World.ownsRow_nil _ _ _ _), Lib.hid (newAt (by simp)), Lib.hid (nextAt (nextAt (newAt rfl))), Lib.hid (nextAt (newAt (by simp))), Lib.hid ((((Below.refl w.heap.size w).alloc (Nat.le_refl _) _).alloc (by simp) _).alloc (by simp; omega) _)⟩
  case round =>
    obtain ⟨q, v, rfl, hq, HR, HM, HN, HZ, HB⟩ := hrel
    have cN := (Blk_cell HN.out 7).trans rfl
    have hsz := (Array.getElem?_eq_some_iff.1 HM.out).1
    have cN : wr.cell? ⟨w.heap.size, 7, none⟩ = some (.slice FA L fc) := (Blk_cell HN.out 7).trans rfl
    by_cases hlt : q < L
    · obtain ⟨fb, fo, rfl, hfb, hf⟩ := HPOS.out (by omega)
      obtain ⟨fd, hfd⟩ : ∃ fd, l[q]? = some fd := ⟨_, List.getElem?_eq_getElem (by rw [HL.out]; exact hlt)⟩
      obtain ⟨kz, hkz⟩ : ∃ kz, ks[q]? = some kz := ⟨_, List.getElem?_eq_getElem (by rw [HKL.out]; exact hlt)⟩
      obtain ⟨m0, m1, m2⟩ := (hf.below HB.out hfb) q fd hfd
      have HX : Hid (fCells (R.take (q + 1)) = fCells (R.take q) ++ [.string fd.nm, .string fd.vr, .int .i64 kz]) := Lib.hid (by
        rw [HRR.out, take_snoc _ _ _ (relab_at hfd hkz), fCells_snoc])
      have zk : ∀ o1 : Obj, (wr.alloc o1).cell? ⟨g, 1 + q, none⟩ = some (.int .i64 kz) := fun o1 => (((Below.refl wr.heap.size wr).alloc (Nat.le_refl _) o1).cell (p := ⟨g, 1 + q, none⟩) (by show g < wr.heap.size; omega)).trans ((HB.out.cell (p := ⟨g, 1 + q, none⟩) hg).trans (HKS.out q kz hkz))
      clear hfd hkz hf
      obtain ⟨A, cv, rfl, hnv⟩ := row_slice HR.out
      have cM : ∀ o1 : Obj, (wr.alloc o1).cell? ⟨w.heap.size + 1 + 1, 7, none⟩ = some (.slice A q cv) := fun o1 => (((Below.refl wr.heap.size wr).alloc (Nat.le_refl _) o1).cell (p := ⟨w.heap.size + 1 + 1, 7, none⟩) (by show w.heap.size + 1 + 1 < wr.heap.size; omega)).trans ((Blk_cell HM.out 7).trans rfl)
      have HRA : Hid (∀ o1 o2 : Obj, ((wr.alloc o1).alloc o2).ownsRow (w.heap.size + 3) 75 3 (.slice A q cv) q (fCells (R.take q))) := Lib.hid fun o1 o2 => (HR.out.alloc o1).alloc o2
      go_wp2_with (at_builtin; refine wpList_append_own _ rfl _ _ 25 rfl (w.heap.size + 3) 75 i0 (.agg #[.string ⟨#[]⟩, .string ⟨#[]⟩, .int .i64 0]) 3 40 Tryd.underlying25 hi hz0 hz1 hz2 rfl (by decide) _ q _ rfl (HRA.out _ _) ⟨_, 0, none⟩ 1 1 [.string fd.nm, .string fd.vr, .int .i64 kz] rfl rfl (new_cellsT _ 75 [.string fd.nm, .string fd.vr, .int .i64 kz] _ (by simp)) (fun u hu => by simp at hu; rcases hu with rfl | rfl | rfl <;> rfl) (by unfold maxLen; omega) (by omega) (by simp; omega) ?_; intro v' w5 hown hgrow _; have HF := Lib.hid (rw_fin HR.out HM.out HN.out HZ.out HB.out hown hgrow); have c7 := (Blk_cell HF.out.1 7).trans rfl; have f7 := Blk_frozen HF.out.1 7; obtain ⟨g5, c5, rfl⟩ := ownsRow_succ hown; clear hown hgrow)
      go_roundw
      case rel =>
        refine ⟨q + 1, _, by go_num, by omega, Lib.hid ?_, Lib.hid HF.out.2.1, Lib.hid HF.out.2.2.1, Lib.hid HF.out.2.2.2.1, Lib.hid HF.out.2.2.2.2.2⟩
        rw [HX.out]; exact HF.out.2.2.2.2.1
      case measure => simp [intOf]; omega
    · obtain rfl : q = L := by omega
      obtain ⟨A, cv, rfl, hnv⟩ := row_slice HR.out
      have HRT : Hid (R.take q = R) := Lib.hid (List.take_of_length_le (by rw [HRR.out]; unfold relab; rw [List.length_zipWith]; have := HL.out; omega))
      have HRL : Hid (R.length = q) := Lib.hid (by rw [HRR.out]; unfold relab; rw [List.length_zipWith, HL.out, HKL.out]; exact Nat.min_self q)
      have HOF : Hid (OwnF (w.heap.size + 3) wr (.slice A q cv) R) := Lib.hid (by have h := HR.out; rw [HRT.out] at h; unfold OwnF; rw [HRL.out]; exact h)
      have hM2 := blk_put (j := 1) (v := .int .i64 k0) HM.out
      have hZ2 : (wr.setCell ⟨w.heap.size + 2, 1, none⟩ (.int .i64 k0)).heap[w.heap.size + 1]? = some (.cells zero9 27 (0, 0)) := (set_far _ _ _ _ _ (by omega)).trans HZ.out
      have HZZ := Lib.hid hZ2
      have z1' := (Blk_cell HM.out 1).trans rfl
      have f1' := Blk_frozen HM.out 1
      have zk : wr.cell? ⟨g, 0, none⟩ = some (.int .i64 k0) := (HB.out.cell (p := ⟨g, 0, none⟩) hg).trans HK0.out
      obtain ⟨q0, q1, q2, q3, q4, q5, q6, q7, q8, _⟩ := cells9 hM2
      obtain ⟨z0, z1, z2, z3, z4, z5, z6, z7, z8, zf⟩ := cells9 hZ2
      clear hM2 hZ2
      go_wp2

      refine bodyPost_ret (v := .agg #[.int .i64 14, .int .i64 k0, .int .i64 0, .int .i64 0, .int .i64 nn, .string nm, .string s, .slice A q cv, .int .i64 pos]) (res53 _ _ (w.heap.size + 1) _ _ _ _ _ _ _ _ _ rfl (put9 rfl HZZ.out _ _ _ _ _ _ _ _ _)) rfl ⟨_, rfl, ?_, ?_⟩
      · exact row_mono (row_heap HOF.out fun g hg _ => by rw [put9_far _ _ _ _ _ _ _ _ _ _ _ _ (by omega), set_far _ _ _ _ _ (by omega)]) (by omega)
      · have h1 := HB.out.setCell (p := ⟨w.heap.size + 2, 1, none⟩) (by show w.heap.size ≤ w.heap.size + 2; omega) (.int .i64 k0)
        exact ((((((((h1.setCell (p := ⟨w.heap.size + 1, 0, none⟩) (by show w.heap.size ≤ w.heap.size + 1; omega) _).setCell (p := ⟨w.heap.size + 1, 1, none⟩) (by show w.heap.size ≤ w.heap.size + 1; omega) _).setCell (p := ⟨w.heap.size + 1, 2, none⟩) (by show w.heap.size ≤ w.heap.size + 1; omega) _).setCell (p := ⟨w.heap.size + 1, 3, none⟩) (by show w.heap.size ≤ w.heap.size + 1; omega) _).setCell (p := ⟨w.heap.size + 1, 4, none⟩) (by show w.heap.size ≤ w.heap.size + 1; omega) _).setCell (p := ⟨w.heap.size + 1, 5, none⟩) (by show w.heap.size ≤ w.heap.size + 1; omega) _).setCell (p := ⟨w.heap.size + 1, 6, none⟩) (by show w.heap.size ≤ w.heap.size + 1; omega) _).setCell (p := ⟨w.heap.size + 1, 7, none⟩) (by show w.heap.size ≤ w.heap.size + 1; omega) _).setCell (p := ⟨w.heap.size + 1, 8, none⟩) (by show w.heap.size ≤ w.heap.size + 1; omega) _
/-- with of a node and as many places as it has children. -/
theorem rwith_any (x : Nd) (fv : Value) (ks : List Int) (g cg n : Nat) (w : World) (hn : ks.length = n) (hF : Flds w.heap.size w fv x.l) (hL : x.l.length ≤ 1000000) (hk : ks.length = (kids x).length) (hr : Rw w g ks) :
    Calls Tryd.prog 53 #[.agg (ndArr x fv), .slice (some ⟨g, 0, none⟩) n cg] w (RWPost (wk x ks) w) := by
  subst hn
  have hlen : ks.length = own x + (if many x = true then x.l.length else 0) := by
    rw [hk, kids, List.length_append, own]
    split <;> simp
  obtain ⟨FA, fc, rfl, hfc, hnil, hpos⟩ := hF
  obtain ⟨hrow, hg⟩ := hr
  by_cases h11 : x.kind = 11
  · have hown : own x = 0 := by simp [own, kids0, h11]
    have hm : many x = true := by simp [many, h11]
    rw [hm, if_pos rfl, hown, Nat.zero_add] at hlen
    have hwk : wk x ks = { x with a := 0, b := 0, c := 0, l := relab x.l ks } := by simp [wk, hown, hm]
    rw [hlen, hwk]
    obtain ⟨k, a, b, c, nn, nm, s, l, pos⟩ := x
    cases h11
    refine (rwith_p11 a b c nn pos nm s l (relab l ks) ks FA l.length fc g cg w hg (Lib.hid rfl) hL hfc (Lib.hid hpos) (Lib.hid hrow) (Lib.hid hlen) (Lib.hid rfl)).mono ?_
    rintro e w' ⟨v, rfl, h1, h2⟩
    exact ⟨v, rfl, h1, h2⟩
  · by_cases h14 : x.kind = 14
    · have hown : own x = 1 := by simp [own, kids0, h14]
      have hm : many x = true := by simp [many, h14]
      rw [hm, if_pos rfl, hown] at hlen
      have hwk : wk x ks = { x with a := ks.getD 0 0, b := 0, c := 0, l := relab x.l (ks.drop 1) } := by simp [wk, hown, hm]
      rw [hlen, hwk, Nat.add_comm]
      obtain ⟨k0, ks', rfl⟩ : ∃ k0 ks', ks = k0 :: ks' := by
        cases ks with
        | nil => exact absurd hlen (by simp only [List.length_nil]; omega)
        | cons k0 ks' => exact ⟨k0, ks', rfl⟩
      obtain ⟨k, a, b, c, nn, nm, s, l, pos⟩ := x
      cases h14
      refine (rwith_p14 a b c nn pos k0 nm s l (relab l ks') ks' FA l.length fc g cg w hg (Lib.hid rfl) hL hfc (Lib.hid hpos) (Lib.hid (hrow 0 k0 rfl)) (Lib.hid fun j z hz => hrow (1 + j) z (by rw [Nat.add_comm]; exact hz)) (Lib.hid (by simp at hlen; omega)) (Lib.hid rfl)).mono ?_
      rintro e w' ⟨v, rfl, h1, h2⟩
      exact ⟨v, rfl, h1, h2⟩
    · have hm : many x = false := by simp [many, h11, h14]
      have e11 : (x.kind == 11) = false := by simpa using h11
      have e14 : (x.kind == 14) = false := by simpa using h14
      rw [hm] at hlen
      simp only [Bool.false_eq_true, if_false, Nat.add_zero] at hlen
      have hwk : wk x ks = { x with a := if 0 < own x then ks.getD 0 0 else 0, b := if 1 < own x then ks.getD 1 0 else 0, c := if 2 < own x then ks.getD 2 0 else 0, l := [] } := by simp [wk, hm]
      rw [hwk]
      rw [← hlen]
      obtain ⟨k, a, b, c, nn, nm, s, l, pos⟩ := x
      have hle : ks.length ≤ 3 := by
        rw [hlen]; simp only [own, kids0]
        repeat' split
        all_goals simp
      simp only at e11 e14
      match ks, hle with
      | [], _ => refine (rwith_n0 k a b c nn pos nm s FA _ fc e11 e14 g cg w hg).mono ?_; rintro e w' ⟨rfl, h2⟩; exact ⟨_, rfl, World.ownsRow_nil _ _ _ _, h2⟩
      | [p], _ => refine (rwith_n1 k a b c nn pos p nm s FA _ fc e11 e14 g cg w hg (Lib.hid (hrow 0 p rfl))).mono ?_; rintro e w' ⟨rfl, h2⟩; exact ⟨_, rfl, World.ownsRow_nil _ _ _ _, h2⟩
      | [p, q], _ => refine (rwith_n2 k a b c nn pos p q nm s FA _ fc e11 e14 g cg w hg (Lib.hid (hrow 0 p rfl)) (Lib.hid (hrow 1 q rfl))).mono ?_; rintro e w' ⟨rfl, h2⟩; exact ⟨_, rfl, World.ownsRow_nil _ _ _ _, h2⟩
      | [p, q, r], _ => refine (rwith_n3 k a b c nn pos p q r nm s FA _ fc e11 e14 g cg w hg (Lib.hid (hrow 0 p rfl)) (Lib.hid (hrow 1 q rfl)) (Lib.hid (hrow 2 r rfl))).mono ?_; rintro e w' ⟨rfl, h2⟩; exact ⟨_, rfl, World.ownsRow_nil _ _ _ _, h2⟩
      | _ :: _ :: _ :: _ :: _, h => exact absurd h (by simp only [List.length_cons]; omega)
end Go.Proofs.YteikpeaakmbihaaDoor.T
/- copyOf, the document's: what stays through it. -/
namespace Go.Proofs.YteikpeaakmbihaaDoor.T
open Go.RowKit Go.Shelf
theorem cps_len {l : List Nd} : ∀ (ks : List Int) (p : List Nd × List Int), (∀ k ∈ ks, ∀ out : List Nd, (cp l k.toNat out).length = out.length + (post l k.toNat).length) → (cps l p ks).1.length = p.1.length + (ks.flatMap fun k => post l k.toNat).length ∧ (cps l p ks).2.length = p.2.length + ks.length := by
  intro ks
  induction ks using snocInd with
  | h0 => intro p _; simp [cps]
  | h1 ks k ih =>
    intro p h
    obtain ⟨h1, h2⟩ := ih p fun m hm => h m (by simp [hm])
    rw [cps_snoc]
    simp only
    rw [h k (by simp), h1]
    refine ⟨?_, ?_⟩
    · simp [List.flatMap_append]; omega
    · simp [h2]; omega
theorem cp_len {l : List Nd} (hk : kidsOk l) : ∀ i, i < l.length → ∀ out : List Nd, (cp l i out).length = out.length + (post l i).length := by
  intro i
  induction i using Nat.strongRecOn with
  | ind i ih =>
    intro hi out
    have hx := List.getElem?_eq_getElem hi
    have ha := hk _ _ hx
    rw [cp_eq hx ha, post_eq hx ha, List.length_append, List.length_append]
    rw [(cps_len (kids l[i]) (out, []) fun k hk1 out' => ih k.toNat (toNat_lt (ha k hk1)) (by have := toNat_lt (ha k hk1); omega) out').1]
    simp
    omega
theorem ne_none (v : Value) : v.ownBlock = none ∨ v.ownBlock ≠ none := by cases v.ownBlock with | none => exact .inl rfl | some g => exact .inr (by simp)
theorem grown_alloc (W : World) (o : Obj) : W.grownBy (W.alloc o) none := ⟨rfl, rfl, rfl, by simp, fun _ hk _ => Below.heap_alloc _ _ _ hk⟩
theorem grown_of {W W' : World} (h : Below W.heap.size W W') : W.grownBy W' none := ⟨h.os, h.tape, h.output, h.size, fun k hk _ => h.block k hk⟩
/-- What lay below B, and every block but such as hold nodes, is as it was. -/
def Kp (B : Nat) (w w' : World) : Prop := Below B w w' ∧ ∀ (k : Nat) (cs : Array Value) (t : TypeId) (fr : Nat × Nat), w.heap[k]? = some (.cells cs t fr) → t ≠ 27 → w'.heap[k]? = some (.cells cs t fr)
theorem Kp.refl (B : Nat) (w : World) : Kp B w w := ⟨Below.refl _ _, fun _ _ _ _ h _ => h⟩
theorem Kp.trans {B : Nat} {a b c : World} (h : Kp B a b) (k : Kp B b c) : Kp B a c := ⟨h.1.trans k.1, fun i cs t fr hi ht => k.2 i cs t fr (h.2 i cs t fr hi ht) ht⟩
theorem Kp.of {B : Nat} {w w' : World} (h : Below w.heap.size w w') (hB : B ≤ w.heap.size) : Kp B w w' := ⟨h.mono hB, fun k _ _ _ hk _ => (h.block k (Array.getElem?_eq_some_iff.1 hk).1).trans hk⟩
theorem Kp.alloc (B : Nat) (w : World) (o : Obj) (hB : B ≤ w.heap.size) : Kp B w (w.alloc o) := Kp.of ((Below.refl _ w).alloc (Nat.le_refl _) o) hB
theorem Kp.grown {B B2 n : Nat} {w w' : World} {v : Value} {xs : List Value} (h : w.ownsRow B2 27 9 v n xs) (hB : B ≤ B2) (hw : B ≤ w.heap.size) (hg : w.grownBy w' v.ownBlock) : Kp B w w' :=
  ⟨⟨hg.os, hg.tape, hg.output, hg.size, fun k hk => hg.block k (by omega) (fun e => by have := (h.lt k e.symm).1; omega)⟩, fun k cs t fr hk ht => (hg.block k (Array.getElem?_eq_some_iff.1 hk).1 (fun e => by
    obtain ⟨_, cur, hcur⟩ := own27 h k e.symm
    rw [hcur] at hk
    simp at hk
    exact ht hk.2.1.symm)).trans hk⟩
theorem row_kp {B B1 e s n : Nat} {w w' : World} {v : Value} {xs : List Value} (h : w.ownsRow B1 e s v n xs) (he : e ≠ 27) (hk : Kp B w w') : w'.ownsRow B1 e s v n xs := by
  refine ⟨h.1, ?_⟩
  rcases h.2 with h0 | ⟨g, cap, cur, h1, h2, h3, h4⟩
  · exact .inl h0
  · exact .inr ⟨g, cap, cur, h1, h2, hk.2 _ _ _ _ h3 he, h4⟩
theorem ownN_kept3 {w w' : World} {B B2 n2 : Nat} {v v2 : Value} {ps : List (Nd × Value)} {x2 : List Value} (h : OwnN B w v ps) (h2 : w.ownsRow B2 3 1 v2 n2 x2) (hg : w.grownBy w' v2.ownBlock) : OwnN B w' v ps :=
  ⟨h.1.kept hg (rows_ne h.1 h2 (by decide)), fun x hx => (h.2 x hx).kept hg (rows_ne (h.2 x hx) h2 (by decide))⟩
theorem ownN_grow {w w' : World} {B : Nat} {v : Value} {ps : List (Nd × Value)} (h : OwnN B w v ps) (hg : w.grownBy w' none) : OwnN B w' v ps :=
  ⟨h.1.kept hg (ne_none _), fun x hx => (h.2 x hx).kept hg (ne_none _)⟩
/-- What copyOf answers. -/
def CpPost (N : List Nd) (B : Nat) (w : World) (e : Ending) (w' : World) : Prop := ∃ v' ps', e = .returned v' ∧ ps'.map Prod.fst = N ∧ OwnN B w' v' ps' ∧ Kp B w w'
/-- Where the loop stands. -/
def CSt (N : List Nd) (J : List Int) (K : List Int) (B BK : Nat) (w W : World) (v' u : Value) (gk KL ck q : Nat) (bx : Value) : Prop :=
  (∃ ps, ps.map Prod.fst = N ∧ OwnN B W v' ps) ∧ W.ownsRow BK 3 1 u q (J.map (Value.int .i64)) ∧ Kp B w W ∧
    W.ownsRow w.heap.size 3 1 (.slice (some ⟨gk, 0, none⟩) KL ck) KL (K.map (Value.int .i64)) ∧ gk < BK ∧ W.heap[w.heap.size]? = some (.cells #[bx] 24 (0, 0)) ∧ w.heap.size < BK ∧ BK ≤ W.heap.size ∧ B ≤ w.heap.size
section
variable {N N' : List Nd} {J K : List Int} {B BK : Nat} {w W W' : World} {v' v2 u u' : Value} {gk KL ck q : Nat} {bx : Value}
theorem CSt.drew (h : CSt N J K B BK w W v' u gk KL ck q bx) : CSt N J K B BK w W.drew v' u gk KL ck q bx := by
  have hb : Below W.heap.size W W.drew := (Below.refl W.heap.size W).drew
  have hg := grown_of hb
  obtain ⟨⟨ps, a0, a1⟩, a2, a3, a5, a6, a7, a8, a9, a10⟩ := h
  exact ⟨⟨ps, a0, ownN_grow a1 hg⟩, a2.kept hg (ne_none _), a3.trans (Kp.of hb (by omega)), a5.kept hg (ne_none _), a6, a7, a8, a9, a10⟩
theorem CSt.box (h : CSt N J K B BK w W v' u gk KL ck q bx) : W.cell? ⟨w.heap.size, 0, none⟩ = some bx := (Blk_cell h.2.2.2.2.2.1 0).trans rfl
theorem CSt.at (h : CSt N J K B BK w W v' u gk KL ck q bx) {j : Nat} {z : Int} (hz : K[j]? = some z) : W.cell? ⟨gk, j, none⟩ = some (.int .i64 z) := by
  have := World.ownsRow.cells h.2.2.2.1 (g := gk) rfl j (.int .i64 z) (by simp [hz])
  rw [Addr.add_lit, Nat.zero_add] at this
  exact this
/-- Behind a child's copy. -/
theorem CSt.call (h : CSt N J K B BK w W v' u gk KL ck q bx) {ps' : List (Nd × Value)} (h1 : ps'.map Prod.fst = N') (h2 : OwnN B W' v2 ps') (h3 : Kp B W W') : CSt N' J K B BK w W' v2 u gk KL ck q bx := by
  obtain ⟨⟨ps, _, a1⟩, a2, a3, a5, a6, a7, a8, a9, a10⟩ := h
  exact ⟨⟨ps', h1, h2⟩, row_kp a2 (by decide) h3, a3.trans h3, row_kp a5 (by decide) h3, a6, h3.2 _ _ _ _ a7 (by decide), a8, Nat.le_trans a9 h3.1.size, a10⟩
/-- Behind the append of a child's place. -/
theorem CSt.app (h : CSt N J K B BK w W v' u gk KL ck q bx) {z : Int} {o : Obj} (h1 : W'.ownsRow BK 3 1 u' (q + 1) (J.map (Value.int .i64) ++ [.int .i64 z])) (h2 : (W.alloc o).grownBy W' u.ownBlock) : CSt N (J ++ [z]) K B BK w W' v' u' gk KL ck (q + 1) bx := by
  obtain ⟨⟨ps, a0, a1⟩, a2, a3, a5, a6, a7, a8, a9, a10⟩ := h
  have hu := a2.lt
  have hs := h2.size
  simp only [World.size_alloc] at hs
  have hbl : ∀ k, k < BK → W'.heap[k]? = W.heap[k]? := fun k hk => (h2.block k (by simp; omega) (fun e => by have := (hu k e.symm).1; omega)).trans (Below.heap_alloc _ _ _ (by omega))
  refine ⟨⟨ps, a0, ownN_kept3 (ownN_grow a1 (grown_alloc W o)) (a2.alloc o) h2⟩, by rw [List.map_append]; exact h1, ⟨⟨h2.os.trans a3.1.os, h2.tape.trans a3.1.tape, h2.output.trans a3.1.output, by have := a3.1.size; omega, fun k hk => (hbl k (by omega)).trans (a3.1.block k hk)⟩, fun k cs t fr hk ht => (hbl k (by have := (Array.getElem?_eq_some_iff.1 hk).1; omega)).trans (a3.2 k cs t fr hk ht)⟩, ?_, a6, (hbl _ (by omega)).trans a7, a8, by omega, a10⟩
  refine (a5.alloc o).kept h2 (.inr ?_)
  intro e
  have := (hu gk e.symm).1
  omega
/-- Behind the node's own copy. -/
theorem CSt.fin (h : CSt N J K B BK w W v' u gk KL ck q bx) {ps : List (Nd × Value)} {y : Nd} {vy v7 : Value} {W6 W7 : World} {n : Nat} {o : Obj} (hp : ps.map Prod.fst = N) (ho : OwnN B W v' ps) (hn : ps.length = n) (hf : OwnF W.heap.size W6 vy y.l) (hb : Below W.heap.size W W6)
    (h7 : W7.ownsRow B 27 9 v7 (n + 1) (nCells ps ++ (ndArr y vy).toList)) (hg : (W6.alloc o).grownBy W7 v'.ownBlock) : CpPost (N ++ [y]) B w (.returned v7) W7 := by
  obtain ⟨_, a2, a3, a5, a6, a7, a8, a9, a10⟩ := h
  have hBW : B ≤ W.heap.size := by omega
  have hg6 := grown_of hb
  have h6 := ownN_grow (ownN_grow ho hg6) (grown_alloc W6 o)
  have k7 : Kp B (W6.alloc o) W7 := Kp.grown h6.1 (Nat.le_refl _) (by simp; have := hb.size; omega) hg
  subst hn
  refine ⟨v7, ps ++ [(y, vy)], rfl, by rw [List.map_append, hp]; rfl, ⟨by rw [nCells_snoc, List.length_append]; exact h7, fun x hx => ?_⟩, (a3.trans (Kp.of hb hBW)).trans ((Kp.alloc B W6 o (by have := hb.size; omega)).trans k7)⟩
  rcases List.mem_append.1 hx with hx | hx
  · exact row_kp (h6.2 x hx) (by decide) k7
  · obtain rfl : x = (y, vy) := by simpa using hx
    exact row_mono (row_kp (World.ownsRow.alloc hf o) (by decide) k7) hBW
end
end Go.Proofs.YteikpeaakmbihaaDoor.T
/- Join: trees put behind one another; what stays through its walk. -/
namespace Go.Proofs.YteikpeaakmbihaaDoor.T
open Go.RowKit Go.Shelf
/-- A node whose children stand further on. -/
def sh (f : Nat) (m : Nd) : Nd := wk m ((kids m).map (· + (f : Int)))
/-- One tree more behind the others, and its root's place. -/
def jstep (p : List Nd × List Int) (e : List Nd) : List Nd × List Int := (p.1 ++ e.map (sh p.1.length), p.2 ++ [((p.1.length + e.length : Nat) : Int) - 1])
def jn (ll : List (List Nd)) : List Nd × List Int := ll.foldl jstep ([], [])
theorem jn_snoc (ll : List (List Nd)) (e : List Nd) : jn (ll ++ [e]) = jstep (jn ll) e := by simp [jn]
theorem jn_len : ∀ ll : List (List Nd), (jn ll).1.length = (ll.map List.length).sum ∧ (jn ll).2.length = ll.length := by
  intro ll
  induction ll using snocInd with
  | h0 => exact ⟨rfl, rfl⟩
  | h1 ll e ih =>
    rw [jn_snoc]
    refine ⟨?_, ?_⟩
    · simp [jstep, ih.1]
    · simp [jstep, ih.2]
def joinN (x : Nd) (ll : List (List Nd)) : List Nd := (jn ll).1 ++ [wk x (jn ll).2]
/-- Expressions in memory. -/
def Exprs (B : Nat) (W : World) (v : Value) (ll : List (List Nd)) : Prop :=
  ∃ A c, v = .slice A ll.length c ∧ ll.length ≤ c ∧ (A = none → c = 0) ∧ (0 < ll.length → ∃ b o, A = some ⟨b, o, none⟩ ∧ b < B ∧ ∀ j e, ll[j]? = some e → ∃ Ae ce, W.cell? ⟨b, o + j, none⟩ = some (.slice Ae e.length ce) ∧ Nodes B W (.slice Ae e.length ce) e)
theorem Exprs.below {B : Nat} {W W' : World} {v : Value} {ll : List (List Nd)} (h : Exprs B W v ll) (hb : Below B W W') : Exprs B W' v ll := by
  obtain ⟨A, c, h1, h2, h3, h4⟩ := h
  refine ⟨A, c, h1, h2, h3, fun h0 => ?_⟩
  obtain ⟨b, o, e1, e2, e3⟩ := h4 h0
  refine ⟨b, o, e1, e2, fun j e he => ?_⟩
  obtain ⟨Ae, ce, c1, c2⟩ := e3 j e he
  exact ⟨Ae, ce, (hb.cell (p := ⟨b, o + j, none⟩) e2).trans c1, c2.below hb⟩
theorem Exprs.mono {B B' : Nat} {W : World} {v : Value} {ll : List (List Nd)} (h : Exprs B W v ll) (hB : B ≤ B') : Exprs B' W v ll := by
  obtain ⟨A, c, h1, h2, h3, h4⟩ := h
  refine ⟨A, c, h1, h2, h3, fun h0 => ?_⟩
  obtain ⟨b, o, e1, e2, e3⟩ := h4 h0
  exact ⟨b, o, e1, by omega, fun j e he => by obtain ⟨Ae, ce, c1, c2⟩ := e3 j e he; exact ⟨Ae, ce, c1, c2.mono hB⟩⟩
/-- Where Join stands: what is put together, the roots, the boxes. -/
def JSt (N : List Nd) (J : List Int) (cx : Array Value) (w W : World) (v u : Value) (q : Nat) : Prop :=
  (∃ ps, ps.map Prod.fst = N ∧ OwnN (w.heap.size + 3) W v ps) ∧ W.ownsRow (w.heap.size + 3) 3 1 u q (J.map (Value.int .i64)) ∧ W.heap[w.heap.size]? = some (.cells cx 27 (0, 0)) ∧ W.heap[w.heap.size + 1]? = some (.cells #[.slice none 0 0] 24 (0, 0)) ∧ W.heap[w.heap.size + 2]? = some (.cells #[v] 24 (0, 0)) ∧ Below w.heap.size w W
section
variable {N : List Nd} {J : List Int} {cx : Array Value} {w W W' : World} {v v2 u u2 : Value} {q : Nat}
theorem JSt.size (h : JSt N J cx w W v u q) : w.heap.size + 3 ≤ W.heap.size := (Array.getElem?_eq_some_iff.1 h.2.2.2.2.1).1
theorem JSt.next (h : JSt N J cx w W v u q) (hb : Below W.heap.size W W') : JSt N J cx w W' v u q := by
  have hs := h.size
  obtain ⟨⟨ps, a0, a1⟩, a2, a3, a4, a5, a6⟩ := h
  have hg := grown_of hb
  exact ⟨⟨ps, a0, ownN_grow a1 hg⟩, a2.kept hg (ne_none _), blk_next a3 hb, blk_next a4 hb, blk_next a5 hb, below_next a6 hb (Nat.le_refl _)⟩
theorem JSt.drew (h : JSt N J cx w W v u q) : JSt N J cx w W.drew v u q := h.next (Below.refl _ _).drew
theorem JSt.c (h : JSt N J cx w W v u q) : W.cell? ⟨w.heap.size + 2, 0, none⟩ = some v := (Blk_cell h.2.2.2.2.1 0).trans rfl
theorem JSt.ca (h : JSt N J cx w W v u q) (o : Obj) : (W.alloc o).cell? ⟨w.heap.size + 2, 0, none⟩ = some v := (Blk_cell (nextAt h.2.2.2.2.1) 0).trans rfl
/-- Behind a root's place. -/
theorem JSt.root (h : JSt N J cx w W v u q) {z : Int} {o : Obj} (h1 : W'.ownsRow (w.heap.size + 3) 3 1 u2 (q + 1) (J.map (Value.int .i64) ++ [.int .i64 z])) (h2 : (W.alloc o).grownBy W' u.ownBlock) : JSt N (J ++ [z]) cx w W' v u2 (q + 1) := by
  have hs := h.size
  obtain ⟨⟨ps, a0, a1⟩, a2, a3, a4, a5, a6⟩ := h
  have hu := a2.lt
  have hsz := h2.size
  simp only [World.size_alloc] at hsz
  have hbl : ∀ k, k < w.heap.size + 3 → W'.heap[k]? = W.heap[k]? := fun k hk => (h2.block k (by simp; omega) (fun e => by have := (hu k e.symm).1; omega)).trans (Below.heap_alloc _ _ _ (by omega))
  exact ⟨⟨ps, a0, ownN_kept3 (ownN_grow a1 (grown_alloc W o)) (a2.alloc o) h2⟩, by rw [List.map_append]; exact h1, (hbl _ (by omega)).trans a3, (hbl _ (by omega)).trans a4, (hbl _ (by omega)).trans a5,
    ⟨h2.os.trans a6.os, h2.tape.trans a6.tape, h2.output.trans a6.output, by have := a6.size; omega, fun k hk => (hbl k (by omega)).trans (a6.block k hk)⟩⟩
/-- Behind a node more. -/
theorem JSt.node (h : JSt N J cx w W v u q) {ps : List (Nd × Value)} {y : Nd} {vy : Value} {n : Nat} {o : Obj} {W5 W8 : World} (hp : ps.map Prod.fst = N) (ho : OwnN (w.heap.size + 3) W v ps) (hn : ps.length = n) (hf : OwnF W.heap.size W5 vy y.l) (hb : Below W.heap.size W W5)
    (h7 : W8.ownsRow (w.heap.size + 3) 27 9 v2 (n + 1) (nCells ps ++ (ndArr y vy).toList)) (hg : (W5.alloc o).grownBy W8 v.ownBlock) :
    W8.heap[w.heap.size + 2]? = some (.cells #[v] 24 (0, 0)) ∧ JSt (N ++ [y]) J cx w (W8.setCell ⟨w.heap.size + 2, 0, none⟩ v2) v2 u q := by
  have hs := h.size
  have h5 := h.next hb
  obtain ⟨_, a2, a3, a4, a5, a6⟩ := h5
  have h6 := ownN_grow (ownN_grow ho (grown_of hb)) (grown_alloc W5 o)
  have hv := h6.1.lt
  have hsz := hg.size
  simp only [World.size_alloc] at hsz
  have hs5 := hb.size
  have hbl : ∀ k, k < w.heap.size + 3 → W8.heap[k]? = W5.heap[k]? := fun k hk => (hg.block k (by simp; omega) (fun e => by have := (hv k e.symm).1; omega)).trans (Below.heap_alloc _ _ _ (by omega))
  have k7 : Kp (w.heap.size + 3) (W5.alloc o) W8 := Kp.grown h6.1 (Nat.le_refl _) (by simp; omega) hg
  have x2 := (hbl _ (by omega)).trans a5
  have hfar : ∀ g, w.heap.size + 3 ≤ g → g < W8.heap.size → (W8.setCell ⟨w.heap.size + 2, 0, none⟩ v2).heap[g]? = W8.heap[g]? := fun g hg _ => set_far _ _ _ _ _ (by omega)
  subst hn
  refine ⟨x2, ⟨ps ++ [(y, vy)], by rw [List.map_append, hp]; rfl, ?_⟩, row_heap (row_kp (a2.alloc o) (by decide) k7) hfar, ?_, ?_, blk_put (j := 0) (v := v2) x2, ?_⟩
  · refine ownN_heap (W := W8) ⟨by rw [nCells_snoc, List.length_append]; exact h7, fun x hx => ?_⟩ hfar
    rcases List.mem_append.1 hx with hx | hx
    · exact row_kp (h6.2 x hx) (by decide) k7
    · obtain rfl : x = (y, vy) := by simpa using hx
      exact row_mono (row_kp (World.ownsRow.alloc hf o) (by decide) k7) (by omega)
  · rw [set_far _ _ _ _ _ (by omega)]; exact (hbl _ (by omega)).trans a3
  · rw [set_far _ _ _ _ _ (by omega)]; exact (hbl _ (by omega)).trans a4
  · exact Below.setCell ⟨hg.os.trans a6.os, hg.tape.trans a6.tape, hg.output.trans a6.output, by have := a6.size; omega, fun k hk => (hbl k (by omega)).trans (a6.block k hk)⟩ (p := ⟨w.heap.size + 2, 0, none⟩) (by show w.heap.size ≤ w.heap.size + 2; omega) _
end
/-- append to a row of the call's own, in a region that draws its order. -/
theorem step_append_own {P : Program} {ops : Array Oper} {o : Oper} {a : Act} {K : Act → World → Prop} {Q : Exit → Act → World → Prop} {E : Prop} (w : World) (hgd : o.guard = none) (s x : Operand) (t : TypeId)
    (ho : o.op = .call { callee := .builtin .append, args := #[s, x], argTypes := #[t, t] })
    (base : Nat) (e : TypeId) (i : TypeInfo) (z : Value) (size bytes : Nat) (ht : P.underlying t = some (.slice e)) (hi : P.info? e = some i) (hz : i.zero = some z)
    (hsize : i.size = size) (hby : i.bytes = bytes) (hzs : z.cells.size = size) (hsz : 0 < size)
    (v : Value) (n : Nat) (xs : List Value) (hs : a.eval s = v) (hown : w.ownsRow base e size v n xs)
    (ad : Addr) (m c : Nat) (news : List Value) (hx : a.eval x = .slice (some ad) m c) (hl : news.length = m * size) (hnews : ∀ j u, news[j]? = some u → w.cell? (ad.add j) = some u) (h1 : ∀ u ∈ news, u.oneCell' = true)
    (h63 : n + m ≤ maxLen) (hbytes : (n + m) * bytes ≤ 140737488355328) (hbase : base ≤ w.heap.size)
    (h : ∀ v' w', w'.ownsRow base e size v' (n + m) (xs ++ news) → w.grownBy w' v.ownBlock → K (a.put o.dst v') w') : if Region.wanted o (yielded ops a.tmps) = true then Oper.wp P o a w K Q else E := by
  have hw : Region.wanted o (yielded ops a.tmps) = true := by simp [Region.wanted, hgd]
  rw [if_pos hw]
  exact wp_append_own w s x t ho base e i z size bytes ht hi hz hsize hby hzs hsz v n xs hs hown ad m c news hx hl hnews h1 h63 hbytes hbase fun v' w' h2 h3 _ => h v' w' h2 h3
end Go.Proofs.YteikpeaakmbihaaDoor.T
/- A copy of what is below a node, behind others, is the copy alone with its children further on; a node and the copies of its children, joined, are the copy of the node. -/
namespace Go.Proofs.YteikpeaakmbihaaDoor.T
open Go.RowKit
theorem relab_pl : ∀ (l : List Fld) (ks : List Int), ks.length = l.length → (relab l ks).map Fld.pl = ks
  | [], [], _ => rfl
  | [], _ :: _, h => by simp at h
  | _ :: _, [], h => by simp at h
  | f :: l, k :: ks, h => by
    have := relab_pl l ks (by simpa using h)
    simpa [relab] using this
theorem relab_two : ∀ (l : List Fld) (ks js : List Int), ks.length = l.length → relab (relab l ks) js = relab l js
  | [], [], _, _ => by simp [relab]
  | [], _ :: _, _, h => by simp at h
  | _ :: _, [], _, h => by simp at h
  | f :: l, k :: ks, [], _ => by simp [relab]
  | f :: l, k :: ks, j :: js, h => by
    have := relab_two l ks js (by simpa using h)
    simpa [relab] using this
theorem own_wk (x : Nd) (ks : List Int) : own (wk x ks) = own x := by
  unfold own kids0 wk
  simp only
  repeat' split
  all_goals simp_all
theorem many_wk (x : Nd) (ks : List Int) : many (wk x ks) = many x := rfl
theorem kids_length (x : Nd) : (kids x).length = own x + if many x = true then x.l.length else 0 := by
  rw [kids, List.length_append, own]
  split <;> simp
theorem kids_wk {x : Nd} {ks : List Int} (h : ks.length = (kids x).length) : kids (wk x ks) = ks := by
  rw [kids_length] at h
  have hd : many x = true → (ks.drop (own x)).length = x.l.length := fun hm => by rw [List.length_drop, h, if_pos hm]; omega
  rw [kids, many_wk]
  have e0 : kids0 (wk x ks) = ks.take (own x) := by
    have hl : own x ≤ ks.length := by omega
    unfold wk
    unfold own at hl ⊢
    by_cases h1 : x.kind = 5 ∨ x.kind = 12 ∨ x.kind = 13 ∨ x.kind = 14
    · simp only [kids0, if_pos h1, List.length_cons, List.length_nil] at hl ⊢
      match ks, hl with
      | [], hl => simp at hl
      | a :: _, _ => simp
    · by_cases h2 : x.kind = 6 ∨ x.kind = 7 ∨ x.kind = 8 ∨ x.kind = 10
      · simp only [kids0, if_neg h1, if_pos h2, List.length_cons, List.length_nil] at hl ⊢
        match ks, hl with
        | [], hl => simp at hl
        | [_], hl => simp at hl
        | a :: b :: _, _ => simp
      · by_cases h3 : x.kind = 9
        · simp only [kids0, if_neg h1, if_neg h2, if_pos h3, List.length_cons, List.length_nil] at hl ⊢
          match ks, hl with
          | [], hl => simp at hl
          | [_], hl => simp at hl
          | [_, _], hl => simp at hl
          | a :: b :: c :: _, _ => simp
        · simp only [kids0, if_neg h1, if_neg h2, if_neg h3, List.length_nil] at hl ⊢
          simp
  rw [e0]
  by_cases hm : many x = true
  · rw [if_pos hm]
    have e1 : (wk x ks).l = relab x.l (ks.drop (own x)) := by show (if many x = true then _ else _) = _; rw [if_pos hm]
    rw [e1, relab_pl _ _ (hd hm), List.take_append_drop]
  · rw [if_neg hm, List.append_nil]
    rw [if_neg hm] at h
    exact List.take_of_length_le (by omega)
theorem wk_two {x : Nd} {ks js : List Int} (h : ks.length = (kids x).length) : wk (wk x ks) js = wk x js := by
  rw [kids_length] at h
  have ho := own_wk x ks
  show ({ wk x ks with a := _, b := _, c := _, l := _ } : Nd) = _
  rw [ho, many_wk]
  unfold wk
  by_cases hm : many x = true
  · rw [if_pos hm] at h
    simp only [hm, if_true]
    rw [relab_two _ _ _ (by rw [List.length_drop]; omega)]
  · simp only [hm]
    simp
theorem sh_sh (f g : Nat) (m : Nd) : sh f (sh g m) = sh (g + f) m := by
  have hl : ((kids m).map (· + (g : Int))).length = (kids m).length := List.length_map _
  unfold sh
  rw [kids_wk hl, wk_two hl, List.map_map]
  congr 1
  apply List.map_congr_left
  intro k _
  simp only [Function.comp]
  omega
theorem cps_len2 (l : List Nd) : ∀ (ks : List Int) (p : List Nd × List Int), (cps l p ks).2.length = p.2.length + ks.length := by
  intro ks
  induction ks using snocInd with
  | h0 => intro p; simp [cps]
  | h1 ks k ih => intro p; rw [cps_snoc]; simp [ih p]; omega
theorem cp_shift {l : List Nd} (hk : kidsOk l) : ∀ i, i < l.length → ∀ out : List Nd, cp l i out = out ++ (cp l i []).map (sh out.length) := by
  intro i
  induction i using Nat.strongRecOn with
  | ind i ih =>
    intro hi out
    have hx : l[i]? = some (l[i]'hi) := List.getElem?_eq_getElem hi
    obtain ⟨x, hx'⟩ : ∃ x, l[i]'hi = x := ⟨_, rfl⟩
    rw [hx'] at hx
    have ha : ahead i x := fun k hk' => hk i x hx k hk'
    have key : ∀ ks : List Int, (∀ k ∈ ks, 0 ≤ k ∧ k < (i : Int)) → cps l (out, []) ks = (out ++ (cps l ([], []) ks).1.map (sh out.length), (cps l ([], []) ks).2.map (· + (out.length : Int))) := by
      intro ks
      induction ks using snocInd with
      | h0 => intro _; simp [cps]
      | h1 ks k ih2 =>
        intro hks
        have h1 := ih2 fun k' hk' => hks k' (by simp [hk'])
        have hkk := hks k (by simp)
        have hlt : k.toNat < i := toNat_lt hkk
        have e : cp l k.toNat (out ++ (cps l ([], []) ks).1.map (sh out.length)) = out ++ (cp l k.toNat (cps l ([], []) ks).1).map (sh out.length) := by
          rw [ih k.toNat hlt (by omega) (out ++ (cps l ([], []) ks).1.map (sh out.length)), ih k.toNat hlt (by omega) (cps l ([], []) ks).1, List.map_append, List.map_map, List.append_assoc]
          congr 2
          apply List.map_congr_left
          intro m _
          simp only [Function.comp]
          rw [sh_sh, List.length_append, List.length_map, Nat.add_comm]
        rw [cps_snoc, cps_snoc, h1]
        simp only
        rw [e]
        simp only [List.map_append, List.map_cons, List.map_nil, List.length_append, List.length_map]
        congr 2
        simp only [List.cons.injEq, and_true]
        omega
    have hks : ∀ k ∈ kids x, 0 ≤ k ∧ k < (i : Int) := fun k hk' => ha k hk'
    have hlen : (cps l ([], []) (kids x)).2.length = (kids x).length := by rw [cps_len2]; simp
    rw [cp_eq hx ha out, cp_eq hx ha [], key _ hks, List.map_append, List.append_assoc]
    simp only [List.map_cons, List.map_nil]
    congr 3
    unfold sh
    rw [kids_wk hlen, wk_two hlen]
/-- A node and the copies of its children, joined, are the copy of the node. -/
theorem join_subs {l : List Nd} (hk : kidsOk l) {i : Nat} {x : Nd} (hx : l[i]? = some x) : joinN x ((kids x).map fun k => cp l k.toNat []) = cp l i [] := by
  have hi := (List.getElem?_eq_some_iff.1 hx).1
  have ha : ahead i x := fun k hk' => hk i x hx k hk'
  have key : ∀ ks : List Int, (∀ k ∈ ks, 0 ≤ k ∧ k < (i : Int)) → jn (ks.map fun k => cp l k.toNat []) = cps l ([], []) ks := by
    intro ks
    induction ks using snocInd with
    | h0 => intro _; simp [cps, jn]
    | h1 ks k ih =>
      intro hks
      have h1 := ih fun k' hk' => hks k' (by simp [hk'])
      have hkk := hks k (by simp)
      rw [List.map_append, cps_snoc]
      simp only [List.map_cons, List.map_nil]
      rw [jn_snoc, h1, jstep, cp_shift hk k.toNat (by omega) (cps l ([], []) ks).1]
      simp
  rw [joinN, key _ fun k hk' => ha k hk', cp_eq hx ha []]
end Go.Proofs.YteikpeaakmbihaaDoor.T
