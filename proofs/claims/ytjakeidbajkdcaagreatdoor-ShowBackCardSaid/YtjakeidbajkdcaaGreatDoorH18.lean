/- Joined by program. -/
import Derived.Test.YtjakeidbajkdcaaGreatDoorH13
import Derived.Test.YtjakeidbajkdcaaGreatDoorH17
import Derived.Test.YtjakeidbajkdcaaGreatDoorH02
import Derived.Test.YtjakeidbajkdcaaGreatDoorH14
import Derived.BigGuardPart
set_option maxRecDepth 100000
set_option maxHeartbeats 8000000
namespace Go.Proofs.YtjakeidbajkdcaaGreatDoor.T
open Go.RowKit Go.Shelf
theorem rw_fin {w wr w5 : World} {q : Nat} {v v' : Value} {xs ys : List Value} {cn cm cz : Array Value} {o1 o2 : Obj} (hO : wr.ownsRow (w.heap.size + 3) 97 3 v q xs) (hM : wr.heap[w.heap.size + 2]? = some (.cells cm 37 (0, 0))) (hN : wr.heap[w.heap.size]? = some (.cells cn 37 (0, 0))) (hZ : wr.heap[w.heap.size + 1]? = some (.cells cz 37 (0, 0)))
    (hB : Below w.heap.size w wr) (hown : w5.ownsRow (w.heap.size + 3) 97 3 v' (q + 1) ys) (hg : ((wr.alloc o1).alloc o2).grownBy w5 v.ownBlock) :
    w5.heap[w.heap.size + 2]? = some (.cells cm 37 (0, 0)) /\ (w5.setCell ⟨w.heap.size + 2, 7, none⟩ v').heap[w.heap.size + 2]? = some (.cells (cm.setIfInBounds 7 v') 37 (0, 0)) /\ (w5.setCell ⟨w.heap.size + 2, 7, none⟩ v').heap[w.heap.size]? = some (.cells cn 37 (0, 0)) /\ (w5.setCell ⟨w.heap.size + 2, 7, none⟩ v').heap[w.heap.size + 1]? = some (.cells cz 37 (0, 0)) /\
      (w5.setCell ⟨w.heap.size + 2, 7, none⟩ v').ownsRow (w.heap.size + 3) 97 3 v' (q + 1) ys /\ Below w.heap.size w (w5.setCell ⟨w.heap.size + 2, 7, none⟩ v') := by
  have hl := (Array.getElem?_eq_some_iff.1 hM).1
  have hb : ∀ k, k <= w.heap.size + 2 -> w5.heap[k]? = wr.heap[k]? := fun k hk => by
    rw [hg.block k (by simp; omega) (fun e => by have := (hO.lt k e.symm).1; omega)]
    exact (Below.heap_alloc _ _ _ (by simp; omega)).trans (Below.heap_alloc _ _ _ (by omega))
  have k2 := (hb _ (Nat.le_refl _)).trans hM
  refine ⟨k2, blk_put k2, ?_, ?_, ?_, ?_⟩
  · rw [set_far _ _ _ _ _ (by omega)]; exact (hb _ (by omega)).trans hN
  · rw [set_far _ _ _ _ _ (by omega)]; exact (hb _ (by omega)).trans hZ
  · exact row_heap hown fun g hg _ => set_far _ _ _ _ _ (by omega)
  · have hs := hg.size
    simp only [World.size_alloc] at hs
    refine (hB.trans ⟨hg.os, hg.tape, hg.output, by omega, fun k hk => hb k (by omega)⟩).setCell (p := ⟨w.heap.size + 2, 7, none⟩) (by show w.heap.size <= w.heap.size + 2; omega) _
theorem row_slice {W : World} {B e s n : Nat} {v : Value} {xs : List Value} (h : W.ownsRow B e s v n xs) : ∃ A c, v = .slice A n c /\ (A = none -> n = 0 /\ c = 0) := by
  rcases h.2 with ⟨rfl, rfl⟩ | ⟨g, cap, cur, rfl, _⟩
  · exact ⟨none, 0, rfl, fun _ => ⟨rfl, rfl⟩⟩
  · exact ⟨_, _, rfl, fun h => by cases h⟩
theorem rwith_p11 (a b c nn pos : Int) (nm s : ByteArray) (l R : List Fld) (ks : List Int) (FA : Option Addr) (L fc g cg : Nat) (w : World) (hg : g < w.heap.size) (HL : Hid (l.length = L)) (hL : L <= 1000000) (hfc : L <= fc /\ fc <= 9223372036854775807) (HPOS : Hid (0 < L -> ∃ b o, FA = some (⟨b, o, none⟩ : Addr) /\ b < w.heap.size /\ FldsAt w b o l))
    (HKS : Hid (∀ j z, ks[j]? = some z -> w.cell? ⟨g, j, none⟩ = some (.int .i64 z))) (HKL : Hid (ks.length = L)) (HRR : Hid (R = relab l ks)) :
    Calls Tryz.prog 147 #[.agg #[.int .i64 11, .int .i64 a, .int .i64 b, .int .i64 c, .int .i64 nn, .string nm, .string s, .slice FA L fc, .int .i64 pos], .slice (some ⟨g, 0, none⟩) L cg] w fun e w' => ∃ v, e = .returned (.agg #[.int .i64 11, .int .i64 0, .int .i64 0, .int .i64 0, .int .i64 nn, .string nm, .string s, v, .int .i64 pos]) /\ OwnF w.heap.size w' v R /\ Below w.heap.size w w' := by
  obtain ⟨i0, hi, hz0, hz1, hz2⟩ := info_parts fldInfo
  obtain ⟨W3, hW3⟩ : ∃ W3, ((w.alloc (.cells #[.int .i64 11, .int .i64 a, .int .i64 b, .int .i64 c, .int .i64 nn, .string nm, .string s, .slice FA L fc, .int .i64 pos] 37)).alloc (.cells zero9 37)).alloc (.cells #[.int .i64 11, .int .i64 0, .int .i64 0, .int .i64 0, .int .i64 nn, .string nm, .string s, .slice none 0 0, .int .i64 pos] 37) = W3 := ⟨_, rfl⟩
  have HW3 := Lib.hid hW3
  clear hW3
  go_enter Tryz.func147, Tryz.ntmps147
  go_wp2
  go_loopw [7] (fun i wr => ∃ (q : Nat) (v : Value), i = .int .i64 (q : Int) /\ q <= L /\ Hid (wr.ownsRow (w.heap.size + 3) 97 3 v q (fCells (R.take q))) /\ Hid (wr.heap[w.heap.size + 2]? = some (.cells #[.int .i64 11, .int .i64 0, .int .i64 0, .int .i64 0, .int .i64 nn, .string nm, .string s, v, .int .i64 pos] 37 (0, 0))) /\ Hid (wr.heap[w.heap.size]? = some (.cells #[.int .i64 11, .int .i64 a, .int .i64 b, .int .i64 c, .int .i64 nn, .string nm, .string s, .slice FA L fc, .int .i64 pos] 37 (0, 0))) /\ Hid (wr.heap[w.heap.size + 1]? = some (.cells zero9 37 (0, 0))) /\ Hid (Below w.heap.size w wr)) (fun i _ => L - (intOf i).toNat)
  case atStart =>
    refine ⟨0, _, rfl, by omega, Lib.hid (World.ownsRow_nil _ _ _ _), Lib.hid (newAt (by simp)), Lib.hid (nextAt (nextAt (newAt rfl))), Lib.hid (nextAt (newAt (by simp))), Lib.hid ((((Below.refl w.heap.size w).alloc (Nat.le_refl _) _).alloc (by simp) _).alloc (by simp; omega) _)⟩
  case round =>
    obtain ⟨q, v, rfl, hq, HR, HM, HN, HZ, HB⟩ := hrel
    have cN := (Blk_cell HN.out 7).trans rfl
    have hsz := (Array.getElem?_eq_some_iff.1 HM.out).1
    have cN : wr.cell? ⟨w.heap.size, 7, none⟩ = some (.slice FA L fc) := (Blk_cell HN.out 7).trans rfl
    by_cases hlt : q < L
    · obtain ⟨fb, fo, rfl, hfb, hf⟩ := HPOS.out (by omega)
      obtain ⟨fd, hfd⟩ : ∃ fd, l[q]? = some fd := ⟨_, List.getElem?_eq_getElem (by rw [HL.out]; exact hlt)⟩
      obtain ⟨kz, hkz⟩ : ∃ kz, ks[q]? = some kz := ⟨_, List.getElem?_eq_getElem (by rw [HKL.out]; exact hlt)⟩
      obtain ⟨m0, m1, m2⟩ := (hf.below HB.out hfb) q fd hfd
      have HX : Hid (fCells (R.take (q + 1)) = fCells (R.take q) ++ [.string fd.nm, .string fd.vr, .int .i64 kz]) := Lib.hid (by
        rw [HRR.out, take_snoc _ _ _ (relab_at hfd hkz), fCells_snoc])
      have zk : ∀ o1 : Obj, (wr.alloc o1).cell? ⟨g, q, none⟩ = some (.int .i64 kz) := fun o1 => (((Below.refl wr.heap.size wr).alloc (Nat.le_refl _) o1).cell (p := ⟨g, q, none⟩) (by show g < wr.heap.size; omega)).trans ((HB.out.cell (p := ⟨g, q, none⟩) hg).trans (HKS.out q kz hkz))
      clear hfd hkz hf
      obtain ⟨A, cv, rfl, hnv⟩ := row_slice HR.out
      have cM : ∀ o1 : Obj, (wr.alloc o1).cell? ⟨w.heap.size + 1 + 1, 7, none⟩ = some (.slice A q cv) := fun o1 => (((Below.refl wr.heap.size wr).alloc (Nat.le_refl _) o1).cell (p := ⟨w.heap.size + 1 + 1, 7, none⟩) (by show w.heap.size + 1 + 1 < wr.heap.size; omega)).trans ((Blk_cell HM.out 7).trans rfl)
      have HRA : Hid (∀ o1 o2 : Obj, ((wr.alloc o1).alloc o2).ownsRow (w.heap.size + 3) 97 3 (.slice A q cv) q (fCells (R.take q))) := Lib.hid fun o1 o2 => (HR.out.alloc o1).alloc o2
      go_wp2_with (at_builtin; refine wpList_append_own _ rfl _ _ 35 rfl (w.heap.size + 3) 97 i0 (.agg #[.string ⟨#[]⟩, .string ⟨#[]⟩, .int .i64 0]) 3 40 Tryz.underlying35 hi hz0 hz1 hz2 rfl (by decide) _ q _ rfl (HRA.out _ _) ⟨_, 0, none⟩ 1 1 [.string fd.nm, .string fd.vr, .int .i64 kz] rfl rfl (new_cellsT _ 97 [.string fd.nm, .string fd.vr, .int .i64 kz] _ (by simp)) (fun u hu => by simp at hu; rcases hu with rfl | rfl | rfl <;> rfl) (by unfold maxLen; omega) (by omega) (by simp; omega) ?_; intro v' w5 hown hgrow _; have HF := Lib.hid (rw_fin HR.out HM.out HN.out HZ.out HB.out hown hgrow); have c7 := (Blk_cell HF.out.1 7).trans rfl; have f7 := Blk_frozen HF.out.1 7; obtain ⟨g5, c5, rfl⟩ := ownsRow_succ hown; clear hown hgrow)
      go_roundw
      case rel =>
        refine ⟨q + 1, _, by go_num, by omega, Lib.hid ?_, Lib.hid HF.out.2.1, Lib.hid HF.out.2.2.1, Lib.hid HF.out.2.2.2.1, Lib.hid HF.out.2.2.2.2.2⟩
        rw [HX.out]; exact HF.out.2.2.2.2.1
      case measure => simp [intOf]; omega
    · obtain rfl : q = L := by omega
      obtain ⟨A, cv, rfl, hnv⟩ := row_slice HR.out
      have HRT : Hid (R.take q = R) := Lib.hid (List.take_of_length_le (by rw [HRR.out]; unfold relab; rw [List.length_zipWith]; have := HL.out; omega))
      have HRL : Hid (R.length = q) := Lib.hid (by rw [HRR.out]; unfold relab; rw [List.length_zipWith, HL.out, HKL.out]; exact Nat.min_self q)
      have HOF : Hid (OwnF (w.heap.size + 3) wr (.slice A q cv) R) := Lib.hid (by have h := HR.out; rw [HRT.out] at h; unfold OwnF; rw [HRL.out]; exact h)
      have HZZ := HZ
      obtain ⟨q0, q1, q2, q3, q4, q5, q6, q7, q8, _⟩ := cells9 HM.out
      obtain ⟨z0, z1, z2, z3, z4, z5, z6, z7, z8, zf⟩ := cells9 HZ.out
      go_wp2
      refine bodyPost_ret (v := .agg #[.int .i64 11, .int .i64 0, .int .i64 0, .int .i64 0, .int .i64 nn, .string nm, .string s, .slice A q cv, .int .i64 pos]) (res53 _ _ (w.heap.size + 1) _ _ _ _ _ _ _ _ _ rfl (put9 rfl HZZ.out _ _ _ _ _ _ _ _ _)) rfl ⟨_, rfl, ?_, ?_⟩
      · exact row_mono (row_heap HOF.out fun g hg _ => by rw [put9_far _ _ _ _ _ _ _ _ _ _ _ _ (by omega)]) (by omega)
      · have h1 := HB.out
        exact ((((((((h1.setCell (p := ⟨w.heap.size + 1, 0, none⟩) (by show w.heap.size <= w.heap.size + 1; omega) _).setCell (p := ⟨w.heap.size + 1, 1, none⟩) (by show w.heap.size <= w.heap.size + 1; omega) _).setCell (p := ⟨w.heap.size + 1, 2, none⟩) (by show w.heap.size <= w.heap.size + 1; omega) _).setCell (p := ⟨w.heap.size + 1, 3, none⟩) (by show w.heap.size <= w.heap.size + 1; omega) _).setCell (p := ⟨w.heap.size + 1, 4, none⟩) (by show w.heap.size <= w.heap.size + 1; omega) _).setCell (p := ⟨w.heap.size + 1, 5, none⟩) (by show w.heap.size <= w.heap.size + 1; omega) _).setCell (p := ⟨w.heap.size + 1, 6, none⟩) (by show w.heap.size <= w.heap.size + 1; omega) _).setCell (p := ⟨w.heap.size + 1, 7, none⟩) (by show w.heap.size <= w.heap.size + 1; omega) _).setCell (p := ⟨w.heap.size + 1, 8, none⟩) (by show w.heap.size <= w.heap.size + 1; omega) _
theorem rwith_p14 (a b c nn pos : Int) (k0 : Int) (nm s : ByteArray) (l R : List Fld) (ks : List Int) (FA : Option Addr) (L fc g cg : Nat) (w : World) (hg : g < w.heap.size) (HL : Hid (l.length = L)) (hL : L <= 1000000) (hfc : L <= fc /\ fc <= 9223372036854775807) (HPOS : Hid (0 < L -> ∃ b o, FA = some (⟨b, o, none⟩ : Addr) /\ b < w.heap.size /\ FldsAt w b o l))
    (HK0 : Hid (w.cell? ⟨g, 0, none⟩ = some (.int .i64 k0))) (HKS : Hid (∀ j z, ks[j]? = some z -> w.cell? ⟨g, 1 + j, none⟩ = some (.int .i64 z))) (HKL : Hid (ks.length = L)) (HRR : Hid (R = relab l ks)) :
    Calls Tryz.prog 147 #[.agg #[.int .i64 14, .int .i64 a, .int .i64 b, .int .i64 c, .int .i64 nn, .string nm, .string s, .slice FA L fc, .int .i64 pos], .slice (some ⟨g, 0, none⟩) (L + 1) cg] w fun e w' => ∃ v, e = .returned (.agg #[.int .i64 14, .int .i64 k0, .int .i64 0, .int .i64 0, .int .i64 nn, .string nm, .string s, v, .int .i64 pos]) /\ OwnF w.heap.size w' v R /\ Below w.heap.size w w' := by
  obtain ⟨i0, hi, hz0, hz1, hz2⟩ := info_parts fldInfo
  obtain ⟨W3, hW3⟩ : ∃ W3, ((w.alloc (.cells #[.int .i64 14, .int .i64 a, .int .i64 b, .int .i64 c, .int .i64 nn, .string nm, .string s, .slice FA L fc, .int .i64 pos] 37)).alloc (.cells zero9 37)).alloc (.cells #[.int .i64 14, .int .i64 0, .int .i64 0, .int .i64 0, .int .i64 nn, .string nm, .string s, .slice none 0 0, .int .i64 pos] 37) = W3 := ⟨_, rfl⟩
  have HW3 := Lib.hid hW3
  clear hW3
  go_enter Tryz.func147, Tryz.ntmps147
  go_wp2
  go_loopw [7] (fun i wr => ∃ (q : Nat) (v : Value), i = .int .i64 (q : Int) /\ q <= L /\ Hid (wr.ownsRow (w.heap.size + 3) 97 3 v q (fCells (R.take q))) /\ Hid (wr.heap[w.heap.size + 2]? = some (.cells #[.int .i64 14, .int .i64 0, .int .i64 0, .int .i64 0, .int .i64 nn, .string nm, .string s, v, .int .i64 pos] 37 (0, 0))) /\ Hid (wr.heap[w.heap.size]? = some (.cells #[.int .i64 14, .int .i64 a, .int .i64 b, .int .i64 c, .int .i64 nn, .string nm, .string s, .slice FA L fc, .int .i64 pos] 37 (0, 0))) /\ Hid (wr.heap[w.heap.size + 1]? = some (.cells zero9 37 (0, 0))) /\ Hid (Below w.heap.size w wr)) (fun i _ => L - (intOf i).toNat)
  case atStart =>
    refine ⟨0, _, rfl, by omega, Lib.hid (World.ownsRow_nil _ _ _ _), Lib.hid (newAt (by simp)), Lib.hid (nextAt (nextAt (newAt rfl))), Lib.hid (nextAt (newAt (by simp))), Lib.hid ((((Below.refl w.heap.size w).alloc (Nat.le_refl _) _).alloc (by simp) _).alloc (by simp; omega) _)⟩
  case round =>
    obtain ⟨q, v, rfl, hq, HR, HM, HN, HZ, HB⟩ := hrel
    have cN := (Blk_cell HN.out 7).trans rfl
    have hsz := (Array.getElem?_eq_some_iff.1 HM.out).1
    have cN : wr.cell? ⟨w.heap.size, 7, none⟩ = some (.slice FA L fc) := (Blk_cell HN.out 7).trans rfl
    by_cases hlt : q < L
    · obtain ⟨fb, fo, rfl, hfb, hf⟩ := HPOS.out (by omega)
      obtain ⟨fd, hfd⟩ : ∃ fd, l[q]? = some fd := ⟨_, List.getElem?_eq_getElem (by rw [HL.out]; exact hlt)⟩
      obtain ⟨kz, hkz⟩ : ∃ kz, ks[q]? = some kz := ⟨_, List.getElem?_eq_getElem (by rw [HKL.out]; exact hlt)⟩
      obtain ⟨m0, m1, m2⟩ := (hf.below HB.out hfb) q fd hfd
      have HX : Hid (fCells (R.take (q + 1)) = fCells (R.take q) ++ [.string fd.nm, .string fd.vr, .int .i64 kz]) := Lib.hid (by
        rw [HRR.out, take_snoc _ _ _ (relab_at hfd hkz), fCells_snoc])
      have zk : ∀ o1 : Obj, (wr.alloc o1).cell? ⟨g, 1 + q, none⟩ = some (.int .i64 kz) := fun o1 => (((Below.refl wr.heap.size wr).alloc (Nat.le_refl _) o1).cell (p := ⟨g, 1 + q, none⟩) (by show g < wr.heap.size; omega)).trans ((HB.out.cell (p := ⟨g, 1 + q, none⟩) hg).trans (HKS.out q kz hkz))
      clear hfd hkz hf
      obtain ⟨A, cv, rfl, hnv⟩ := row_slice HR.out
      have cM : ∀ o1 : Obj, (wr.alloc o1).cell? ⟨w.heap.size + 1 + 1, 7, none⟩ = some (.slice A q cv) := fun o1 => (((Below.refl wr.heap.size wr).alloc (Nat.le_refl _) o1).cell (p := ⟨w.heap.size + 1 + 1, 7, none⟩) (by show w.heap.size + 1 + 1 < wr.heap.size; omega)).trans ((Blk_cell HM.out 7).trans rfl)
      have HRA : Hid (∀ o1 o2 : Obj, ((wr.alloc o1).alloc o2).ownsRow (w.heap.size + 3) 97 3 (.slice A q cv) q (fCells (R.take q))) := Lib.hid fun o1 o2 => (HR.out.alloc o1).alloc o2
      go_wp2_with (at_builtin; refine wpList_append_own _ rfl _ _ 35 rfl (w.heap.size + 3) 97 i0 (.agg #[.string ⟨#[]⟩, .string ⟨#[]⟩, .int .i64 0]) 3 40 Tryz.underlying35 hi hz0 hz1 hz2 rfl (by decide) _ q _ rfl (HRA.out _ _) ⟨_, 0, none⟩ 1 1 [.string fd.nm, .string fd.vr, .int .i64 kz] rfl rfl (new_cellsT _ 97 [.string fd.nm, .string fd.vr, .int .i64 kz] _ (by simp)) (fun u hu => by simp at hu; rcases hu with rfl | rfl | rfl <;> rfl) (by unfold maxLen; omega) (by omega) (by simp; omega) ?_; intro v' w5 hown hgrow _; have HF := Lib.hid (rw_fin HR.out HM.out HN.out HZ.out HB.out hown hgrow); have c7 := (Blk_cell HF.out.1 7).trans rfl; have f7 := Blk_frozen HF.out.1 7; obtain ⟨g5, c5, rfl⟩ := ownsRow_succ hown; clear hown hgrow)
      go_roundw
      case rel =>
        refine ⟨q + 1, _, by go_num, by omega, Lib.hid ?_, Lib.hid HF.out.2.1, Lib.hid HF.out.2.2.1, Lib.hid HF.out.2.2.2.1, Lib.hid HF.out.2.2.2.2.2⟩
        rw [HX.out]; exact HF.out.2.2.2.2.1
      case measure => simp [intOf]; omega
    · obtain rfl : q = L := by omega
      obtain ⟨A, cv, rfl, hnv⟩ := row_slice HR.out
      have HRT : Hid (R.take q = R) := Lib.hid (List.take_of_length_le (by rw [HRR.out]; unfold relab; rw [List.length_zipWith]; have := HL.out; omega))
      have HRL : Hid (R.length = q) := Lib.hid (by rw [HRR.out]; unfold relab; rw [List.length_zipWith, HL.out, HKL.out]; exact Nat.min_self q)
      have HOF : Hid (OwnF (w.heap.size + 3) wr (.slice A q cv) R) := Lib.hid (by have h := HR.out; rw [HRT.out] at h; unfold OwnF; rw [HRL.out]; exact h)
      have hM2 := blk_put (j := 1) (v := .int .i64 k0) HM.out
      have hZ2 : (wr.setCell ⟨w.heap.size + 2, 1, none⟩ (.int .i64 k0)).heap[w.heap.size + 1]? = some (.cells zero9 37 (0, 0)) := (set_far _ _ _ _ _ (by omega)).trans HZ.out
      have HZZ := Lib.hid hZ2
      have z1' := (Blk_cell HM.out 1).trans rfl
      have f1' := Blk_frozen HM.out 1
      have zk : wr.cell? ⟨g, 0, none⟩ = some (.int .i64 k0) := (HB.out.cell (p := ⟨g, 0, none⟩) hg).trans HK0.out
      obtain ⟨q0, q1, q2, q3, q4, q5, q6, q7, q8, _⟩ := cells9 hM2
      obtain ⟨z0, z1, z2, z3, z4, z5, z6, z7, z8, zf⟩ := cells9 hZ2
      clear hM2 hZ2
      go_wp2
      refine bodyPost_ret (v := .agg #[.int .i64 14, .int .i64 k0, .int .i64 0, .int .i64 0, .int .i64 nn, .string nm, .string s, .slice A q cv, .int .i64 pos]) (res53 _ _ (w.heap.size + 1) _ _ _ _ _ _ _ _ _ rfl (put9 rfl HZZ.out _ _ _ _ _ _ _ _ _)) rfl ⟨_, rfl, ?_, ?_⟩
      · exact row_mono (row_heap HOF.out fun g hg _ => by rw [put9_far _ _ _ _ _ _ _ _ _ _ _ _ (by omega), set_far _ _ _ _ _ (by omega)]) (by omega)
      · have h1 := HB.out.setCell (p := ⟨w.heap.size + 2, 1, none⟩) (by show w.heap.size <= w.heap.size + 2; omega) (.int .i64 k0)
        exact ((((((((h1.setCell (p := ⟨w.heap.size + 1, 0, none⟩) (by show w.heap.size <= w.heap.size + 1; omega) _).setCell (p := ⟨w.heap.size + 1, 1, none⟩) (by show w.heap.size <= w.heap.size + 1; omega) _).setCell (p := ⟨w.heap.size + 1, 2, none⟩) (by show w.heap.size <= w.heap.size + 1; omega) _).setCell (p := ⟨w.heap.size + 1, 3, none⟩) (by show w.heap.size <= w.heap.size + 1; omega) _).setCell (p := ⟨w.heap.size + 1, 4, none⟩) (by show w.heap.size <= w.heap.size + 1; omega) _).setCell (p := ⟨w.heap.size + 1, 5, none⟩) (by show w.heap.size <= w.heap.size + 1; omega) _).setCell (p := ⟨w.heap.size + 1, 6, none⟩) (by show w.heap.size <= w.heap.size + 1; omega) _).setCell (p := ⟨w.heap.size + 1, 7, none⟩) (by show w.heap.size <= w.heap.size + 1; omega) _).setCell (p := ⟨w.heap.size + 1, 8, none⟩) (by show w.heap.size <= w.heap.size + 1; omega) _
theorem rwith_any (x : Nd) (fv : Value) (ks : List Int) (g cg n : Nat) (w : World) (hn : ks.length = n) (hF : Flds w.heap.size w fv x.l) (hL : x.l.length <= 1000000) (hk : ks.length = (kids x).length) (hr : Rw w g ks) :
    Calls Tryz.prog 147 #[.agg (ndArr x fv), .slice (some ⟨g, 0, none⟩) n cg] w (RWPost (wk x ks) w) := by
  subst hn
  have hlen : ks.length = own x + (if many x = true then x.l.length else 0) := by
    rw [hk, kids, List.length_append, own]
    split <;> simp
  obtain ⟨FA, fc, rfl, hfc, hnil, hpos⟩ := hF
  obtain ⟨hrow, hg⟩ := hr
  by_cases h11 : x.kind = 11
  · have hown : own x = 0 := by simp [own, kids0, h11]
    have hm : many x = true := by simp [many, h11]
    rw [hm, if_pos rfl, hown, Nat.zero_add] at hlen
    have hwk : wk x ks = { x with a := 0, b := 0, c := 0, l := relab x.l ks } := by simp [wk, hown, hm]
    rw [hlen, hwk]
    obtain ⟨k, a, b, c, nn, nm, s, l, pos⟩ := x
    cases h11
    refine (rwith_p11 a b c nn pos nm s l (relab l ks) ks FA l.length fc g cg w hg (Lib.hid rfl) hL hfc (Lib.hid hpos) (Lib.hid hrow) (Lib.hid hlen) (Lib.hid rfl)).mono ?_
    rintro e w' ⟨v, rfl, h1, h2⟩
    exact ⟨v, rfl, h1, h2⟩
  · by_cases h14 : x.kind = 14
    · have hown : own x = 1 := by simp [own, kids0, h14]
      have hm : many x = true := by simp [many, h14]
      rw [hm, if_pos rfl, hown] at hlen
      have hwk : wk x ks = { x with a := ks.getD 0 0, b := 0, c := 0, l := relab x.l (ks.drop 1) } := by simp [wk, hown, hm]
      rw [hlen, hwk, Nat.add_comm]
      obtain ⟨k0, ks', rfl⟩ : ∃ k0 ks', ks = k0 :: ks' := by
        cases ks with
        | nil => exact absurd hlen (by simp only [List.length_nil]; omega)
        | cons k0 ks' => exact ⟨k0, ks', rfl⟩
      obtain ⟨k, a, b, c, nn, nm, s, l, pos⟩ := x
      cases h14
      refine (rwith_p14 a b c nn pos k0 nm s l (relab l ks') ks' FA l.length fc g cg w hg (Lib.hid rfl) hL hfc (Lib.hid hpos) (Lib.hid (hrow 0 k0 rfl)) (Lib.hid fun j z hz => hrow (1 + j) z (by rw [Nat.add_comm]; exact hz)) (Lib.hid (by simp at hlen; omega)) (Lib.hid rfl)).mono ?_
      rintro e w' ⟨v, rfl, h1, h2⟩
      exact ⟨v, rfl, h1, h2⟩
    · have hm : many x = false := by simp [many, h11, h14]
      have e11 : (x.kind == 11) = false := by simpa using h11
      have e14 : (x.kind == 14) = false := by simpa using h14
      rw [hm] at hlen
      simp only [Bool.false_eq_true, if_false, Nat.add_zero] at hlen
      have hwk : wk x ks = { x with a := if 0 < own x then ks.getD 0 0 else 0, b := if 1 < own x then ks.getD 1 0 else 0, c := if 2 < own x then ks.getD 2 0 else 0, l := [] } := by simp [wk, hm]
      rw [hwk]
      rw [<- hlen]
      obtain ⟨k, a, b, c, nn, nm, s, l, pos⟩ := x
      have hle : ks.length <= 3 := by
        rw [hlen]; simp only [own, kids0]
        repeat' split
        all_goals simp
      simp only at e11 e14
      match ks, hle with
      | [], _ => refine (rwith_n0 k a b c nn pos nm s FA _ fc e11 e14 g cg w hg).mono ?_; rintro e w' ⟨rfl, h2⟩; exact ⟨_, rfl, World.ownsRow_nil _ _ _ _, h2⟩
      | [p], _ => refine (rwith_n1 k a b c nn pos p nm s FA _ fc e11 e14 g cg w hg (Lib.hid (hrow 0 p rfl))).mono ?_; rintro e w' ⟨rfl, h2⟩; exact ⟨_, rfl, World.ownsRow_nil _ _ _ _, h2⟩
      | [p, q], _ => refine (rwith_n2 k a b c nn pos p q nm s FA _ fc e11 e14 g cg w hg (Lib.hid (hrow 0 p rfl)) (Lib.hid (hrow 1 q rfl))).mono ?_; rintro e w' ⟨rfl, h2⟩; exact ⟨_, rfl, World.ownsRow_nil _ _ _ _, h2⟩
      | [p, q, r], _ => refine (rwith_n3 k a b c nn pos p q r nm s FA _ fc e11 e14 g cg w hg (Lib.hid (hrow 0 p rfl)) (Lib.hid (hrow 1 q rfl)) (Lib.hid (hrow 2 r rfl))).mono ?_; rintro e w' ⟨rfl, h2⟩; exact ⟨_, rfl, World.ownsRow_nil _ _ _ _, h2⟩
      | _ :: _ :: _ :: _ :: _, h => exact absurd h (by simp only [List.length_cons]; omega)
open Go.RowKit Go.Shelf
theorem cps_len {l : List Nd} : ∀ (ks : List Int) (p : List Nd × List Int), (∀ k ∈ ks, ∀ out : List Nd, (cp l k.toNat out).length = out.length + (post l k.toNat).length) -> (cps l p ks).1.length = p.1.length + (ks.flatMap fun k => post l k.toNat).length /\ (cps l p ks).2.length = p.2.length + ks.length := by
  intro ks
  induction ks using snocInd with
  | h0 => intro p _; simp [cps]
  | h1 ks k ih =>
    intro p h
    obtain ⟨h1, h2⟩ := ih p fun m hm => h m (by simp [hm])
    rw [cps_snoc]
    simp only
    rw [h k (by simp), h1]
    refine ⟨?_, ?_⟩
    · simp [List.flatMap_append]; omega
    · simp [h2]; omega
theorem cp_len {l : List Nd} (hk : kidsOk l) : ∀ i, i < l.length -> ∀ out : List Nd, (cp l i out).length = out.length + (post l i).length := by
  intro i
  induction i using Nat.strongRecOn with
  | ind i ih =>
    intro hi out
    have hx := List.getElem?_eq_getElem hi
    have ha := hk _ _ hx
    rw [cp_eq hx ha, post_eq hx ha, List.length_append, List.length_append]
    rw [(cps_len (kids l[i]) (out, []) fun k hk1 out' => ih k.toNat (toNat_lt (ha k hk1)) (by have := toNat_lt (ha k hk1); omega) out').1]
    simp
    omega
theorem ne_none (v : Value) : v.ownBlock = none ∨ v.ownBlock ≠ none := by cases v.ownBlock with | none => exact .inl rfl | some g => exact .inr (by simp)
theorem grown_alloc (W : World) (o : Obj) : W.grownBy (W.alloc o) none := ⟨rfl, rfl, rfl, by simp, fun _ hk _ => Below.heap_alloc _ _ _ hk⟩
theorem grown_of {W W' : World} (h : Below W.heap.size W W') : W.grownBy W' none := ⟨h.os, h.tape, h.output, h.size, fun k hk _ => h.block k hk⟩
def Kp (B : Nat) (w w' : World) : Prop := Below B w w' /\ ∀ (k : Nat) (cs : Array Value) (t : TypeId) (fr : Nat × Nat), w.heap[k]? = some (.cells cs t fr) -> t ≠ 37 -> w'.heap[k]? = some (.cells cs t fr)
theorem Kp.refl (B : Nat) (w : World) : Kp B w w := ⟨Below.refl _ _, fun _ _ _ _ h _ => h⟩
theorem Kp.trans {B : Nat} {a b c : World} (h : Kp B a b) (k : Kp B b c) : Kp B a c := ⟨h.1.trans k.1, fun i cs t fr hi ht => k.2 i cs t fr (h.2 i cs t fr hi ht) ht⟩
theorem Kp.of {B : Nat} {w w' : World} (h : Below w.heap.size w w') (hB : B <= w.heap.size) : Kp B w w' := ⟨h.mono hB, fun k _ _ _ hk _ => (h.block k (Array.getElem?_eq_some_iff.1 hk).1).trans hk⟩
theorem Kp.alloc (B : Nat) (w : World) (o : Obj) (hB : B <= w.heap.size) : Kp B w (w.alloc o) := Kp.of ((Below.refl _ w).alloc (Nat.le_refl _) o) hB
theorem Kp.grown {B B2 n : Nat} {w w' : World} {v : Value} {xs : List Value} (h : w.ownsRow B2 37 9 v n xs) (hB : B <= B2) (hw : B <= w.heap.size) (hg : w.grownBy w' v.ownBlock) : Kp B w w' :=
  ⟨⟨hg.os, hg.tape, hg.output, hg.size, fun k hk => hg.block k (by omega) (fun e => by have := (h.lt k e.symm).1; omega)⟩, fun k cs t fr hk ht => (hg.block k (Array.getElem?_eq_some_iff.1 hk).1 (fun e => by
    obtain ⟨_, cur, hcur⟩ := own27 h k e.symm
    rw [hcur] at hk
    simp at hk
    exact ht hk.2.1.symm)).trans hk⟩
theorem row_kp {B B1 e s n : Nat} {w w' : World} {v : Value} {xs : List Value} (h : w.ownsRow B1 e s v n xs) (he : e ≠ 37) (hk : Kp B w w') : w'.ownsRow B1 e s v n xs := by
  refine ⟨h.1, ?_⟩
  rcases h.2 with h0 | ⟨g, cap, cur, h1, h2, h3, h4⟩
  · exact .inl h0
  · exact .inr ⟨g, cap, cur, h1, h2, hk.2 _ _ _ _ h3 he, h4⟩
theorem ownN_kept3 {w w' : World} {B B2 n2 : Nat} {v v2 : Value} {ps : List (Nd × Value)} {x2 : List Value} (h : OwnN B w v ps) (h2 : w.ownsRow B2 3 1 v2 n2 x2) (hg : w.grownBy w' v2.ownBlock) : OwnN B w' v ps :=
  ⟨h.1.kept hg (rows_ne h.1 h2 (by decide)), fun x hx => (h.2 x hx).kept hg (rows_ne (h.2 x hx) h2 (by decide))⟩
theorem ownN_grow {w w' : World} {B : Nat} {v : Value} {ps : List (Nd × Value)} (h : OwnN B w v ps) (hg : w.grownBy w' none) : OwnN B w' v ps :=
  ⟨h.1.kept hg (ne_none _), fun x hx => (h.2 x hx).kept hg (ne_none _)⟩
def CpPost (N : List Nd) (B : Nat) (w : World) (e : Ending) (w' : World) : Prop := ∃ v' ps', e = .returned v' /\ ps'.map Prod.fst = N /\ OwnN B w' v' ps' /\ Kp B w w'
def CSt (N : List Nd) (J : List Int) (K : List Int) (B BK : Nat) (w W : World) (v' u : Value) (gk KL ck q : Nat) (bx : Value) : Prop :=
  (∃ ps, ps.map Prod.fst = N /\ OwnN B W v' ps) /\ W.ownsRow BK 3 1 u q (J.map (Value.int .i64)) /\ Kp B w W /\
    W.ownsRow w.heap.size 3 1 (.slice (some ⟨gk, 0, none⟩) KL ck) KL (K.map (Value.int .i64)) /\ gk < BK /\ W.heap[w.heap.size]? = some (.cells #[bx] 25 (0, 0)) /\ w.heap.size < BK /\ BK <= W.heap.size /\ B <= w.heap.size
section
variable {N N' : List Nd} {J K : List Int} {B BK : Nat} {w W W' : World} {v' v2 u u' : Value} {gk KL ck q : Nat} {bx : Value}
theorem CSt.drew (h : CSt N J K B BK w W v' u gk KL ck q bx) : CSt N J K B BK w W.drew v' u gk KL ck q bx := by
  have hb : Below W.heap.size W W.drew := (Below.refl W.heap.size W).drew
  have hg := grown_of hb
  obtain ⟨⟨ps, a0, a1⟩, a2, a3, a5, a6, a7, a8, a9, a10⟩ := h
  exact ⟨⟨ps, a0, ownN_grow a1 hg⟩, a2.kept hg (ne_none _), a3.trans (Kp.of hb (by omega)), a5.kept hg (ne_none _), a6, a7, a8, a9, a10⟩
theorem CSt.box (h : CSt N J K B BK w W v' u gk KL ck q bx) : W.cell? ⟨w.heap.size, 0, none⟩ = some bx := (Blk_cell h.2.2.2.2.2.1 0).trans rfl
theorem CSt.at (h : CSt N J K B BK w W v' u gk KL ck q bx) {j : Nat} {z : Int} (hz : K[j]? = some z) : W.cell? ⟨gk, j, none⟩ = some (.int .i64 z) := by
  have := World.ownsRow.cells h.2.2.2.1 (g := gk) rfl j (.int .i64 z) (by simp [hz])
  rw [Addr.add_lit, Nat.zero_add] at this
  exact this
theorem CSt.call (h : CSt N J K B BK w W v' u gk KL ck q bx) {ps' : List (Nd × Value)} (h1 : ps'.map Prod.fst = N') (h2 : OwnN B W' v2 ps') (h3 : Kp B W W') : CSt N' J K B BK w W' v2 u gk KL ck q bx := by
  obtain ⟨⟨ps, _, a1⟩, a2, a3, a5, a6, a7, a8, a9, a10⟩ := h
  exact ⟨⟨ps', h1, h2⟩, row_kp a2 (by decide) h3, a3.trans h3, row_kp a5 (by decide) h3, a6, h3.2 _ _ _ _ a7 (by decide), a8, Nat.le_trans a9 h3.1.size, a10⟩
theorem CSt.app (h : CSt N J K B BK w W v' u gk KL ck q bx) {z : Int} {o : Obj} (h1 : W'.ownsRow BK 3 1 u' (q + 1) (J.map (Value.int .i64) ++ [.int .i64 z])) (h2 : (W.alloc o).grownBy W' u.ownBlock) : CSt N (J ++ [z]) K B BK w W' v' u' gk KL ck (q + 1) bx := by
  obtain ⟨⟨ps, a0, a1⟩, a2, a3, a5, a6, a7, a8, a9, a10⟩ := h
  have hu := a2.lt
  have hs := h2.size
  simp only [World.size_alloc] at hs
  have hbl : ∀ k, k < BK -> W'.heap[k]? = W.heap[k]? := fun k hk => (h2.block k (by simp; omega) (fun e => by have := (hu k e.symm).1; omega)).trans (Below.heap_alloc _ _ _ (by omega))
  refine ⟨⟨ps, a0, ownN_kept3 (ownN_grow a1 (grown_alloc W o)) (a2.alloc o) h2⟩, by rw [List.map_append]; exact h1, ⟨⟨h2.os.trans a3.1.os, h2.tape.trans a3.1.tape, h2.output.trans a3.1.output, by have := a3.1.size; omega, fun k hk => (hbl k (by omega)).trans (a3.1.block k hk)⟩, fun k cs t fr hk ht => (hbl k (by have := (Array.getElem?_eq_some_iff.1 hk).1; omega)).trans (a3.2 k cs t fr hk ht)⟩, ?_, a6, (hbl _ (by omega)).trans a7, a8, by omega, a10⟩
  refine (a5.alloc o).kept h2 (.inr ?_)
  intro e
  have := (hu gk e.symm).1
  omega
theorem CSt.fin (h : CSt N J K B BK w W v' u gk KL ck q bx) {ps : List (Nd × Value)} {y : Nd} {vy v7 : Value} {W6 W7 : World} {n : Nat} {o : Obj} (hp : ps.map Prod.fst = N) (ho : OwnN B W v' ps) (hn : ps.length = n) (hf : OwnF W.heap.size W6 vy y.l) (hb : Below W.heap.size W W6)
    (h7 : W7.ownsRow B 37 9 v7 (n + 1) (nCells ps ++ (ndArr y vy).toList)) (hg : (W6.alloc o).grownBy W7 v'.ownBlock) : CpPost (N ++ [y]) B w (.returned v7) W7 := by
  obtain ⟨_, a2, a3, a5, a6, a7, a8, a9, a10⟩ := h
  have hBW : B <= W.heap.size := by omega
  have hg6 := grown_of hb
  have h6 := ownN_grow (ownN_grow ho hg6) (grown_alloc W6 o)
  have k7 : Kp B (W6.alloc o) W7 := Kp.grown h6.1 (Nat.le_refl _) (by simp; have := hb.size; omega) hg
  subst hn
  refine ⟨v7, ps ++ [(y, vy)], rfl, by rw [List.map_append, hp]; rfl, ⟨by rw [nCells_snoc, List.length_append]; exact h7, fun x hx => ?_⟩, (a3.trans (Kp.of hb hBW)).trans ((Kp.alloc B W6 o (by have := hb.size; omega)).trans k7)⟩
  rcases List.mem_append.1 hx with hx | hx
  · exact row_kp (h6.2 x hx) (by decide) k7
  · obtain rfl : x = (y, vy) := by simpa using hx
    exact row_mono (row_kp (World.ownsRow.alloc hf o) (by decide) k7) hBW
end
open Go.RowKit Go.Shelf
def sh (f : Nat) (m : Nd) : Nd := wk m ((kids m).map (· + (f : Int)))
def jstep (p : List Nd × List Int) (e : List Nd) : List Nd × List Int := (p.1 ++ e.map (sh p.1.length), p.2 ++ [((p.1.length + e.length : Nat) : Int) - 1])
def jn (ll : List (List Nd)) : List Nd × List Int := ll.foldl jstep ([], [])
theorem jn_snoc (ll : List (List Nd)) (e : List Nd) : jn (ll ++ [e]) = jstep (jn ll) e := by simp [jn]
theorem jn_len : ∀ ll : List (List Nd), (jn ll).1.length = (ll.map List.length).sum /\ (jn ll).2.length = ll.length := by
  intro ll
  induction ll using snocInd with
  | h0 => exact ⟨rfl, rfl⟩
  | h1 ll e ih =>
    rw [jn_snoc]
    refine ⟨?_, ?_⟩
    · simp [jstep, ih.1]
    · simp [jstep, ih.2]
def joinN (x : Nd) (ll : List (List Nd)) : List Nd := (jn ll).1 ++ [wk x (jn ll).2]
def Exprs (B : Nat) (W : World) (v : Value) (ll : List (List Nd)) : Prop :=
  ∃ A c, v = .slice A ll.length c /\ ll.length <= c /\ (A = none -> c = 0) /\ (0 < ll.length -> ∃ b o, A = some ⟨b, o, none⟩ /\ b < B /\ ∀ j e, ll[j]? = some e -> ∃ Ae ce, W.cell? ⟨b, o + j, none⟩ = some (.slice Ae e.length ce) /\ Nodes B W (.slice Ae e.length ce) e)
theorem Exprs.below {B : Nat} {W W' : World} {v : Value} {ll : List (List Nd)} (h : Exprs B W v ll) (hb : Below B W W') : Exprs B W' v ll := by
  obtain ⟨A, c, h1, h2, h3, h4⟩ := h
  refine ⟨A, c, h1, h2, h3, fun h0 => ?_⟩
  obtain ⟨b, o, e1, e2, e3⟩ := h4 h0
  refine ⟨b, o, e1, e2, fun j e he => ?_⟩
  obtain ⟨Ae, ce, c1, c2⟩ := e3 j e he
  exact ⟨Ae, ce, (hb.cell (p := ⟨b, o + j, none⟩) e2).trans c1, c2.below hb⟩
theorem Exprs.mono {B B' : Nat} {W : World} {v : Value} {ll : List (List Nd)} (h : Exprs B W v ll) (hB : B <= B') : Exprs B' W v ll := by
  obtain ⟨A, c, h1, h2, h3, h4⟩ := h
  refine ⟨A, c, h1, h2, h3, fun h0 => ?_⟩
  obtain ⟨b, o, e1, e2, e3⟩ := h4 h0
  exact ⟨b, o, e1, by omega, fun j e he => by obtain ⟨Ae, ce, c1, c2⟩ := e3 j e he; exact ⟨Ae, ce, c1, c2.mono hB⟩⟩
def JSt (N : List Nd) (J : List Int) (cx : Array Value) (w W : World) (v u : Value) (q : Nat) : Prop :=
  (∃ ps, ps.map Prod.fst = N /\ OwnN (w.heap.size + 3) W v ps) /\ W.ownsRow (w.heap.size + 3) 3 1 u q (J.map (Value.int .i64)) /\ W.heap[w.heap.size]? = some (.cells cx 37 (0, 0)) /\ W.heap[w.heap.size + 1]? = some (.cells #[.slice none 0 0] 25 (0, 0)) /\ W.heap[w.heap.size + 2]? = some (.cells #[v] 25 (0, 0)) /\ Below w.heap.size w W
section
variable {N : List Nd} {J : List Int} {cx : Array Value} {w W W' : World} {v v2 u u2 : Value} {q : Nat}
theorem JSt.size (h : JSt N J cx w W v u q) : w.heap.size + 3 <= W.heap.size := (Array.getElem?_eq_some_iff.1 h.2.2.2.2.1).1
end
open Go.RowKit Go.ChangeShapes Go.WideShapes Go.ChangeAt Go.ChangeMaps Go.Deep Go.Joins
def Num (y : Nd) : Prop := -9223372036854775808 <= y.n /\ y.n <= 9223372036854775807
section
variable {H : Type} {enc : TypeId × Value -> H} {w : World} {base : Nat} {spare : Nat -> Bool} {held : Bool}
theorem num_nd {n : Nat} {cs : List Value} {x : DataW H × List MemPlace} (h : DataW.trod enc Tryz.prog w base spare held n 37 cs = some x) : ∃ i : Int, cs[4]? = some (.int .i64 i) /\ -9223372036854775808 <= i /\ i <= 9223372036854775807 := by
  obtain ⟨ys, n', _, hx, hlen, hyl, hf⟩ := DataW.trod_struct Tryz.underlying37 h
  rw [c27] at hlen
  obtain ⟨v4, y4, e4, _, t4⟩ := one_field (t := 2) (j := 4) (N := 9) c2 hlen hyl (by omega) (hf 4 _ rfl)
  obtain ⟨i4, h4, _, hw⟩ := DataW.trod_int Tryz.underlying2 t4
  simp only [List.cons.injEq, and_true] at h4
  subst h4
  simp [Lit.wf, IntKind.min, IntKind.max, IntKind.signed, IntKind.bits] at hw
  exact ⟨i4, e4, hw.1, by omega⟩
theorem num_nodes {fuel : Nat} {v : Value} {x : DataW H × List MemPlace} (h : DataW.trod enc Tryz.prog w base spare held fuel 23 [v] = some x) {B : Nat} {l : List Nd} (hn : Nodes B w v l) : ∀ y ∈ l, Num y := fun y hy => by
  obtain ⟨i, hi⟩ := List.getElem?_of_mem hy
  have hil : i < l.length := (List.getElem?_eq_some_iff.1 hi).1
  obtain ⟨A, c, hv, _, _, h3⟩ := hn
  obtain ⟨b, o, rfl, _, hnd⟩ := h3 (by omega)
  rcases open_slice Tryz.underlying23 h with ⟨hcs, _⟩ | ⟨a, len, cap, m, n, D, Pl, hcs, _, hl, hcm, hmm, hx, hI⟩
  · simp at hcs; rw [hv] at hcs; cases hcs
  · simp at hcs
    rw [hv] at hcs
    injection hcs with e1 e2 e3
    injection e1 with e1
    have hlm : len <= m := by rw [hmm]; split <;> omega
    obtain ⟨cs', hc, ht⟩ := hI i (by omega)
    rw [c27] at hc
    obtain ⟨z, hz, hz1, hz2⟩ := num_nd ht
    obtain ⟨_, _, hat⟩ := World.cells?_some hc
    have := hat 4 (by omega)
    rw [add_add, <- e1, add_plain, hz] at this
    obtain ⟨_, _, _, _, _, _, m4, _⟩ := hnd i y hi
    rw [show o + i * 9 + 4 = o + (i * 9 + 4) by omega, this] at m4
    injection m4 with m4
    injection m4 with _ m4
    exact ⟨by omega, by omega⟩
theorem num_expr {u : Value} {d : DataW H} {p : List MemPlace} (h : DataW.Trod enc Tryz.prog w base spare held 25 (.agg #[u]) d p) {B : Nat} {l : List Nd} (hn : Nodes B w u l) : ∀ y ∈ l, Num y := by
  obtain ⟨fuel, hf⟩ := h
  obtain ⟨ys, n', _, hx, hlen, hyl, hff⟩ := DataW.trod_struct Tryz.underlying25 hf
  rw [c24] at hlen
  obtain ⟨v0, y0, e0, z0, t0⟩ := one_field (t := 23) (j := 0) (N := 1) c22 hlen hyl (by omega) (hff 0 _ rfl)
  obtain rfl : u = v0 := by simpa [Value.cells] using e0
  exact num_nodes t0 hn
end
theorem num_few {l : List Nd} (h : ∀ x ∈ l, Num x) : ∀ x ∈ few l, Num x := fun x hx => by
  obtain ⟨y, hy, rfl⟩ := List.mem_map.1 hx
  exact h y (List.mem_of_mem_take hy)
open Go.RowKit Go.Shelf
theorem copy_len {l : List Nd} (hk : kidsOk l) {i : Nat} {x : Nd} (hx : l[i]? = some x) (N0 : List Nd) (h : N0.length + (post l i).length <= 1000000) :
    (∀ (q m : Nat), (kids x)[q]? = some (m : Int) -> (cps l (N0, []) ((kids x).take q)).1.length + (post l m).length <= 1000000) /\ (cps l (N0, []) (kids x)).1.length + 1 <= 1000000 /\ ∀ q, q <= (kids x).length -> (cps l (N0, []) ((kids x).take q)).2.length = q := by
  have ha := hk _ _ hx
  have hi := lt_of_some hx
  have hc : ∀ k ∈ kids x, ∀ out : List Nd, (cp l k.toNat out).length = out.length + (post l k.toNat).length := fun k hk1 out => cp_len hk k.toNat (by have := toNat_lt (ha k hk1); omega) out
  rw [post_eq hx ha, List.length_append] at h
  simp only [List.length_singleton] at h
  refine ⟨fun q m hm => ?_, ?_, fun q hq => ?_⟩
  · rw [(cps_len _ _ fun k hk1 => hc k (List.mem_of_mem_take hk1)).1]
    have hsum : ((kids x).flatMap fun k => post l k.toNat).length = (((kids x).take q).flatMap fun k => post l k.toNat).length + (post l m).length + (((kids x).drop (q + 1)).flatMap fun k => post l k.toNat).length := by
      conv => lhs; rw [<- List.take_append_drop (q + 1) (kids x), take_snoc _ _ _ hm]
      simp [List.flatMap_append]
      omega
    simp only at *
    omega
  · rw [(cps_len _ _ hc).1]
    simp only at *
    omega
  · rw [(cps_len _ _ fun k hk1 => hc k (List.mem_of_mem_take hk1)).2]
    simp; omega
def NC (W : World) (b o : Nat) (x : Nd) (v : Value) : Prop := W.cell? ⟨b, o, none⟩ = some (.int .i64 x.kind) /\ W.cell? ⟨b, o + 1, none⟩ = some (.int .i64 x.a) /\ W.cell? ⟨b, o + 2, none⟩ = some (.int .i64 x.b) /\ W.cell? ⟨b, o + 3, none⟩ = some (.int .i64 x.c) /\ W.cell? ⟨b, o + 4, none⟩ = some (.int .i64 x.n) /\
  W.cell? ⟨b, o + 5, none⟩ = some (.string x.nm) /\ W.cell? ⟨b, o + 6, none⟩ = some (.string x.s) /\ W.cell? ⟨b, o + 7, none⟩ = some v /\ W.cell? ⟨b, o + 8, none⟩ = some (.int .i64 x.pos)
theorem NC.below {B : Nat} {W W' : World} {b o : Nat} {x : Nd} {v : Value} (h : NC W b o x v) (hb : Below B W W') (hlt : b < B) : NC W' b o x v := by
  have e : ∀ k, W'.cell? ⟨b, k, none⟩ = W.cell? ⟨b, k, none⟩ := fun k => hb.cell (p := ⟨b, k, none⟩) hlt
  obtain ⟨h0, h1, h2, h3, h4, h5, h6, h7, h8⟩ := h
  exact ⟨(e _).trans h0, (e _).trans h1, (e _).trans h2, (e _).trans h3, (e _).trans h4, (e _).trans h5, (e _).trans h6, (e _).trans h7, (e _).trans h8⟩
theorem CSt.start {B : Nat} {w w1 : World} {v : Value} {ps : List (Nd × Value)} {K : List Int} {g c : Nat} {bx : Value} (hB : B <= w.heap.size) (hO : OwnN B w v ps) (hi : Ints (w.heap.size + 1) w1 (.slice (some ⟨g, 0, none⟩) K.length c) K) (hb : Below (w.heap.size + 1) (w.alloc (.cells #[bx] 25)) w1) :
    CSt (ps.map Prod.fst) [] K B w1.heap.size w (w1.alloc (.cells #[] 3)) v (.slice (some ⟨w1.heap.size, 0, none⟩) 0 0) g K.length c 0 bx := by
  have hs := hb.size
  simp only [World.size_alloc] at hs
  have hgl := hi.lt g rfl
  have hb1 : Below (w.alloc (.cells #[bx] 25)).heap.size (w.alloc (.cells #[bx] 25)) w1 := by simpa using hb
  have k1 : Kp B w w1 := (Kp.alloc B w _ hB).trans (Kp.of hb1 (by simp; omega))
  refine ⟨⟨ps, rfl, ownN_grow (ownN_grow (ownN_grow hO (grown_alloc w _)) (grown_of hb1)) (grown_alloc _ _)⟩, World.ownsRow_made _ _ _ (Nat.le_refl _) (by decide) rfl, k1.trans (Kp.alloc B w1 _ (by omega)), row_mono (hi.alloc _) (by omega), hgl.2, ?_, by omega, by simp, hB⟩
  exact nextAt ((hb.block _ (by omega)).trans (newAt rfl))
theorem copyOf_any (l : List Nd) (L c b o B : Nat) (HL : Hid (l.length = L)) (_hL : L <= 100000) (HKO : Hid (kidsOk l)) (HLL : Hid (∀ x ∈ l, x.l.length <= 1000000)) (hbB : b < B) :
    ∀ i, i < L -> ∀ (w : World) (v : Value) (ps : List (Nd × Value)), B <= w.heap.size -> NdsAt B w b o l -> OwnN B w v ps -> ps.length + (post l i).length <= 1000000 ->
      Calls Tryz.prog 115 #[.agg #[.slice (some ⟨b, o, none⟩) L c], .int .i64 (i : Int), v] w (CpPost (cp l i (ps.map Prod.fst)) B w) := by
  intro i
  induction i using Nat.strongRecOn with
  | ind i ih =>
    intro hi w v ps hB hN hO hlen
    have HN := Lib.hid hN
    obtain ⟨x, hx⟩ : ∃ x, l[i]? = some x := ⟨_, List.getElem?_eq_getElem (by rw [HL.out]; exact hi)⟩
    have ha := HKO.out i x hx
    obtain ⟨fv, hfl, hnc⟩ := HN.out i x hx
    have HFL := Lib.hid hfl
    have HNC : Hid (NC w b (o + i * 9) x fv) := Lib.hid hnc
    obtain ⟨FA, fc, rfl, _⟩ := hfl
    obtain ⟨VA, vc, rfl⟩ := own_slice hO
    obtain ⟨hb1, hb2, hb3⟩ := copy_len HKO.out hx (ps.map Prod.fst) (by rw [List.length_map]; exact hlen)
    have HCP : Hid (cp l i (ps.map Prod.fst) = (cps l (ps.map Prod.fst, []) (kids x)).1 ++ [wk x (cps l (ps.map Prod.fst, []) (kids x)).2]) := Lib.hid (cp_eq hx ha _)
    have HWI : Hid (∀ (w1 : World) (ks : List Int) (g cg n : Nat), Below B w w1 -> ks.length = n -> ks.length = (kids x).length -> Rw w1 g ks -> Calls Tryz.prog 147 #[.agg (ndArr x (.slice FA x.l.length fc)), .slice (some ⟨g, 0, none⟩) n cg] w1 (RWPost (wk x ks) w1)) := Lib.hid fun w1 ks g cg n hb hn hk hr => rwith_any x _ ks g cg n w1 hn ((HFL.out.below hb).mono (by have := hb.size; omega)) (HLL.out x (List.mem_of_getElem? hx)) hk hr
    have HKD : Hid (Calls Tryz.prog 42 #[.agg (ndArr x (.slice FA x.l.length fc))] (w.alloc (.cells #[.slice (some ⟨b, o, none⟩) L c] 25)) (KidsPost (kids x) (w.heap.size + 1) (w.alloc (.cells #[.slice (some ⟨b, o, none⟩) L c] 25)))) := Lib.hid (kids_any x _ _ (by simp) ((HFL.out.below ((Below.refl B w).alloc hB _)).mono (by simp; omega)) (HLL.out x (List.mem_of_getElem? hx)))
    have hkl : (kids x).length <= 1000003 := by have := kids_len x; have := HLL.out x (List.mem_of_getElem? hx); omega
    obtain ⟨N0, hN0⟩ : ∃ N0, ps.map Prod.fst = N0 := ⟨_, rfl⟩
    have HO := Lib.hid hO
    have HN0 := Lib.hid hN0
    rw [hN0] at HCP hb1 hb2 hb3 ⊢
    obtain ⟨K, hK⟩ : ∃ K, kids x = K := ⟨_, rfl⟩
    rw [hK] at HKD HCP HWI hb1 hb2 hb3 hkl
    have HAH : Hid (∀ m ∈ K, 0 <= m /\ m < (i : Int)) := Lib.hid (by rw [<- hK]; exact ha)
    have HB1 := Lib.hid hb1
    have HB3 := Lib.hid hb3
    obtain ⟨KL, hKL⟩ : ∃ KL, K.length = KL := ⟨_, rfl⟩
    have HKL := Lib.hid hKL
    rw [hKL] at hkl
    have HKE : Hid (Calls Tryz.prog 42 #[.agg (ndArr x (.slice FA x.l.length fc))] (w.alloc (.cells #[.slice (some ⟨b, o, none⟩) L c] 25)) fun e w1 => ∃ g c1, e = .returned (.slice (some ⟨g, 0, none⟩) KL c1) /\ Ints (w.heap.size + 1) w1 (.slice (some ⟨g, 0, none⟩) K.length c1) K /\ Below (w.heap.size + 1) (w.alloc (.cells #[.slice (some ⟨b, o, none⟩) L c] 25)) w1) := Lib.hid (HKD.out.mono (by rintro e w1 ⟨g, c1, rfl, h⟩; exact ⟨g, c1, by rw [hKL], h⟩))
    have HIH : Hid (∀ m, m < i -> ∀ (w1 : World) (v1 : Value) (N1 : List Nd), Below B w w1 -> (∃ ps1, ps1.map Prod.fst = N1 /\ OwnN B w1 v1 ps1) -> N1.length + (post l m).length <= 1000000 -> Calls Tryz.prog 115 #[.agg #[.slice (some ⟨b, o, none⟩) L c], .int .i64 (m : Int), v1] w1 (CpPost (cp l m N1) B w1)) := Lib.hid fun m hm w1 v1 N1 hb ⟨ps1, hp, ho⟩ hl => by
      subst hp
      exact ih m hm (by omega) w1 v1 ps1 (Nat.le_trans hB hb.size) (HN.out.below hb hbB) ho (by rw [List.length_map] at hl; exact hl)
    obtain ⟨i0, hi0, hz0, hz1, hz2⟩ := info_parts intInfo
    obtain ⟨j0, hj0, hy0, hy1, hy2⟩ := info_parts ndInfo
    have mm : ∀ o1 : Obj, NC (w.alloc o1) b (o + i * 9) x (.slice FA x.l.length fc) := fun o1 => HNC.out.below ((Below.refl w.heap.size w).alloc (Nat.le_refl _) o1) (by omega)
    have m0 := fun o1 => (mm o1).1
    have m1 := fun o1 => (mm o1).2.1
    have m2 := fun o1 => (mm o1).2.2.1
    have m3 := fun o1 => (mm o1).2.2.2.1
    have m4 := fun o1 => (mm o1).2.2.2.2.1
    have m5 := fun o1 => (mm o1).2.2.2.2.2.1
    have m6 := fun o1 => (mm o1).2.2.2.2.2.2.1
    have m7 := fun o1 => (mm o1).2.2.2.2.2.2.2.1
    have m8 := fun o1 => (mm o1).2.2.2.2.2.2.2.2
    clear ih hx ha hK hb1 hb3 hN mm hN0 hO hKL hnc
    go_enter Tryz.func115, Tryz.ntmps115
    go_wp2_with (go_at_call 42; refine HKE.out.mono ?_; rintro e w1 ⟨g1, c1, rfl, hi1, hb1⟩; have HI1 := Lib.hid hi1; have HBW := Lib.hid hb1; clear hi1 hb1)
    go_loopw [2, 8, 9] (fun out kd j wr => ∃ q gu cu : Nat, kd = .slice (some ⟨gu, 0, none⟩) q cu /\ j = .int .i64 (q : Int) /\ q <= KL /\ Hid (CSt (cps l (N0, []) (K.take q)).1 (cps l (N0, []) (K.take q)).2 K B w1.heap.size w wr out (.slice (some ⟨gu, 0, none⟩) q cu) g1 KL c1 q (.slice (some ⟨b, o, none⟩) L c))) (fun _ _ j _ => KL - (intOf j).toNat)
    case atStart =>
      refine ⟨0, _, _, rfl, rfl, by omega, Lib.hid ?_⟩
      have h := CSt.start hB HO.out HI1.out HBW.out
      rw [HKL.out, HN0.out] at h
      exact h
    case round =>
      obtain ⟨q, gu, cu, rfl, rfl, hq, HS⟩ := hrel
      have cb := HS.out.box
      have HBB : Hid (Below B w wr) := Lib.hid HS.out.2.2.1.1
      have hsw := HS.out.2.2.2.2.2.2.1
      have hsr := HS.out.2.2.2.2.2.2.2.1
      obtain ⟨ps1, hp1, ho1⟩ := HS.out.1
      obtain ⟨A1, k1, rfl⟩ := own_slice ho1
      by_cases hlt : q < KL
      · obtain ⟨kz, hkz⟩ : ∃ kz, K[q]? = some kz := ⟨_, List.getElem?_eq_getElem (by rw [HKL.out]; exact hlt)⟩
        obtain ⟨m, rfl⟩ : ∃ m : Nat, kz = (m : Int) := ⟨kz.toNat, by have := HAH.out kz (List.mem_of_getElem? hkz); omega⟩
        have hmi : m < i := by have := HAH.out _ (List.mem_of_getElem? hkz); omega
        have ck : wr.cell? ⟨g1, q, none⟩ = some (.int .i64 (m : Int)) := HS.out.at hkz
        have HC := Lib.hid (HIH.out m hmi wr.drew _ _ HBB.out.drew ⟨ps1, hp1, ownN_grow ho1 (grown_of (Below.refl wr.heap.size wr).drew)⟩ (HB1.out q m hkz))
        have hlen5 := cp_len HKO.out m (by have := HL.out; omega) (cps l (N0, []) (K.take q)).1
        have hb5 := HB1.out q m hkz
        obtain ⟨n5, hn5⟩ : ∃ n5, (cp l m (cps l (N0, []) (K.take q)).1).length = n5 := ⟨_, rfl⟩
        have hn6 : n5 <= 1000000 := by omega
        have HSN : Hid (cps l (N0, []) (K.take (q + 1)) = (cp l m (cps l (N0, []) (K.take q)).1, (cps l (N0, []) (K.take q)).2 ++ [(n5 : Int) - 1])) := Lib.hid (by rw [take_snoc K q _ hkz, cps_snoc]; simp only [Int.toNat_natCast]; rw [hn5])
        have HN5 := Lib.hid hn5
        clear hkz hlen5 hb5 hn5 hp1
        go_wp2_with fail
        go_region_with (go_at_call 115; refine HC.out.mono ?_; rintro e w5 ⟨v5, ps5, rfl, hp5, ho5, hg5⟩; obtain ⟨A5, k5, rfl⟩ : ∃ A5 k5, v5 = .slice A5 n5 k5 := (own_slice_len ho5 hp5 rfl HN5.out); have HS5 := Lib.hid (HS.out.drew.call hp5 ho5 hg5); have hsr5 := HS5.out.2.2.2.2.2.2.2.1; clear hp5 ho5 hg5)
        all_goals
          go_wp2_with (at_builtin; refine wpList_append_own _ rfl _ _ 74 rfl w1.heap.size 3 i0 (.int .i64 0) 1 8 Tryz.underlying74 hi0 hz0 hz1 hz2 rfl (by decide) _ q _ rfl (HS5.out.2.1.alloc _) ⟨w5.heap.size, 0, none⟩ 1 1 [.int .i64 ((n5 : Int) - 1)] rfl rfl (new1 w5 3 _) (fun u hu => by rw [List.mem_singleton.1 hu]; rfl) (by unfold maxLen; omega) (by omega) (by simp; omega) ?_; intro v6 w6 hown6 hgrow6 _; obtain ⟨g6, c6, rfl⟩ := ownsRow_succ hown6; have HS6 := Lib.hid (HS5.out.app hown6 hgrow6); clear hown6 hgrow6)
          go_roundw
          case rel =>
            refine ⟨q + 1, _, _, rfl, by go_num, by omega, Lib.hid ?_⟩
            rw [HSN.out]; exact HS6.out
          case measure => simp [intOf]; omega
      · obtain rfl : q = KL := by omega
        have htk : K.take q = K := List.take_of_length_le (by rw [HKL.out]; exact Nat.le_refl _)
        have hjl := HB3.out q (by rw [HKL.out]; exact Nat.le_refl _)
        rw [htk] at HS hp1 hjl
        have hpl : ps1.length <= 999999 := by have := congrArg List.length hp1; rw [List.length_map] at this; omega
        have hRK : Rw wr gu (cps l (N0, []) K).2 := by
          have h := HS.out.2.1
          have hi2 : Ints w1.heap.size wr (.slice (some ⟨gu, 0, none⟩) (cps l (N0, []) K).2.length cu) (cps l (N0, []) K).2 := by unfold Ints; rw [hjl]; exact h
          exact Rw.of hi2
        have HCW := Lib.hid (HWI.out wr (cps l (N0, []) K).2 gu cu q HBB.out hjl (by rw [hjl]; exact HKL.out.symm) hRK)
        obtain ⟨n0, n1', n2, n3, n4, n5, n6, n7, n8⟩ := HNC.out.below HBB.out hbB
        have HP1 := Lib.hid hp1
        have HO1 := Lib.hid ho1
        obtain ⟨y, hy⟩ : ∃ y, wk x (cps l (N0, []) K).2 = y := ⟨_, rfl⟩
        rw [hy] at HCW HCP
        clear hp1 ho1 hRK hjl htk hy
        have HCX : Hid (Calls Tryz.prog 147 #[.agg #[.int .i64 x.kind, .int .i64 x.a, .int .i64 x.b, .int .i64 x.c, .int .i64 x.n, .string x.nm, .string x.s, .slice FA x.l.length fc, .int .i64 x.pos], .slice (some ⟨gu, 0, none⟩) q cu] wr fun e w6 => ∃ Ay ny ky, e = .returned (.agg #[.int .i64 y.kind, .int .i64 y.a, .int .i64 y.b, .int .i64 y.c, .int .i64 y.n, .string y.nm, .string y.s, .slice Ay ny ky, .int .i64 y.pos]) /\ OwnF wr.heap.size w6 (.slice Ay ny ky) y.l /\ Below wr.heap.size wr w6) := Lib.hid (by
          refine Calls.mono HCW.out ?_
          rintro e w6 ⟨vy, rfl, hf6, hb6⟩
          obtain ⟨Ay, ky, rfl, _⟩ := row_slice hf6
          exact ⟨Ay, _, ky, rfl, hf6, hb6⟩)
        clear HCW
        go_wp2_with (first | (go_at_call 147; refine HCX.out.mono ?_; rintro e w6 ⟨Ay, ny, ky, rfl, hf6, hb6⟩; have HF6 := Lib.hid hf6; have HB6 := Lib.hid hb6; have HR6 := Lib.hid ((ownN_grow HO1.out (grown_of hb6)).1.alloc (.cells (ndArr y (.slice Ay ny ky)) 37)); have HC6 := Lib.hid (new_cellsT w6 37 (ndArr y (.slice Ay ny ky)).toList w6.heap.size rfl); have hs6 := hb6.size; clear hf6 hb6) | (at_builtin; refine wpList_append_own _ rfl _ _ 23 rfl B 37 j0 (.agg #[.int .i64 0, .int .i64 0, .int .i64 0, .int .i64 0, .int .i64 0, .string ⟨#[]⟩, .string ⟨#[]⟩, .slice none 0 0, .int .i64 0]) 9 104 Tryz.underlying23 hj0 hy0 hy1 hy2 rfl (by decide) _ ps1.length _ rfl HR6.out ⟨w6.heap.size, 0, none⟩ 1 1 ((ndArr y (.slice Ay ny ky)).toList) rfl rfl HC6.out (nd_one _ _ _ _) (by unfold maxLen; omega) (by omega) (by simp; omega) ?_; intro v7 w7 hown7 hgrow7 _; obtain ⟨g7, c7, rfl⟩ := ownsRow_succ hown7; have HE7 := Lib.hid (HS.out.fin HP1.out HO1.out rfl HF6.out HB6.out hown7 hgrow7); clear hown7 hgrow7))
        go_ret
        rw [HCP.out]
        exact HE7.out
open Go.RowKit Go.Shelf
def NPost (N : List Nd) (w : World) (e : Ending) (w' : World) : Prop := ∃ A c ps, e = .returned (.agg #[.slice A N.length c]) /\ ps.map Prod.fst = N /\ OwnN w.heap.size w' (.slice A N.length c) ps /\ Below w.heap.size w w'
theorem NPost.nodes {N : List Nd} {w : World} {f : Nat} {args : Array Value} (h : Calls Tryz.prog f args w (NPost N w)) : Calls Tryz.prog f args w fun e w' => ∃ A c, e = .returned (.agg #[.slice A N.length c]) /\ Nodes w'.heap.size w' (.slice A N.length c) N /\ Below w.heap.size w w' := by
  refine Calls.mono h ?_
  rintro e w' ⟨A, c, ps, rfl, hp, ho, hb⟩
  have hn := own_nodes ho
  rw [hp] at hn
  exact ⟨A, c, rfl, hn, hb⟩
theorem res26 (tmps : Array Value) (W : World) (p : Nat) (A : Option Addr) (n c : Nat) (h2 : tmps[4]?.getD undef = .pointer (some ⟨p, 0, none⟩)) (hb : W.cell? ⟨p, 0, none⟩ = some (.slice A n c)) :
    Sem.run Tryz.prog (results Tryz.f77 tmps) W = .ok (.agg #[.slice A n c]) W := by
  simp [results, Tryz.results77, go_sem, h2, hb]
theorem res25 (tmps : Array Value) (W : World) (p : Nat) (A : Option Addr) (n c : Nat) (h2 : tmps[2]?.getD undef = .pointer (some ⟨p, 0, none⟩)) (hb : W.cell? ⟨p, 0, none⟩ = some (.slice A n c)) :
    Sem.run Tryz.prog (results Tryz.f43 tmps) W = .ok (.agg #[.slice A n c]) W := by
  simp [results, Tryz.results43, go_sem, h2, hb]
theorem ownN_low {B B' : Nat} {W : World} {v : Value} {ps : List (Nd × Value)} (h : OwnN B' W v ps) (hB : B <= B') : OwnN B W v ps := ⟨row_mono h.1 hB, fun x hx => row_mono (h.2 x hx) hB⟩
theorem rsub_any (l N : List Nd) (A : Option Addr) (c : Nat) (i : Nat) (hN : cp l i [] = N) (hm : may l = 0) (hi : i < l.length) (w : World) (hv : Nodes w.heap.size w (.slice A l.length c) l) (HS : ∀ x ∈ l, Small x) :
    Calls Tryz.prog 77 #[.agg #[.slice A l.length c], .int .i64 (i : Int)] w (NPost N w) := by
  obtain ⟨h1, h6⟩ := may_big hm
  have hf := (may_zero hm).2.1
  have hk : kidsOk l := hf.2.1
  have hn : (allKids l).Nodup := hf.2.2.1.1
  have hpl := post_len hk hn hi
  obtain ⟨A', c', e, hc, _, hq⟩ := hv
  cases e
  obtain ⟨b, o, rfl, hb, hnd⟩ := hq (by omega)
  obtain ⟨L, hL⟩ : ∃ L, l.length = L := ⟨_, rfl⟩
  obtain ⟨W2, hW2⟩ : ∃ W2, (w.alloc (.cells #[.slice (some ⟨b, o, none⟩) L c] 25)).alloc (.cells #[.slice none 0 0] 25) = W2 := ⟨_, rfl⟩
  have hB2 : Below w.heap.size w W2 := by rw [<- hW2]; exact ((Below.refl _ w).alloc (Nat.le_refl _) _).alloc (by simp) _
  have hs2 : W2.heap.size = w.heap.size + 2 := by rw [<- hW2]; simp
  have hc2 : W2.heap[w.heap.size + 1]? = some (.cells #[.slice none 0 0] 25 (0, 0)) := by rw [<- hW2]; exact newAt (by simp)
  have hnd2 : NdsAt W2.heap.size W2 b o l := (NdsAt.below hnd hB2 hb).mono hB2.size
  have HC := Lib.hid (copyOf_any l L c b o W2.heap.size (Lib.hid hL) (by omega) (Lib.hid hk) (Lib.hid fun x hx => (HS x hx).2.2.1) (by omega) i (by omega) W2 (.slice none 0 0) [] (Nat.le_refl _) hnd2 (ownN_nil _ _) (by simp; omega))
  have HB2 := Lib.hid hB2
  have HS2 := Lib.hid hs2
  have HC2 := Lib.hid hc2
  rw [List.map_nil, hN] at HC
  rw [hL]
  rw [<- hW2] at HC HC2 HB2 HS2
  clear hW2 hB2 hs2 hc2 hnd2 hnd hN hq hk hn hf
  go_enter Tryz.func77, Tryz.ntmps77
  go_wp2_with (go_at_call 115; refine HC.out.mono ?_; rintro e w1 ⟨v1, ps, rfl, hps, hown, hkp⟩; obtain ⟨A1, k1, rfl⟩ := own_slice_len hown hps rfl rfl; have hx1 := (hkp.1.block (w.heap.size + 1) (by simp)).trans HC2.out; have f1 := Blk_frozen hx1 0; have c1 : w1.cell? ⟨w.heap.size + 1, 0, none⟩ = some (.slice none 0 0) := (Blk_cell hx1 0).trans rfl; have HX1 := Lib.hid hx1; have HO1 := Lib.hid hown; have HP1 := Lib.hid hps; have HK1 := Lib.hid hkp; clear hx1 hown hps hkp)
  have hx := blk_put (j := 0) (v := .slice A1 N.length k1) HX1.out
  refine bodyPost_ret (v := .agg #[.slice A1 N.length k1]) (res26 _ _ (w.heap.size + 1) A1 N.length k1 rfl ((Blk_cell hx 0).trans rfl)) rfl ⟨_, _, ps, rfl, HP1.out, ?_, ?_⟩
  · have h := ownN_heap (W' := w1.setCell ⟨w.heap.size + 1, 0, none⟩ (.slice A1 N.length k1)) HO1.out (fun g hg _ => set_far _ _ _ _ _ (by simp at hg; omega))
    exact ownN_low h (by simp; omega)
  · exact (HB2.out.trans (HK1.out.1.mono (by simp; omega))).setCell (p := ⟨w.heap.size + 1, 0, none⟩) (by show w.heap.size <= w.heap.size + 1; omega) _
theorem rnorm_any (l N : List Nd) (A : Option Addr) (c : Nat) (hN : nrm l = N) (hm : may l = 0) (w : World) (hv : Nodes w.heap.size w (.slice A l.length c) l) (HS : ∀ x ∈ l, Small x) :
    Calls Tryz.prog 43 #[.agg #[.slice A l.length c]] w (NPost N w) := by
  obtain ⟨h1, h6⟩ := may_big hm
  obtain ⟨W2, hW2⟩ : ∃ W2, (w.alloc (.cells #[.slice A l.length c] 25)).alloc (.cells #[.slice none 0 0] 25) = W2 := ⟨_, rfl⟩
  have hB2 : Below w.heap.size w W2 := by rw [<- hW2]; exact ((Below.refl _ w).alloc (Nat.le_refl _) _).alloc (by simp) _
  have hs2 : W2.heap.size = w.heap.size + 2 := by rw [<- hW2]; simp
  have hc2 : W2.heap[w.heap.size + 1]? = some (.cells #[.slice none 0 0] 25 (0, 0)) := by rw [<- hW2]; exact newAt (by simp)
  have hcall := rsub_any l N A c (l.length - 1) (by rw [<- hN, nrm, if_pos hm]) hm (by omega) W2 ((hv.below hB2).mono hB2.size) HS
  rw [show ((l.length - 1 : Nat) : Int) = (l.length : Int) - 1 by omega] at hcall
  have HC := Lib.hid hcall
  have HB2 := Lib.hid hB2
  have HC2 := Lib.hid hc2
  rw [<- hW2] at HC HC2 HB2
  clear hcall hW2 hB2 hs2 hc2 hN hv HS
  go_enter Tryz.func43, Tryz.ntmps43
  go_wp2_with (go_at_call 77; refine HC.out.mono ?_; rintro e w1 ⟨A1, k1, ps, rfl, hps, hn1, hb1⟩; have HP1 := Lib.hid hps; have hx1 := (hb1.block (w.heap.size + 1) (by simp)).trans HC2.out; have f1 := Blk_frozen hx1 0; have c1 : w1.cell? ⟨w.heap.size + 1, 0, none⟩ = some (.slice none 0 0) := (Blk_cell hx1 0).trans rfl; have HX1 := Lib.hid hx1; have HN1 := Lib.hid hn1; have HB1 := Lib.hid hb1; clear hx1 hn1 hb1 hps)
  have hx := blk_put (j := 0) (v := .slice A1 N.length k1) HX1.out
  refine bodyPost_ret (v := .agg #[.slice A1 N.length k1]) (res25 _ _ (w.heap.size + 1) A1 N.length k1 rfl ((Blk_cell hx 0).trans rfl)) rfl ⟨_, _, ps, rfl, HP1.out, ?_, ?_⟩
  · have h := ownN_heap (W' := w1.setCell ⟨w.heap.size + 1, 0, none⟩ (.slice A1 N.length k1)) HN1.out (fun g hg _ => set_far _ _ _ _ _ (by simp at hg; omega))
    exact ownN_low h (by simp; omega)
  · exact (HB2.out.trans (HB1.out.mono (by simp; omega))).setCell (p := ⟨w.heap.size + 1, 0, none⟩) (by show w.heap.size <= w.heap.size + 1; omega) _
theorem rlist_pos (l m : List Nd) (L c1 c2 : Nat) (A C : Option Addr) (HL : Hid (l.length = L)) (HM : Hid (m.length = L)) (hL : L <= 1000000) (w : World) (HP : Hid (0 < L -> ∃ b1 o1 b2 o2, A = some (⟨b1, o1, none⟩ : Addr) /\ C = some (⟨b2, o2, none⟩ : Addr) /\ b1 < w.heap.size /\ b2 < w.heap.size /\ NdsAt w.heap.size w b1 o1 l /\ NdsAt w.heap.size w b2 o2 m)) (HS1 : Hid (∀ x ∈ l, x.l.length <= 1000000)) :
    Calls Tryz.prog 33 #[.agg #[.slice A L c1], .agg #[.slice C L c2]] w fun e w' => e = .returned (.bool (lns l m)) /\ Below w.heap.size w w' := by
  obtain ⟨W2, hW2⟩ : ∃ W2, (w.alloc (.cells #[.slice A L c1] 25)).alloc (.cells #[.slice C L c2] 25) = W2 := ⟨_, rfl⟩
  have HB2 : Hid (Below w.heap.size w W2) := Lib.hid (by rw [<- hW2]; exact ((Below.refl _ w).alloc (Nat.le_refl _) _).alloc (by simp) _)
  have HX0 : Hid (W2.heap[w.heap.size]? = some (.cells #[.slice A L c1] 25 (0, 0))) := Lib.hid (by rw [<- hW2]; exact nextAt (newAt rfl))
  have HY0 : Hid (W2.heap[w.heap.size + 1]? = some (.cells #[.slice C L c2] 25 (0, 0))) := Lib.hid (by rw [<- hW2]; exact newAt (by simp))
  have HW2 := Lib.hid hW2
  have hs2 : W2.heap.size = w.heap.size + 2 := by rw [<- hW2]; simp
  clear hW2
  go_enter Tryz.func33, Tryz.ntmps33
  go_wp2
  go_loopw [5] (fun i wr => ∃ q : Nat, i = .int .i64 (q : Int) /\ q <= L /\ Hid (∀ (j : Nat) (x y : Nd), j < q -> l[j]? = some x -> m[j]? = some y -> sn x y = true) /\ Hid (Below W2.heap.size W2 wr)) (fun i _ => L - (intOf i).toNat)
  case atStart => exact ⟨0, rfl, Nat.zero_le _, Lib.hid (fun j f g h => absurd h (by omega)), Lib.hid (by rw [HW2.out]; exact Below.refl _ _)⟩
  case round =>
    obtain ⟨q, rfl, hq, HA, HB⟩ := hrel
    have hsz := HB.out.size
    have hx0 := (HB.out.block w.heap.size (by omega)).trans HX0.out
    have hy0 := (HB.out.block (w.heap.size + 1) (by omega)).trans HY0.out
    have cx : wr.cell? ⟨w.heap.size, 0, none⟩ = some (.slice A L c1) := (Blk_cell hx0 0).trans rfl
    have cy : wr.cell? ⟨w.heap.size + 1, 0, none⟩ = some (.slice C L c2) := (Blk_cell hy0 0).trans rfl
    have HBW : Hid (Below w.heap.size w wr) := Lib.hid (HB2.out.trans (HB.out.mono (by omega)))
    clear hx0 hy0
    by_cases hlt : q < L
    · obtain ⟨b1, o1, b2, o2, rfl, rfl, hb1, hb2, hf1, hf2⟩ := HP.out (by omega)
      obtain ⟨x, hx⟩ : ∃ x, l[q]? = some x := ⟨_, List.getElem?_eq_getElem (by rw [HL.out]; exact hlt)⟩
      obtain ⟨y, hy⟩ : ∃ y, m[q]? = some y := ⟨_, List.getElem?_eq_getElem (by rw [HM.out]; exact hlt)⟩
      obtain ⟨fv, hfl, m0, m1, m2, m3, m4, m5, m6, m7, m8⟩ := (hf1.below HBW.out hb1) q x hx
      obtain ⟨gv, hgl, n0, n1, n2, n3, n4, n5, n6, n7, n8⟩ := (hf2.below HBW.out hb2) q y hy
      have HE : Hid (∀ w1, Below wr.heap.size wr w1 -> Calls Tryz.prog 59 #[.agg (ndArr x fv), .agg (ndArr y gv)] w1 fun e w' => e = .returned (.bool (sn x y)) /\ Below w1.heap.size w1 w') := Lib.hid fun w1 hb => rsn_any x y fv gv w1 (((hfl.mono (by omega)).below hb).mono hb.size) (((hgl.mono (by omega)).below hb).mono hb.size) (HS1.out x (List.mem_of_getElem? hx))
      obtain ⟨FA, fc, rfl, _⟩ := hfl
      obtain ⟨GA, gc, rfl, _⟩ := hgl
      have HX := Lib.hid hx
      have HY := Lib.hid hy
      obtain ⟨t, ht⟩ : ∃ t, sn x y = t := ⟨_, rfl⟩
      rw [ht] at HE
      have HT := Lib.hid ht
      clear hx hy ht hf1 hf2
      cases t with
      | false =>
        go_wp2_with fail
        go_region_with (go_at_call 59; refine (HE.out _ (Below.refl _ _).drew).mono ?_; rintro e w1 ⟨rfl, hb⟩; have HBB := Lib.hid (Below.trans (Below.refl wr.heap.size wr).drew hb); clear hb)
        all_goals
          go_wp2
          go_ret
          exact ⟨ret_b (lns_no HX.out HY.out HT.out).symm, HBW.out.trans (HBB.out.mono (by omega))⟩
      | true =>
        go_wp2_with fail
        go_region_with (go_at_call 59; refine (HE.out _ (Below.refl _ _).drew).mono ?_; rintro e w1 ⟨rfl, hb⟩; have HBB := Lib.hid (Below.trans (Below.refl wr.heap.size wr).drew hb); clear hb)
        all_goals
          go_wp2
          go_roundw
          case rel =>
            refine ⟨q + 1, by go_num, by omega, Lib.hid ?_, Lib.hid (HB.out.trans (HBB.out.mono hsz))⟩
            intro j f' g' hj hf' hg'
            by_cases e : j = q
            · subst e
              rw [HX.out] at hf'; rw [HY.out] at hg'
              injection hf' with hf'; injection hg' with hg'
              subst hf' hg'; exact HT.out
            · exact HA.out j f' g' (by omega) hf' hg'
          case measure => simp [intOf]; omega
    · obtain rfl : q = L := by omega
      have HR : Hid (lns l m = true) := Lib.hid (lns_yes (fun j f g h1 h2 => HA.out j f g (by have := lt_of_some h1; rw [HL.out] at this; exact this) h1 h2) (by rw [HL.out, HM.out]))
      go_wp2
      go_ret
      exact ⟨ret_b HR.out.symm, HBW.out⟩
theorem rlist_len (L M c1 c2 : Nat) (A C : Option Addr) (hne : ¬ L = M) (w : World) :
    Calls Tryz.prog 33 #[.agg #[.slice A L c1], .agg #[.slice C M c2]] w fun e w' => e = .returned (.bool false) /\ Below w.heap.size w w' := by
  have hb : ((L : Int) != (M : Int)) = true := by simpa using (by omega : ¬ (L : Int) = (M : Int))
  go_enter Tryz.func33, Tryz.ntmps33
  go_wp2
  go_ret
  exact ⟨rfl, ((Below.refl _ w).alloc (Nat.le_refl _) _).alloc (by simp) _⟩
theorem rlist_any (l m : List Nd) (v u : Value) (w : World) (hv : Nodes w.heap.size w v l) (hu : Nodes w.heap.size w u m) (hL : l.length <= 1000000) (hS1 : ∀ x ∈ l, x.l.length <= 1000000) :
    Calls Tryz.prog 33 #[.agg #[v], .agg #[u]] w fun e w' => e = .returned (.bool (ln l m)) /\ Below w.heap.size w w' := by
  obtain ⟨A, c1, rfl, _, _, hq⟩ := hv
  obtain ⟨C, c2, rfl, _, _, hr⟩ := hu
  by_cases he : l.length = m.length
  · have hb : ln l m = lns l m := by rw [ln, he]; simp
    rw [hb, <- he]
    refine rlist_pos l m _ c1 c2 A C (Lib.hid rfl) (Lib.hid he.symm) hL w (Lib.hid fun h => ?_) (Lib.hid hS1)
    obtain ⟨b1, o1, rfl, hb1, h1⟩ := hq h
    obtain ⟨b2, o2, rfl, hb2, h2⟩ := hr (by omega)
    exact ⟨b1, o1, b2, o2, rfl, rfl, hb1, hb2, h1, h2⟩
  · have hb : ln l m = false := by rw [ln]; simp [he]
    rw [hb]
    exact rlist_len _ _ c1 c2 A C he w
end Go.Proofs.YtjakeidbajkdcaaGreatDoor.T
namespace Go.Proofs.YtjakeidbajkdcaaGreatDoor.S
open T Go.RowKit
def tight (k n : Int) : Int := if k = 5 ∨ k = 7 ∨ k = 8 ∨ k = 9 then 0 else if k = 10 then (if n = 5 ∨ n = 6 then 1 else if n = 3 ∨ n = 4 then 3 else 2) else if k = 13 then 4 else if k = 6 then 5 else if k = 12 then 6 else 7
def sgn (n : Int) : ByteArray := if n = 1 then ⟨#[43]⟩ else if n = 2 then ⟨#[45]⟩ else if n = 3 then ⟨#[42]⟩ else if n = 4 then ⟨#[47]⟩ else if n = 5 then ⟨#[60]⟩ else if n = 6 then ⟨#[61, 61]⟩ else if n = 7 then ⟨#[94]⟩ else ⟨#[]⟩
theorem eqt {a b : Int} (h : a = b) : (a == b) = true := by simpa using h
theorem eqf {a b : Int} (h : a ≠ b) : (a == b) = false := by simpa using h
section
variable {w : World}
theorem ptight_is (n t : Int) (ht : (if n = 5 ∨ n = 6 then 1 else if n = 3 ∨ n = 4 then 3 else 2) = t) (w : World) : Calls Tryz.prog 40 #[.int .i64 n] w fun e w' => e = .returned (.int .i64 t) /\ w = w' := by
  by_cases h5 : n = 5
  · have e5 := eqt h5
    obtain rfl : t = 1 := by rw [<- ht, if_pos (.inl h5)]
    clear h5 ht
    go_enter Tryz.func40, Tryz.ntmps40
    go_wp2
    go_ret
    exact ⟨rfl, rfl⟩
  have e5 := eqf h5
  by_cases h6 : n = 6
  · have e6 := eqt h6
    obtain rfl : t = 1 := by rw [<- ht, if_pos (.inr h6)]
    clear h5 h6 ht
    go_enter Tryz.func40, Tryz.ntmps40
    go_wp2
    go_ret
    exact ⟨rfl, rfl⟩
  have e6 := eqf h6
  rw [if_neg (by omega)] at ht
  by_cases h3 : n = 3
  · have e3 := eqt h3
    obtain rfl : t = 3 := by rw [<- ht, if_pos (.inl h3)]
    clear h5 h6 h3 ht
    go_enter Tryz.func40, Tryz.ntmps40
    go_wp2
    go_ret
    exact ⟨rfl, rfl⟩
  have e3 := eqf h3
  by_cases h4 : n = 4
  · have e4 := eqt h4
    obtain rfl : t = 3 := by rw [<- ht, if_pos (.inr h4)]
    clear h5 h6 h3 h4 ht
    go_enter Tryz.func40, Tryz.ntmps40
    go_wp2
    go_ret
    exact ⟨rfl, rfl⟩
  have e4 := eqf h4
  obtain rfl : t = 2 := by rw [<- ht, if_neg (by omega)]
  clear h5 h6 h3 h4 ht
  go_enter Tryz.func40, Tryz.ntmps40
  go_wp2
  go_ret
  exact ⟨rfl, rfl⟩
end
open T Go.RowKit
theorem tight_is (k a b c n pos : Int) (nm s : ByteArray) (v : Value) (t : Int) (ht : tight k n = t) (w : World) : Calls Tryz.prog 17 #[.agg #[.int .i64 k, .int .i64 a, .int .i64 b, .int .i64 c, .int .i64 n, .string nm, .string s, v, .int .i64 pos]] w fun e w' => e = .returned (.int .i64 t) /\ Below w.heap.size w w' := by
  have HB := Lib.hid ((Below.refl _ w).alloc (Nat.le_refl _) (.cells #[.int .i64 k, .int .i64 a, .int .i64 b, .int .i64 c, .int .i64 n, .string nm, .string s, v, .int .i64 pos] 37))
  by_cases h5 : k = 5
  · subst h5
    obtain rfl : t = 0 := by rw [<- ht]; rfl
    clear ht
    go_enter Tryz.func17, Tryz.ntmps17
    go_wp2
    go_ret
    exact ⟨rfl, HB.out⟩
  by_cases h7 : k = 7
  · subst h7
    obtain rfl : t = 0 := by rw [<- ht]; rfl
    clear ht
    go_enter Tryz.func17, Tryz.ntmps17
    go_wp2
    go_ret
    exact ⟨rfl, HB.out⟩
  by_cases h8 : k = 8
  · subst h8
    obtain rfl : t = 0 := by rw [<- ht]; rfl
    clear ht
    go_enter Tryz.func17, Tryz.ntmps17
    go_wp2
    go_ret
    exact ⟨rfl, HB.out⟩
  by_cases h9 : k = 9
  · subst h9
    obtain rfl : t = 0 := by rw [<- ht]; rfl
    clear ht
    go_enter Tryz.func17, Tryz.ntmps17
    go_wp2
    go_ret
    exact ⟨rfl, HB.out⟩
  by_cases h13 : k = 13
  · subst h13
    obtain rfl : t = 4 := by rw [<- ht]; rfl
    clear ht
    go_enter Tryz.func17, Tryz.ntmps17
    go_wp2
    go_ret
    exact ⟨rfl, HB.out⟩
  by_cases h6 : k = 6
  · subst h6
    obtain rfl : t = 5 := by rw [<- ht]; rfl
    clear ht
    go_enter Tryz.func17, Tryz.ntmps17
    go_wp2
    go_ret
    exact ⟨rfl, HB.out⟩
  by_cases h12 : k = 12
  · subst h12
    obtain rfl : t = 6 := by rw [<- ht]; rfl
    clear ht
    go_enter Tryz.func17, Tryz.ntmps17
    go_wp2
    go_ret
    exact ⟨rfl, HB.out⟩
  by_cases h10 : k = 10
  · subst h10
    have ht2 : (if n = 5 ∨ n = 6 then 1 else if n = 3 ∨ n = 4 then 3 else 2) = t := by rw [<- ht]; rfl
    have HP := Lib.hid (ptight_is n t ht2)
    clear ht ht2 h5 h7 h8 h9 h13 h6 h12
    go_enter Tryz.func17, Tryz.ntmps17
    go_wp2_with (go_at_call 40; refine (HP.out _).mono ?_; rintro e w' ⟨rfl, rfl⟩)
    go_ret
    exact ⟨rfl, HB.out⟩
  have ht2 : (7 : Int) = t := by rw [<- ht]; unfold tight; rw [if_neg (by omega), if_neg h10, if_neg h13, if_neg h6, if_neg h12]
  subst ht2
  have e5 := eqf h5
  have e7 := eqf h7
  have e8 := eqf h8
  have e9 := eqf h9
  have e10 := eqf h10
  have e13 := eqf h13
  have e6 := eqf h6
  have e12 := eqf h12
  clear ht h5 h7 h8 h9 h13 h6 h12 h10
  go_enter Tryz.func17, Tryz.ntmps17
  go_wp2
  go_ret
  exact ⟨rfl, HB.out⟩
theorem sign_is (n : Int) (t : ByteArray) (ht : sgn n = t) (w : World) : Calls Tryz.prog 19 #[.int .i64 n] w fun e w' => e = .returned (.string t) /\ Below w.heap.size w w' := by
  by_cases h1 : n = 1
  · subst h1
    obtain rfl : t = ⟨#[43]⟩ := by rw [<- ht]; rfl
    clear ht
    go_enter Tryz.func19, Tryz.ntmps19
    go_wp2
    go_ret
    exact ⟨rfl, Below.refl _ w⟩
  by_cases h2 : n = 2
  · subst h2
    obtain rfl : t = ⟨#[45]⟩ := by rw [<- ht]; rfl
    clear ht
    go_enter Tryz.func19, Tryz.ntmps19
    go_wp2
    go_ret
    exact ⟨rfl, Below.refl _ w⟩
  by_cases h3 : n = 3
  · subst h3
    obtain rfl : t = ⟨#[42]⟩ := by rw [<- ht]; rfl
    clear ht
    go_enter Tryz.func19, Tryz.ntmps19
    go_wp2
    go_ret
    exact ⟨rfl, Below.refl _ w⟩
  by_cases h4 : n = 4
  · subst h4
    obtain rfl : t = ⟨#[47]⟩ := by rw [<- ht]; rfl
    clear ht
    go_enter Tryz.func19, Tryz.ntmps19
    go_wp2
    go_ret
    exact ⟨rfl, Below.refl _ w⟩
  by_cases h5 : n = 5
  · subst h5
    obtain rfl : t = ⟨#[60]⟩ := by rw [<- ht]; rfl
    clear ht
    go_enter Tryz.func19, Tryz.ntmps19
    go_wp2
    go_ret
    exact ⟨rfl, Below.refl _ w⟩
  by_cases h6 : n = 6
  · subst h6
    obtain rfl : t = ⟨#[61, 61]⟩ := by rw [<- ht]; rfl
    clear ht
    go_enter Tryz.func19, Tryz.ntmps19
    go_wp2
    go_ret
    exact ⟨rfl, Below.refl _ w⟩
  by_cases h7 : n = 7
  · subst h7
    obtain rfl : t = ⟨#[94]⟩ := by rw [<- ht]; rfl
    clear ht
    go_enter Tryz.func19, Tryz.ntmps19
    go_wp2
    go_ret
    exact ⟨rfl, Below.refl _ w⟩
  have ht2 : ⟨#[]⟩ = t := by rw [<- ht]; unfold sgn; rw [if_neg h1, if_neg h2, if_neg h3, if_neg h4, if_neg h5, if_neg h6, if_neg h7]
  subst ht2
  clear ht
  have e1 := eqf h1
  have e2 := eqf h2
  have e3 := eqf h3
  have e4 := eqf h4
  have e5 := eqf h5
  have e6 := eqf h6
  have e7 := eqf h7
  clear h1 h2 h3 h4 h5 h6 h7
  go_enter Tryz.func19, Tryz.ntmps19
  go_wp2
  go_ret
  exact ⟨rfl, Below.refl _ w⟩
end Go.Proofs.YtjakeidbajkdcaaGreatDoor.S
namespace Go.Proofs.YtjakeidbajkdcaaGreatDoor.T
open Go.RowKit Go.Shelf
def RSt (N : List Nd) (J : List Int) (cx : Array Value) (w W : World) (v u : Value) (q : Nat) : Prop :=
  (∃ ps, ps.map Prod.fst = N /\ OwnN (w.heap.size + 2) W v ps) /\ W.ownsRow (w.heap.size + 2) 3 1 u q (J.map (Value.int .i64)) /\ W.heap[w.heap.size]? = some (.cells cx 37 (0, 0)) /\ W.heap[w.heap.size + 1]? = some (.cells #[.slice none 0 0] 25 (0, 0)) /\ Below w.heap.size w W
section
variable {N : List Nd} {J : List Int} {cx : Array Value} {w W W' : World} {v v2 u u2 : Value} {q : Nat}
theorem RSt.size (h : RSt N J cx w W v u q) : w.heap.size + 2 <= W.heap.size := (Array.getElem?_eq_some_iff.1 h.2.2.2.1).1
end
theorem res28 (tmps : Array Value) (W : World) (p : Nat) (A : Option Addr) (n c : Nat) (h2 : tmps[4]?.getD undef = .pointer (some ⟨p, 0, none⟩)) (hb : W.cell? ⟨p, 0, none⟩ = some (.slice A n c)) :
    Sem.run Tryz.prog (results Tryz.f136 tmps) W = .ok (.agg #[.slice A n c]) W := by
  simp [results, Tryz.results136, go_sem, h2, hb]
end Go.Proofs.YtjakeidbajkdcaaGreatDoor.T
