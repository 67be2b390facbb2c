/- Joined by program. -/
import Derived.Test.YtjakeidbajkdcaaGreatDoorG13
import Derived.Test.YtjakeidbajkdcaaGreatDoorG17
import Derived.Test.YtjakeidbajkdcaaGreatDoorG10
import Derived.Test.YtjakeidbajkdcaaGreatDoorG14
set_option maxRecDepth 100000
set_option maxHeartbeats 8000000
namespace Go.Proofs.YtjakeidbajkdcaaGreatDoor.T
open Go.RowKit Go.Shelf
theorem zts {w wr w5 : World} {q : Nat} {v v' : Value} {xs ys : List Value} {cn cm cz : Array Value} {o1 o2 : Obj} (hO : wr.ownsRow (w.heap.size + 3) 97 3 v q xs) (hM : wr.heap[w.heap.size + 2]? = some (.cells cm 37 (0, 0))) (hN : wr.heap[w.heap.size]? = some (.cells cn 37 (0, 0))) (hZ : wr.heap[w.heap.size + 1]? = some (.cells cz 37 (0, 0)))
  (hB : Below w.heap.size w wr) (hown : w5.ownsRow (w.heap.size + 3) 97 3 v' (q + 1) ys) (hg : ((wr.alloc o1).alloc o2).grownBy w5 v.ownBlock) :
  w5.heap[w.heap.size + 2]? = some (.cells cm 37 (0, 0)) /\ (w5.setCell ⟨w.heap.size + 2, 7, none⟩ v').heap[w.heap.size + 2]? = some (.cells (cm.setIfInBounds 7 v') 37 (0, 0)) /\ (w5.setCell ⟨w.heap.size + 2, 7, none⟩ v').heap[w.heap.size]? = some (.cells cn 37 (0, 0)) /\ (w5.setCell ⟨w.heap.size + 2, 7, none⟩ v').heap[w.heap.size + 1]? = some (.cells cz 37 (0, 0)) /\
   (w5.setCell ⟨w.heap.size + 2, 7, none⟩ v').ownsRow (w.heap.size + 3) 97 3 v' (q + 1) ys /\ Below w.heap.size w (w5.setCell ⟨w.heap.size + 2, 7, none⟩ v') := by
 have hl := (age.1 hM).1
 have hb : ∀ k, k <= w.heap.size + 2 -> w5.heap[k]? = wr.heap[k]? := fun k hk => by
  rw [hg.block k (by simp; omega) (fun e => by have := (hO.lt k e.symm).1; omega)]
  exact (Below.heap_alloc _ _ _ (by simp; omega)).trans (Below.heap_alloc _ _ _ (by omega))
 have k2 := (hb _ (lrf _)).trans hM
 refine ⟨k2, zaq k2, ?_, ?_, ?_, ?_⟩
 ·rw [zaf _ _ _ _ _ (by omega)]; exact (hb _ (by omega)).trans hN
 ·rw [zaf _ _ _ _ _ (by omega)]; exact (hb _ (by omega)).trans hZ
 ·exact ze1 hown fun g hg _ => zaf _ _ _ _ _ (by omega)
 ·have hs := hg.size
  simp only [World.size_alloc] at hs
  refine (hB.trans ⟨hg.os, hg.tape, hg.output, by omega, fun k hk => hb k (by omega)⟩).setCell (p := ⟨w.heap.size + 2, 7, none⟩) (by show w.heap.size <= w.heap.size + 2; omega) _
theorem zdb {W : World} {B e s n : Nat} {v : Value} {xs : List Value} (h : W.ownsRow B e s v n xs) : ∃ A c, v = .slice A n c /\ (A = none -> n = 0 /\ c = 0) := by
 rcases h.2 with ⟨rfl, rfl⟩ | ⟨g, cap, cur, rfl, _⟩
 ·exact ⟨none, 0, rfl, fun _ => ⟨rfl, rfl⟩⟩
 ·exact ⟨_, _, rfl, fun h => by cases h⟩
theorem zon (a b c nn pos : Int) (nm s : ByteArray) (l R : List Fld) (ks : List Int) (FA : Option Addr) (L fc g cg : Nat) (w : World) (hg : g < w.heap.size) (HL : Hid (l.length = L)) (hL : L <= 1000000) (hfc : L <= fc /\ fc <= 9223372036854775807) (HPOS : Hid (0 < L -> ∃ b o, FA = some (⟨b, o, none⟩ : Addr) /\ b < w.heap.size /\ FldsAt w b o l))
  (HKS : Hid (∀ j z, ks[j]? = some z -> w.cell? ⟨g, j, none⟩ = some (.int .i64 z))) (HKL : Hid (ks.length = L)) (HRR : Hid (R = relab l ks)) :
  Calls Tryz.prog 147 #[.agg #[.int .i64 11, .int .i64 a, .int .i64 b, .int .i64 c, .int .i64 nn, .string nm, .string s, .slice FA L fc, .int .i64 pos], .slice (some ⟨g, 0, none⟩) L cg] w fun e w' => ∃ v, e = .returned (.agg #[.int .i64 11, .int .i64 0, .int .i64 0, .int .i64 0, .int .i64 nn, .string nm, .string s, v, .int .i64 pos]) /\ OwnF w.heap.size w' v R /\ Below w.heap.size w w' := by
 obtain ⟨i0, hi, hz0, hz1, hz2⟩ := info_parts fldInfo
 obtain ⟨W3, hW3⟩ : ∃ W3, ((w.alloc (.cells #[.int .i64 11, .int .i64 a, .int .i64 b, .int .i64 c, .int .i64 nn, .string nm, .string s, .slice FA L fc, .int .i64 pos] 37)).alloc (.cells zero9 37)).alloc (.cells #[.int .i64 11, .int .i64 0, .int .i64 0, .int .i64 0, .int .i64 nn, .string nm, .string s, .slice none 0 0, .int .i64 pos] 37) = W3 := ⟨_, rfl⟩
 have HW3 := jj hW3
 clear hW3
 go_enter Tryz.func147, Tryz.ntmps147
 go_wp2
 go_loopw [7] (fun i wr => ∃ (q : Nat) (v : Value), i = .int .i64 (q : Int) /\ q <= L /\ Hid (wr.ownsRow (w.heap.size + 3) 97 3 v q (fCells (R.take q))) /\ Hid (wr.heap[w.heap.size + 2]? = some (.cells #[.int .i64 11, .int .i64 0, .int .i64 0, .int .i64 0, .int .i64 nn, .string nm, .string s, v, .int .i64 pos] 37 (0, 0))) /\ Hid (wr.heap[w.heap.size]? = some (.cells #[.int .i64 11, .int .i64 a, .int .i64 b, .int .i64 c, .int .i64 nn, .string nm, .string s, .slice FA L fc, .int .i64 pos] 37 (0, 0))) /\ Hid (wr.heap[w.heap.size + 1]? = some (.cells zero9 37 (0, 0))) /\ Hid (Below w.heap.size w wr)) (fun i _ => L - (intOf i).toNat)
 case atStart =>
  refine ⟨0, _, rfl, by omega, jj (World.ownsRow_nil _ _ _ _), jj (newAt (by simp)), jj (nextAt (nextAt (newAt rfl))), jj (nextAt (newAt (by simp))), jj ((((br w.heap.size w).alloc (lrf _) _).alloc (by simp) _).alloc (by simp; omega) _)⟩
 case round =>
  obtain ⟨q, v, rfl, hq, HR, HM, HN, HZ, HB⟩ := hrel
  have cN := (zaa HN.out 7).trans rfl
  have hsz := (age.1 HM.out).1
  have cN : wr.cell? ⟨w.heap.size, 7, none⟩ = some (.slice FA L fc) := (zaa HN.out 7).trans rfl
  by_cases hlt : q < L
  ·obtain ⟨fb, fo, rfl, hfb, hf⟩ := HPOS.out (by omega)
   obtain ⟨fd, hfd⟩ : ∃ fd, l[q]? = some fd := ⟨_, List.getElem?_eq_getElem (by rw [HL.out]; exact hlt)⟩
   obtain ⟨kz, hkz⟩ : ∃ kz, ks[q]? = some kz := ⟨_, List.getElem?_eq_getElem (by rw [HKL.out]; exact hlt)⟩
   obtain ⟨m0, m1, m2⟩ := (hf.below HB.out hfb) q fd hfd
   have HX : Hid (fCells (R.take (q + 1)) = fCells (R.take q) ++ [.string fd.nm, .string fd.vr, .int .i64 kz]) := jj (by
    rw [HRR.out, zao _ _ _ (zko hfd hkz), zge])
   have zk : ∀ o1 : Obj, (wr.alloc o1).cell? ⟨g, q, none⟩ = some (.int .i64 kz) := fun o1 => (((br wr.heap.size wr).alloc (lrf _) o1).cell (p := ⟨g, q, none⟩) (by show g < wr.heap.size; omega)).trans ((HB.out.cell (p := ⟨g, q, none⟩) hg).trans (HKS.out q kz hkz))
   clear hfd hkz hf
   obtain ⟨A, cv, rfl, hnv⟩ := zdb HR.out
   have cM : ∀ o1 : Obj, (wr.alloc o1).cell? ⟨w.heap.size + 1 + 1, 7, none⟩ = some (.slice A q cv) := fun o1 => (((br wr.heap.size wr).alloc (lrf _) o1).cell (p := ⟨w.heap.size + 1 + 1, 7, none⟩) (by show w.heap.size + 1 + 1 < wr.heap.size; omega)).trans ((zaa HM.out 7).trans rfl)
   have HRA : Hid (∀ o1 o2 : Obj, ((wr.alloc o1).alloc o2).ownsRow (w.heap.size + 3) 97 3 (.slice A q cv) q (fCells (R.take q))) := jj fun o1 o2 => (HR.out.alloc o1).alloc o2
   go_wp2_with (at_builtin; refine wpList_append_own _ rfl _ _ 35 rfl (w.heap.size + 3) 97 i0 (.agg #[.string ⟨#[]⟩, .string ⟨#[]⟩, .int .i64 0]) 3 40 Tryz.underlying35 hi hz0 hz1 hz2 rfl (by decide) _ q _ rfl (HRA.out _ _) ⟨_, 0, none⟩ 1 1 [.string fd.nm, .string fd.vr, .int .i64 kz] rfl rfl (zaj _ 97 [.string fd.nm, .string fd.vr, .int .i64 kz] _ (by simp)) (fun u hu => by simp at hu; rcases hu with rfl | rfl | rfl <;> rfl) (by unfold maxLen; omega) (by omega) (by simp; omega) ?_; intro v' w5 hown hgrow _; have HF := jj (zts HR.out HM.out HN.out HZ.out HB.out hown hgrow); have c7 := (zaa HF.out.1 7).trans rfl; have f7 := zac HF.out.1 7; obtain ⟨g5, c5, rfl⟩ := ownsRow_succ hown; clear hown hgrow)
   go_roundw
   case rel =>
    refine ⟨q + 1, _, by go_num, by omega, jj ?_, jj HF.out.2.1, jj HF.out.2.2.1, jj HF.out.2.2.2.1, jj HF.out.2.2.2.2.2⟩
    rw [HX.out]; exact HF.out.2.2.2.2.1
   case measure => simp [intOf]; omega
  ·obtain rfl : q = L := by omega
   obtain ⟨A, cv, rfl, hnv⟩ := zdb HR.out
   have HRT : Hid (R.take q = R) := jj (List.take_of_length_le (by rw [HRR.out]; unfold relab; rw [List.length_zipWith]; have := HL.out; omega))
   have HRL : Hid (R.length = q) := jj (by rw [HRR.out]; unfold relab; rw [List.length_zipWith, HL.out, HKL.out]; exact Nat.min_self q)
   have HOF : Hid (OwnF (w.heap.size + 3) wr (.slice A q cv) R) := jj (by have h := HR.out; rw [HRT.out] at h; unfold OwnF; rw [HRL.out]; exact h)
   have HZZ := HZ
   obtain ⟨q0, q1, q2, q3, q4, q5, q6, q7, q8, _⟩ := cells9 HM.out
   obtain ⟨z0, z1, z2, z3, z4, z5, z6, z7, z8, zf⟩ := cells9 HZ.out
   go_wp2
   refine bodyPost_ret (v := .agg #[.int .i64 11, .int .i64 0, .int .i64 0, .int .i64 0, .int .i64 nn, .string nm, .string s, .slice A q cv, .int .i64 pos]) (res53 _ _ (w.heap.size + 1) _ _ _ _ _ _ _ _ _ rfl (put9 rfl HZZ.out _ _ _ _ _ _ _ _ _)) rfl ⟨_, rfl, ?_, ?_⟩
   ·exact zbi (ze1 HOF.out fun g hg _ => by rw [zlv _ _ _ _ _ _ _ _ _ _ _ _ (by omega)]) (by omega)
   ·have h1 := HB.out
    exact ((((((((h1.setCell (p := ⟨w.heap.size + 1, 0, none⟩) (by show w.heap.size <= w.heap.size + 1; omega) _).setCell (p := ⟨w.heap.size + 1, 1, none⟩) (by show w.heap.size <= w.heap.size + 1; omega) _).setCell (p := ⟨w.heap.size + 1, 2, none⟩) (by show w.heap.size <= w.heap.size + 1; omega) _).setCell (p := ⟨w.heap.size + 1, 3, none⟩) (by show w.heap.size <= w.heap.size + 1; omega) _).setCell (p := ⟨w.heap.size + 1, 4, none⟩) (by show w.heap.size <= w.heap.size + 1; omega) _).setCell (p := ⟨w.heap.size + 1, 5, none⟩) (by show w.heap.size <= w.heap.size + 1; omega) _).setCell (p := ⟨w.heap.size + 1, 6, none⟩) (by show w.heap.size <= w.heap.size + 1; omega) _).setCell (p := ⟨w.heap.size + 1, 7, none⟩) (by show w.heap.size <= w.heap.size + 1; omega) _).setCell (p := ⟨w.heap.size + 1, 8, none⟩) (by show w.heap.size <= w.heap.size + 1; omega) _
theorem zoy (a b c nn pos : Int) (k0 : Int) (nm s : ByteArray) (l R : List Fld) (ks : List Int) (FA : Option Addr) (L fc g cg : Nat) (w : World) (hg : g < w.heap.size) (HL : Hid (l.length = L)) (hL : L <= 1000000) (hfc : L <= fc /\ fc <= 9223372036854775807) (HPOS : Hid (0 < L -> ∃ b o, FA = some (⟨b, o, none⟩ : Addr) /\ b < w.heap.size /\ FldsAt w b o l))
  (HK0 : Hid (w.cell? ⟨g, 0, none⟩ = some (.int .i64 k0))) (HKS : Hid (∀ j z, ks[j]? = some z -> w.cell? ⟨g, 1 + j, none⟩ = some (.int .i64 z))) (HKL : Hid (ks.length = L)) (HRR : Hid (R = relab l ks)) :
  Calls Tryz.prog 147 #[.agg #[.int .i64 14, .int .i64 a, .int .i64 b, .int .i64 c, .int .i64 nn, .string nm, .string s, .slice FA L fc, .int .i64 pos], .slice (some ⟨g, 0, none⟩) (L + 1) cg] w fun e w' => ∃ v, e = .returned (.agg #[.int .i64 14, .int .i64 k0, .int .i64 0, .int .i64 0, .int .i64 nn, .string nm, .string s, v, .int .i64 pos]) /\ OwnF w.heap.size w' v R /\ Below w.heap.size w w' := by
 obtain ⟨i0, hi, hz0, hz1, hz2⟩ := info_parts fldInfo
 obtain ⟨W3, hW3⟩ : ∃ W3, ((w.alloc (.cells #[.int .i64 14, .int .i64 a, .int .i64 b, .int .i64 c, .int .i64 nn, .string nm, .string s, .slice FA L fc, .int .i64 pos] 37)).alloc (.cells zero9 37)).alloc (.cells #[.int .i64 14, .int .i64 0, .int .i64 0, .int .i64 0, .int .i64 nn, .string nm, .string s, .slice none 0 0, .int .i64 pos] 37) = W3 := ⟨_, rfl⟩
 have HW3 := jj hW3
 clear hW3
 go_enter Tryz.func147, Tryz.ntmps147
 go_wp2
 go_loopw [7] (fun i wr => ∃ (q : Nat) (v : Value), i = .int .i64 (q : Int) /\ q <= L /\ Hid (wr.ownsRow (w.heap.size + 3) 97 3 v q (fCells (R.take q))) /\ Hid (wr.heap[w.heap.size + 2]? = some (.cells #[.int .i64 14, .int .i64 0, .int .i64 0, .int .i64 0, .int .i64 nn, .string nm, .string s, v, .int .i64 pos] 37 (0, 0))) /\ Hid (wr.heap[w.heap.size]? = some (.cells #[.int .i64 14, .int .i64 a, .int .i64 b, .int .i64 c, .int .i64 nn, .string nm, .string s, .slice FA L fc, .int .i64 pos] 37 (0, 0))) /\ Hid (wr.heap[w.heap.size + 1]? = some (.cells zero9 37 (0, 0))) /\ Hid (Below w.heap.size w wr)) (fun i _ => L - (intOf i).toNat)
 case atStart =>
  refine ⟨0, _, rfl, by omega, jj (World.ownsRow_nil _ _ _ _), jj (newAt (by simp)), jj (nextAt (nextAt (newAt rfl))), jj (nextAt (newAt (by simp))), jj ((((br w.heap.size w).alloc (lrf _) _).alloc (by simp) _).alloc (by simp; omega) _)⟩
 case round =>
  obtain ⟨q, v, rfl, hq, HR, HM, HN, HZ, HB⟩ := hrel
  have cN := (zaa HN.out 7).trans rfl
  have hsz := (age.1 HM.out).1
  have cN : wr.cell? ⟨w.heap.size, 7, none⟩ = some (.slice FA L fc) := (zaa HN.out 7).trans rfl
  by_cases hlt : q < L
  ·obtain ⟨fb, fo, rfl, hfb, hf⟩ := HPOS.out (by omega)
   obtain ⟨fd, hfd⟩ : ∃ fd, l[q]? = some fd := ⟨_, List.getElem?_eq_getElem (by rw [HL.out]; exact hlt)⟩
   obtain ⟨kz, hkz⟩ : ∃ kz, ks[q]? = some kz := ⟨_, List.getElem?_eq_getElem (by rw [HKL.out]; exact hlt)⟩
   obtain ⟨m0, m1, m2⟩ := (hf.below HB.out hfb) q fd hfd
   have HX : Hid (fCells (R.take (q + 1)) = fCells (R.take q) ++ [.string fd.nm, .string fd.vr, .int .i64 kz]) := jj (by
    rw [HRR.out, zao _ _ _ (zko hfd hkz), zge])
   have zk : ∀ o1 : Obj, (wr.alloc o1).cell? ⟨g, 1 + q, none⟩ = some (.int .i64 kz) := fun o1 => (((br wr.heap.size wr).alloc (lrf _) o1).cell (p := ⟨g, 1 + q, none⟩) (by show g < wr.heap.size; omega)).trans ((HB.out.cell (p := ⟨g, 1 + q, none⟩) hg).trans (HKS.out q kz hkz))
   clear hfd hkz hf
   obtain ⟨A, cv, rfl, hnv⟩ := zdb HR.out
   have cM : ∀ o1 : Obj, (wr.alloc o1).cell? ⟨w.heap.size + 1 + 1, 7, none⟩ = some (.slice A q cv) := fun o1 => (((br wr.heap.size wr).alloc (lrf _) o1).cell (p := ⟨w.heap.size + 1 + 1, 7, none⟩) (by show w.heap.size + 1 + 1 < wr.heap.size; omega)).trans ((zaa HM.out 7).trans rfl)
   have HRA : Hid (∀ o1 o2 : Obj, ((wr.alloc o1).alloc o2).ownsRow (w.heap.size + 3) 97 3 (.slice A q cv) q (fCells (R.take q))) := jj fun o1 o2 => (HR.out.alloc o1).alloc o2
   go_wp2_with (at_builtin; refine wpList_append_own _ rfl _ _ 35 rfl (w.heap.size + 3) 97 i0 (.agg #[.string ⟨#[]⟩, .string ⟨#[]⟩, .int .i64 0]) 3 40 Tryz.underlying35 hi hz0 hz1 hz2 rfl (by decide) _ q _ rfl (HRA.out _ _) ⟨_, 0, none⟩ 1 1 [.string fd.nm, .string fd.vr, .int .i64 kz] rfl rfl (zaj _ 97 [.string fd.nm, .string fd.vr, .int .i64 kz] _ (by simp)) (fun u hu => by simp at hu; rcases hu with rfl | rfl | rfl <;> rfl) (by unfold maxLen; omega) (by omega) (by simp; omega) ?_; intro v' w5 hown hgrow _; have HF := jj (zts HR.out HM.out HN.out HZ.out HB.out hown hgrow); have c7 := (zaa HF.out.1 7).trans rfl; have f7 := zac HF.out.1 7; obtain ⟨g5, c5, rfl⟩ := ownsRow_succ hown; clear hown hgrow)
   go_roundw
   case rel =>
    refine ⟨q + 1, _, by go_num, by omega, jj ?_, jj HF.out.2.1, jj HF.out.2.2.1, jj HF.out.2.2.2.1, jj HF.out.2.2.2.2.2⟩
    rw [HX.out]; exact HF.out.2.2.2.2.1
   case measure => simp [intOf]; omega
  ·obtain rfl : q = L := by omega
   obtain ⟨A, cv, rfl, hnv⟩ := zdb HR.out
   have HRT : Hid (R.take q = R) := jj (List.take_of_length_le (by rw [HRR.out]; unfold relab; rw [List.length_zipWith]; have := HL.out; omega))
   have HRL : Hid (R.length = q) := jj (by rw [HRR.out]; unfold relab; rw [List.length_zipWith, HL.out, HKL.out]; exact Nat.min_self q)
   have HOF : Hid (OwnF (w.heap.size + 3) wr (.slice A q cv) R) := jj (by have h := HR.out; rw [HRT.out] at h; unfold OwnF; rw [HRL.out]; exact h)
   have hM2 := zaq (j := 1) (v := .int .i64 k0) HM.out
   have hZ2 : (wr.setCell ⟨w.heap.size + 2, 1, none⟩ (.int .i64 k0)).heap[w.heap.size + 1]? = some (.cells zero9 37 (0, 0)) := (zaf _ _ _ _ _ (by omega)).trans HZ.out
   have HZZ := jj hZ2
   have z1' := (zaa HM.out 1).trans rfl
   have f1' := zac HM.out 1
   have zk : wr.cell? ⟨g, 0, none⟩ = some (.int .i64 k0) := (HB.out.cell (p := ⟨g, 0, none⟩) hg).trans HK0.out
   obtain ⟨q0, q1, q2, q3, q4, q5, q6, q7, q8, _⟩ := cells9 hM2
   obtain ⟨z0, z1, z2, z3, z4, z5, z6, z7, z8, zf⟩ := cells9 hZ2
   clear hM2 hZ2
   go_wp2
   refine bodyPost_ret (v := .agg #[.int .i64 14, .int .i64 k0, .int .i64 0, .int .i64 0, .int .i64 nn, .string nm, .string s, .slice A q cv, .int .i64 pos]) (res53 _ _ (w.heap.size + 1) _ _ _ _ _ _ _ _ _ rfl (put9 rfl HZZ.out _ _ _ _ _ _ _ _ _)) rfl ⟨_, rfl, ?_, ?_⟩
   ·exact zbi (ze1 HOF.out fun g hg _ => by rw [zlv _ _ _ _ _ _ _ _ _ _ _ _ (by omega), zaf _ _ _ _ _ (by omega)]) (by omega)
   ·have h1 := HB.out.setCell (p := ⟨w.heap.size + 2, 1, none⟩) (by show w.heap.size <= w.heap.size + 2; omega) (.int .i64 k0)
    exact ((((((((h1.setCell (p := ⟨w.heap.size + 1, 0, none⟩) (by show w.heap.size <= w.heap.size + 1; omega) _).setCell (p := ⟨w.heap.size + 1, 1, none⟩) (by show w.heap.size <= w.heap.size + 1; omega) _).setCell (p := ⟨w.heap.size + 1, 2, none⟩) (by show w.heap.size <= w.heap.size + 1; omega) _).setCell (p := ⟨w.heap.size + 1, 3, none⟩) (by show w.heap.size <= w.heap.size + 1; omega) _).setCell (p := ⟨w.heap.size + 1, 4, none⟩) (by show w.heap.size <= w.heap.size + 1; omega) _).setCell (p := ⟨w.heap.size + 1, 5, none⟩) (by show w.heap.size <= w.heap.size + 1; omega) _).setCell (p := ⟨w.heap.size + 1, 6, none⟩) (by show w.heap.size <= w.heap.size + 1; omega) _).setCell (p := ⟨w.heap.size + 1, 7, none⟩) (by show w.heap.size <= w.heap.size + 1; omega) _).setCell (p := ⟨w.heap.size + 1, 8, none⟩) (by show w.heap.size <= w.heap.size + 1; omega) _
theorem zin (x : Nd) (fv : Value) (ks : List Int) (g cg n : Nat) (w : World) (hn : ks.length = n) (hF : Flds w.heap.size w fv x.l) (hL : x.l.length <= 1000000) (hk : ks.length = (kids x).length) (hr : Rw w g ks) :
  Calls Tryz.prog 147 #[.agg (ndArr x fv), .slice (some ⟨g, 0, none⟩) n cg] w (RWPost (wk x ks) w) := by
 subst hn
 have hlen : ks.length = own x + (if many x = true then x.l.length else 0) := by
  rw [hk, kids, List.length_append, own]
  split <;> simp
 obtain ⟨FA, fc, rfl, hfc, hnil, hpos⟩ := hF
 obtain ⟨hrow, hg⟩ := hr
 by_cases h11 : x.kind = 11
 ·have hown : own x = 0 := by simp [own, kids0, h11]
  have hm : many x = true := by simp [many, h11]
  rw [hm, if_pos rfl, hown, Nat.zero_add] at hlen
  have hwk : wk x ks = { x with a := 0, b := 0, c := 0, l := relab x.l ks } := by simp [wk, hown, hm]
  rw [hlen, hwk]
  obtain ⟨k, a, b, c, nn, nm, s, l, pos⟩ := x
  cases h11
  refine (zon a b c nn pos nm s l (relab l ks) ks FA l.length fc g cg w hg (jj rfl) hL hfc (jj hpos) (jj hrow) (jj hlen) (jj rfl)).mono ?_
  rintro e w' ⟨v, rfl, h1, h2⟩
  exact ⟨v, rfl, h1, h2⟩
 ·by_cases h14 : x.kind = 14
  ·have hown : own x = 1 := by simp [own, kids0, h14]
   have hm : many x = true := by simp [many, h14]
   rw [hm, if_pos rfl, hown] at hlen
   have hwk : wk x ks = { x with a := ks.getD 0 0, b := 0, c := 0, l := relab x.l (ks.drop 1) } := by simp [wk, hown, hm]
   rw [hlen, hwk, Nat.add_comm]
   obtain ⟨k0, ks', rfl⟩ : ∃ k0 ks', ks = k0 :: ks' := by
    cases ks with
    | nil => exact absurd hlen (by simp only [List.length_nil]; omega)
    | cons k0 ks' => exact ⟨k0, ks', rfl⟩
   obtain ⟨k, a, b, c, nn, nm, s, l, pos⟩ := x
   cases h14
   refine (zoy a b c nn pos k0 nm s l (relab l ks') ks' FA l.length fc g cg w hg (jj rfl) hL hfc (jj hpos) (jj (hrow 0 k0 rfl)) (jj fun j z hz => hrow (1 + j) z (by rw [Nat.add_comm]; exact hz)) (jj (by simp at hlen; omega)) (jj rfl)).mono ?_
   rintro e w' ⟨v, rfl, h1, h2⟩
   exact ⟨v, rfl, h1, h2⟩
  ·have hm : many x = false := by simp [many, h11, h14]
   have e11 : (x.kind == 11) = false := by simpa using h11
   have e14 : (x.kind == 14) = false := by simpa using h14
   rw [hm] at hlen
   simp only [Bool.false_eq_true, if_false, Nat.add_zero] at hlen
   have hwk : wk x ks = { x with a := if 0 < own x then ks.getD 0 0 else 0, b := if 1 < own x then ks.getD 1 0 else 0, c := if 2 < own x then ks.getD 2 0 else 0, l := [] } := by simp [wk, hm]
   rw [hwk]
   rw [<- hlen]
   obtain ⟨k, a, b, c, nn, nm, s, l, pos⟩ := x
   have hle : ks.length <= 3 := by
    rw [hlen]; simp only [own, kids0]
    repeat' split
    all_goals simp
   simp only at e11 e14
   match ks, hle with
   | [], _ => refine (zsk k a b c nn pos nm s FA _ fc e11 e14 g cg w hg).mono ?_; rintro e w' ⟨rfl, h2⟩; exact ⟨_, rfl, World.ownsRow_nil _ _ _ _, h2⟩
   | [p], _ => refine (zsa k a b c nn pos p nm s FA _ fc e11 e14 g cg w hg (jj (hrow 0 p rfl))).mono ?_; rintro e w' ⟨rfl, h2⟩; exact ⟨_, rfl, World.ownsRow_nil _ _ _ _, h2⟩
   | [p, q], _ => refine (zsn k a b c nn pos p q nm s FA _ fc e11 e14 g cg w hg (jj (hrow 0 p rfl)) (jj (hrow 1 q rfl))).mono ?_; rintro e w' ⟨rfl, h2⟩; exact ⟨_, rfl, World.ownsRow_nil _ _ _ _, h2⟩
   | [p, q, r], _ => refine (zqv k a b c nn pos p q r nm s FA _ fc e11 e14 g cg w hg (jj (hrow 0 p rfl)) (jj (hrow 1 q rfl)) (jj (hrow 2 r rfl))).mono ?_; rintro e w' ⟨rfl, h2⟩; exact ⟨_, rfl, World.ownsRow_nil _ _ _ _, h2⟩
   | _ :: _ :: _ :: _ :: _, h => exact absurd h (by simp only [List.length_cons]; omega)
open Go.RowKit Go.Shelf
theorem zed (v : Value) : v.ownBlock = none ∨ v.ownBlock ≠ none := by cases v.ownBlock with | none => exact .inl rfl | some g => exact .inr (by simp)
theorem zec (W : World) (o : Obj) : W.grownBy (W.alloc o) none := ⟨rfl, rfl, rfl, by simp, fun _ hk _ => Below.heap_alloc _ _ _ hk⟩
theorem zb1 {W W' : World} (h : Below W.heap.size W W') : W.grownBy W' none := ⟨h.os, h.tape, h.output, h.size, fun k hk _ => h.block k hk⟩
def Kp (B : Nat) (w w' : World) : Prop := Below B w w' /\ ∀ (k : Nat) (cs : Array Value) (t : TypeId) (fr : Nat × Nat), w.heap[k]? = some (.cells cs t fr) -> t ≠ 37 -> w'.heap[k]? = some (.cells cs t fr)
theorem Kp.refl (B : Nat) (w : World) : Kp B w w := ⟨br _ _, fun _ _ _ _ h _ => h⟩
theorem Kp.trans {B : Nat} {a b c : World} (h : Kp B a b) (k : Kp B b c) : Kp B a c := ⟨h.1.trans k.1, fun i cs t fr hi ht => k.2 i cs t fr (h.2 i cs t fr hi ht) ht⟩
theorem Kp.of {B : Nat} {w w' : World} (h : Below w.heap.size w w') (hB : B <= w.heap.size) : Kp B w w' := ⟨h.mono hB, fun k _ _ _ hk _ => (h.block k (age.1 hk).1).trans hk⟩
theorem Kp.alloc (B : Nat) (w : World) (o : Obj) (hB : B <= w.heap.size) : Kp B w (w.alloc o) := Kp.of (baw w o) hB
theorem Kp.grown {B B2 n : Nat} {w w' : World} {v : Value} {xs : List Value} (h : w.ownsRow B2 37 9 v n xs) (hB : B <= B2) (hw : B <= w.heap.size) (hg : w.grownBy w' v.ownBlock) : Kp B w w' :=
 ⟨⟨hg.os, hg.tape, hg.output, hg.size, fun k hk => hg.block k (by omega) (fun e => by have := (h.lt k e.symm).1; omega)⟩, fun k cs t fr hk ht => (hg.block k (age.1 hk).1 (fun e => by
  obtain ⟨_, cur, hcur⟩ := own27 h k e.symm
  rw [hcur] at hk
  simp at hk
  exact ht hk.2.1.symm)).trans hk⟩
theorem zm9 {B B1 e s n : Nat} {w w' : World} {v : Value} {xs : List Value} (h : w.ownsRow B1 e s v n xs) (he : e ≠ 37) (hk : Kp B w w') : w'.ownsRow B1 e s v n xs := by
 refine ⟨h.1, ?_⟩
 rcases h.2 with h0 | ⟨g, cap, cur, h1, h2, h3, h4⟩
 ·exact .inl h0
 ·exact .inr ⟨g, cap, cur, h1, h2, hk.2 _ _ _ _ h3 he, h4⟩
theorem zg3 {w w' : World} {B B2 n2 : Nat} {v v2 : Value} {ps : List (Nd × Value)} {x2 : List Value} (h : OwnN B w v ps) (h2 : w.ownsRow B2 3 1 v2 n2 x2) (hg : w.grownBy w' v2.ownBlock) : OwnN B w' v ps :=
 ⟨h.1.kept hg (zef h.1 h2 (by decide)), fun x hx => (h.2 x hx).kept hg (zef (h.2 x hx) h2 (by decide))⟩
theorem zbf {w w' : World} {B : Nat} {v : Value} {ps : List (Nd × Value)} (h : OwnN B w v ps) (hg : w.grownBy w' none) : OwnN B w' v ps :=
 ⟨h.1.kept hg (zed _), fun x hx => (h.2 x hx).kept hg (zed _)⟩
def CSt (N : List Nd) (J : List Int) (K : List Int) (B BK : Nat) (w W : World) (v' u : Value) (gk KL ck q : Nat) (bx : Value) : Prop :=
 (∃ ps, ps.map Prod.fst = N /\ OwnN B W v' ps) /\ W.ownsRow BK 3 1 u q (J.map (Value.int .i64)) /\ Kp B w W /\
  W.ownsRow w.heap.size 3 1 (.slice (some ⟨gk, 0, none⟩) KL ck) KL (K.map (Value.int .i64)) /\ gk < BK /\ W.heap[w.heap.size]? = some (.cells #[bx] 25 (0, 0)) /\ w.heap.size < BK /\ BK <= W.heap.size /\ B <= w.heap.size
section
variable {N N' : List Nd} {J K : List Int} {B BK : Nat} {w W W' : World} {v' v2 u u' : Value} {gk KL ck q : Nat} {bx : Value}
theorem CSt.drew (h : CSt N J K B BK w W v' u gk KL ck q bx) : CSt N J K B BK w W.drew v' u gk KL ck q bx := by
 have hb : Below W.heap.size W W.drew := (br W.heap.size W).drew
 have hg := zb1 hb
 obtain ⟨⟨ps, a0, a1⟩, a2, a3, a5, a6, a7, a8, a9, a10⟩ := h
 exact ⟨⟨ps, a0, zbf a1 hg⟩, a2.kept hg (zed _), a3.trans (Kp.of hb (by omega)), a5.kept hg (zed _), a6, a7, a8, a9, a10⟩
theorem CSt.app (h : CSt N J K B BK w W v' u gk KL ck q bx) {z : Int} {o : Obj} (h1 : W'.ownsRow BK 3 1 u' (q + 1) (J.map (Value.int .i64) ++ [.int .i64 z])) (h2 : (W.alloc o).grownBy W' u.ownBlock) : CSt N (J ++ [z]) K B BK w W' v' u' gk KL ck (q + 1) bx := by
 obtain ⟨⟨ps, a0, a1⟩, a2, a3, a5, a6, a7, a8, a9, a10⟩ := h
 have hu := a2.lt
 have hs := h2.size
 simp only [World.size_alloc] at hs
 have hbl : ∀ k, k < BK -> W'.heap[k]? = W.heap[k]? := fun k hk => (h2.block k (by simp; omega) (fun e => by have := (hu k e.symm).1; omega)).trans (Below.heap_alloc _ _ _ (by omega))
 refine ⟨⟨ps, a0, zg3 (zbf a1 (zec W o)) (a2.alloc o) h2⟩, by rw [List.map_append]; exact h1, ⟨⟨h2.os.trans a3.1.os, h2.tape.trans a3.1.tape, h2.output.trans a3.1.output, by have := a3.1.size; omega, fun k hk => (hbl k (by omega)).trans (a3.1.block k hk)⟩, fun k cs t fr hk ht => (hbl k (by have := (age.1 hk).1; omega)).trans (a3.2 k cs t fr hk ht)⟩, ?_, a6, (hbl _ (by omega)).trans a7, a8, by omega, a10⟩
 refine (a5.alloc o).kept h2 (.inr ?_)
 intro e
 have := (hu gk e.symm).1
 omega
end
open Go.RowKit Go.Shelf
def sh (f : Nat) (m : Nd) : Nd := wk m ((kids m).map (· + (f : Int)))
def jstep (p : List Nd × List Int) (e : List Nd) : List Nd × List Int := (p.1 ++ e.map (sh p.1.length), p.2 ++ [((p.1.length + e.length : Nat) : Int) - 1])
def jn (ll : List (List Nd)) : List Nd × List Int := ll.foldl jstep ([], [])
theorem zfg (ll : List (List Nd)) (e : List Nd) : jn (ll ++ [e]) = jstep (jn ll) e := by simp [jn]
theorem zf5 : ∀ ll : List (List Nd), (jn ll).1.length = (ll.map List.length).sum /\ (jn ll).2.length = ll.length := by
 intro ll
 induction ll using snocInd with
 | h0 => exact ⟨rfl, rfl⟩
 | h1 ll e ih =>
  rw [zfg]
  refine ⟨?_, ?_⟩
  ·simp [jstep, ih.1]
  ·simp [jstep, ih.2]
def joinN (x : Nd) (ll : List (List Nd)) : List Nd := (jn ll).1 ++ [wk x (jn ll).2]
def Exprs (B : Nat) (W : World) (v : Value) (ll : List (List Nd)) : Prop :=
 ∃ A c, v = .slice A ll.length c /\ ll.length <= c /\ (A = none -> c = 0) /\ (0 < ll.length -> ∃ b o, A = some ⟨b, o, none⟩ /\ b < B /\ ∀ j e, ll[j]? = some e -> ∃ Ae ce, W.cell? ⟨b, o + j, none⟩ = some (.slice Ae e.length ce) /\ Nodes B W (.slice Ae e.length ce) e)
theorem Exprs.below {B : Nat} {W W' : World} {v : Value} {ll : List (List Nd)} (h : Exprs B W v ll) (hb : Below B W W') : Exprs B W' v ll := by
 obtain ⟨A, c, h1, h2, h3, h4⟩ := h
 refine ⟨A, c, h1, h2, h3, fun h0 => ?_⟩
 obtain ⟨b, o, e1, e2, e3⟩ := h4 h0
 refine ⟨b, o, e1, e2, fun j e he => ?_⟩
 obtain ⟨Ae, ce, c1, c2⟩ := e3 j e he
 exact ⟨Ae, ce, (hb.cell (p := ⟨b, o + j, none⟩) e2).trans c1, c2.below hb⟩
theorem Exprs.mono {B B' : Nat} {W : World} {v : Value} {ll : List (List Nd)} (h : Exprs B W v ll) (hB : B <= B') : Exprs B' W v ll := by
 obtain ⟨A, c, h1, h2, h3, h4⟩ := h
 refine ⟨A, c, h1, h2, h3, fun h0 => ?_⟩
 obtain ⟨b, o, e1, e2, e3⟩ := h4 h0
 exact ⟨b, o, e1, by omega, fun j e he => by obtain ⟨Ae, ce, c1, c2⟩ := e3 j e he; exact ⟨Ae, ce, c1, c2.mono hB⟩⟩
def JSt (N : List Nd) (J : List Int) (cx : Array Value) (w W : World) (v u : Value) (q : Nat) : Prop :=
 (∃ ps, ps.map Prod.fst = N /\ OwnN (w.heap.size + 3) W v ps) /\ W.ownsRow (w.heap.size + 3) 3 1 u q (J.map (Value.int .i64)) /\ W.heap[w.heap.size]? = some (.cells cx 37 (0, 0)) /\ W.heap[w.heap.size + 1]? = some (.cells #[.slice none 0 0] 25 (0, 0)) /\ W.heap[w.heap.size + 2]? = some (.cells #[v] 25 (0, 0)) /\ Below w.heap.size w W
section
variable {N : List Nd} {J : List Int} {cx : Array Value} {w W W' : World} {v v2 u u2 : Value} {q : Nat}
theorem JSt.size (h : JSt N J cx w W v u q) : w.heap.size + 3 <= W.heap.size := (age.1 h.2.2.2.2.1).1
theorem JSt.next (h : JSt N J cx w W v u q) (hb : Below W.heap.size W W') : JSt N J cx w W' v u q := by
 have hs := h.size
 obtain ⟨⟨ps, a0, a1⟩, a2, a3, a4, a5, a6⟩ := h
 have hg := zb1 hb
 exact ⟨⟨ps, a0, zbf a1 hg⟩, a2.kept hg (zed _), zdn a3 hb, zdn a4 hb, zdn a5 hb, zfa a6 hb (lrf _)⟩
theorem JSt.drew (h : JSt N J cx w W v u q) : JSt N J cx w W.drew v u q := h.next (br _ _).drew
end
open Go.RowKit
theorem zlb : ∀ (l : List Fld) (ks : List Int), ks.length = l.length -> (relab l ks).map Fld.pl = ks
 | [], [], _ => rfl
 | [], _ :: _, h => by simp at h
 | _ :: _, [], h => by simp at h
 | f :: l, k :: ks, h => by
  have := zlb l ks (by simpa using h)
  simpa [relab] using this
theorem zi4 : ∀ (l : List Fld) (ks js : List Int), ks.length = l.length -> relab (relab l ks) js = relab l js
 | [], [], _, _ => by simp [relab]
 | [], _ :: _, _, h => by simp at h
 | _ :: _, [], _, h => by simp at h
 | f :: l, k :: ks, [], _ => by simp [relab]
 | f :: l, k :: ks, j :: js, h => by
  have := zi4 l ks js (by simpa using h)
  simpa [relab] using this
theorem z0u (x : Nd) (ks : List Int) : own (wk x ks) = own x := by
 unfold own kids0 wk
 simp only
 repeat' split
 all_goals simp_all
theorem zo8 (x : Nd) (ks : List Int) : many (wk x ks) = many x := rfl
theorem zf8 (x : Nd) : (kids x).length = own x + if many x = true then x.l.length else 0 := by
 rw [kids, List.length_append, own]
 split <;> simp
theorem zfd {x : Nd} {ks : List Int} (h : ks.length = (kids x).length) : kids (wk x ks) = ks := by
 rw [zf8] at h
 have hd : many x = true -> (ks.drop (own x)).length = x.l.length := fun hm => by rw [List.length_drop, h, if_pos hm]; omega
 rw [kids, zo8]
 have e0 : kids0 (wk x ks) = ks.take (own x) := by
  have hl : own x <= ks.length := by omega
  unfold wk
  unfold own at hl ⊢
  by_cases h1 : x.kind = 5 ∨ x.kind = 12 ∨ x.kind = 13 ∨ x.kind = 14
  ·simp only [kids0, if_pos h1, List.length_cons, List.length_nil] at hl ⊢
   match ks, hl with
   | [], hl => simp at hl
   | a :: _, _ => simp
  ·by_cases h2 : x.kind = 6 ∨ x.kind = 7 ∨ x.kind = 8 ∨ x.kind = 10
   ·simp only [kids0, if_neg h1, if_pos h2, List.length_cons, List.length_nil] at hl ⊢
    match ks, hl with
    | [], hl => simp at hl
    | [_], hl => simp at hl
    | a :: b :: _, _ => simp
   ·by_cases h3 : x.kind = 9
    ·simp only [kids0, if_neg h1, if_neg h2, if_pos h3, List.length_cons, List.length_nil] at hl ⊢
     match ks, hl with
     | [], hl => simp at hl
     | [_], hl => simp at hl
     | [_, _], hl => simp at hl
     | a :: b :: c :: _, _ => simp
    ·simp only [kids0, if_neg h1, if_neg h2, if_neg h3, List.length_nil] at hl ⊢
     simp
 rw [e0]
 by_cases hm : many x = true
 ·rw [if_pos hm]
  have e1 : (wk x ks).l = relab x.l (ks.drop (own x)) := by show (if many x = true then _ else _) = _; rw [if_pos hm]
  rw [e1, zlb _ _ (hd hm), List.take_append_drop]
 ·rw [if_neg hm, List.append_nil]
  rw [if_neg hm] at h
  exact List.take_of_length_le (by omega)
theorem zgy {x : Nd} {ks js : List Int} (h : ks.length = (kids x).length) : wk (wk x ks) js = wk x js := by
 rw [zf8] at h
 have ho := z0u x ks
 show ({ wk x ks with a := _, b := _, c := _, l := _ } : Nd) = _
 rw [ho, zo8]
 unfold wk
 by_cases hm : many x = true
 ·rw [if_pos hm] at h
  simp only [hm, if_true]
  rw [zi4 _ _ _ (by rw [List.length_drop]; omega)]
 ·simp only [hm]
  simp
theorem zye (f g : Nat) (m : Nd) : sh f (sh g m) = sh (g + f) m := by
 have hl : ((kids m).map (· + (g : Int))).length = (kids m).length := List.length_map _
 unfold sh
 rw [zfd hl, zgy hl, List.map_map]
 congr 1
 apply List.map_congr_left
 intro k _
 simp only [Function.comp]
 omega
theorem zly (l : List Nd) : ∀ (ks : List Int) (p : List Nd × List Int), (cps l p ks).2.length = p.2.length + ks.length := by
 intro ks
 induction ks using snocInd with
 | h0 => intro p; simp [cps]
 | h1 ks k ih => intro p; rw [zdm]; simp [ih p]; omega
theorem zsx {l : List Nd} (hk : kidsOk l) : ∀ i, i < l.length -> ∀ out : List Nd, cp l i out = out ++ (cp l i []).map (sh out.length) := by
 intro i
 induction i using Nat.strongRecOn with
 | ind i ih =>
  intro hi out
  have hx : l[i]? = some (l[i]'hi) := List.getElem?_eq_getElem hi
  obtain ⟨x, hx'⟩ : ∃ x, l[i]'hi = x := ⟨_, rfl⟩
  rw [hx'] at hx
  have ha : ahead i x := fun k hk' => hk i x hx k hk'
  have key : ∀ ks : List Int, (∀ k ∈ ks, 0 <= k /\ k < (i : Int)) -> cps l (out, []) ks = (out ++ (cps l ([], []) ks).1.map (sh out.length), (cps l ([], []) ks).2.map (· + (out.length : Int))) := by
   intro ks
   induction ks using snocInd with
   | h0 => intro _; simp [cps]
   | h1 ks k ih2 =>
    intro hks
    have h1 := ih2 fun k' hk' => hks k' (by simp [hk'])
    have hkk := hks k (by simp)
    have hlt : k.toNat < i := toNat_lt hkk
    have e : cp l k.toNat (out ++ (cps l ([], []) ks).1.map (sh out.length)) = out ++ (cp l k.toNat (cps l ([], []) ks).1).map (sh out.length) := by
     rw [ih k.toNat hlt (by omega) (out ++ (cps l ([], []) ks).1.map (sh out.length)), ih k.toNat hlt (by omega) (cps l ([], []) ks).1, List.map_append, List.map_map, List.append_assoc]
     congr 2
     apply List.map_congr_left
     intro m _
     simp only [Function.comp]
     rw [zye, List.length_append, List.length_map, Nat.add_comm]
    rw [zdm, zdm, h1]
    simp only
    rw [e]
    simp only [List.map_append, List.map_cons, List.map_nil, List.length_append, List.length_map]
    congr 2
    simp only [List.cons.injEq, and_true]
    omega
  have hks : ∀ k ∈ kids x, 0 <= k /\ k < (i : Int) := fun k hk' => ha k hk'
  have hlen : (cps l ([], []) (kids x)).2.length = (kids x).length := by rw [zly]; simp
  rw [zmm hx ha out, zmm hx ha [], key _ hks, List.map_append, List.append_assoc]
  simp only [List.map_cons, List.map_nil]
  congr 3
  unfold sh
  rw [zfd hlen, zgy hlen]
open Go.RowKit
theorem zki {N : List Nd} {y : Nd} (h : kidsOk N) (hy : ∀ k ∈ kids y, 0 <= k /\ k < (N.length : Int)) : kidsOk (N ++ [y]) := by
 intro i x hx k hk
 by_cases hi : i < N.length
 ·rw [List.getElem?_append_left hi] at hx
  exact h i x hx k hk
 ·rw [List.getElem?_append_right (by omega)] at hx
  have hl := (lge.1 hx).1
  simp only [List.length_singleton] at hl
  obtain rfl : i = N.length := by omega
  simp only [Nat.sub_self, List.getElem?_cons_zero, Option.some.injEq] at hx
  subst hx
  exact hy k hk
open Go.RowKit
def kd (N : List Nd) (m : Nat) : Option Int × Nat := (N[m]?.map Nd.kind, (deeps N).getD m 0)
open Go.RowKit
theorem zfv (k : Int) : ∀ (l : List Fld) (ks : List Int), ks.length = l.length -> (relab l ks).length = l.length /\ (relab l ks).map Fld.nm = l.map Fld.nm /\ (relab l ks).all (fok k) = l.all (fok k)
 | [], [], _ => ⟨rfl, rfl, rfl⟩
 | [], _ :: _, h => by simp at h
 | _ :: _, [], h => by simp at h
 | f :: l, q :: ks, h => by
  obtain ⟨h1, h2, h3⟩ := zfv k l ks (by simpa using h)
  have e : relab (f :: l) (q :: ks) = { f with pl := q } :: relab l ks := rfl
  rw [e]
  refine ⟨by simp [h1], by simp [h2], ?_⟩
  rw [List.all_cons, List.all_cons, h3]
  rfl
def inOrd (e : List Nd) : Prop := e ≠ [] /\ kidsOk e /\ cp e (e.length - 1) [] = e
theorem zj4 (f : Nat) (x : Nd) : kids (sh f x) = (kids x).map (· + (f : Int)) := by unfold sh; exact zfd (List.length_map _)
theorem z0y {e : List Nd} (hk : kidsOk e) (P r : List Nd) : ∀ i, i < e.length -> ∀ out, cp (P ++ e.map (sh P.length) ++ r) (P.length + i) out = cp e i out := by
 intro i
 induction i using Nat.strongRecOn with
 | ind i ih =>
  intro hi out
  obtain ⟨x, hx⟩ : ∃ x, e[i]? = some x := ⟨_, List.getElem?_eq_getElem hi⟩
  have ha : ahead i x := fun k hk' => hk i x hx k hk'
  have hl : ((kids x).map (· + (P.length : Int))).length = (kids x).length := List.length_map _
  have hy : (P ++ e.map (sh P.length) ++ r)[P.length + i]? = some (sh P.length x) := by
   rw [List.append_assoc, List.getElem?_append_right (by omega), Nat.add_sub_cancel_left, List.getElem?_append_left (by rw [List.length_map]; exact hi), List.getElem?_map, hx]; rfl
  have hb : ahead (P.length + i) (sh P.length x) := fun k hk' => by
   rw [zj4, List.mem_map] at hk'
   obtain ⟨m, hm, rfl⟩ := hk'
   have := ha m hm
   omega
  have key : ∀ ks : List Int, (∀ k ∈ ks, 0 <= k /\ k < (i : Int)) -> ∀ p, cps (P ++ e.map (sh P.length) ++ r) p (ks.map (· + (P.length : Int))) = cps e p ks := by
   intro ks
   induction ks using snocInd with
   | h0 => intro _ p; rfl
   | h1 ks k ih2 =>
    intro hks p
    have hkk := hks k (by simp)
    have hn : (k + (P.length : Int)).toNat = P.length + k.toNat := by omega
    have hlt := toNat_lt hkk
    rw [List.map_append, List.map_cons, List.map_nil, zdm, zdm, ih2 (fun k' h' => hks k' (by simp [h'])) p, hn, ih k.toNat hlt (by omega)]
  rw [zmm hy hb, zmm hx ha, zj4, key _ ha]
  congr 2
  unfold sh
  rw [zgy hl]
theorem zih {N e : List Nd} (h1 : kidsOk N) (h2 : kidsOk e) : kidsOk (N ++ e.map (sh N.length)) := by
 intro i x hx k hk
 by_cases hi : i < N.length
 ·rw [List.getElem?_append_left hi] at hx; exact h1 i x hx k hk
 ·rw [List.getElem?_append_right (by omega), List.getElem?_map, Option.map_eq_some_iff] at hx
  obtain ⟨y, hy, rfl⟩ := hx
  rw [zj4, List.mem_map] at hk
  obtain ⟨m, hm, rfl⟩ := hk
  have := h2 _ y hy m hm
  omega
theorem zzi : ∀ ll : List (List Nd), (∀ e ∈ ll, inOrd e) -> kidsOk (jn ll).1 /\ (∀ k ∈ (jn ll).2, 0 <= k /\ k < ((jn ll).1.length : Int)) /\ ∀ r, cps ((jn ll).1 ++ r) ([], []) (jn ll).2 = jn ll := by
 intro ll
 induction ll using snocInd with
 | h0 => intro _; exact ⟨fun i x hx => by simp [jn] at hx, fun k hk => by simp [jn] at hk, fun r => rfl⟩
 | h1 ll e ih =>
  intro h
  obtain ⟨h1, h2, h3⟩ := ih fun x hx => h x (by simp [hx])
  obtain ⟨e0, ek, ec⟩ := h e (by simp)
  have hle : 0 < e.length := List.length_pos_iff.2 e0
  rw [zfg, jstep]
  refine ⟨zih h1 ek, fun k hk => ?_, fun r => ?_⟩
  ·simp only [List.mem_append, List.mem_singleton] at hk
   simp only [List.length_append, List.length_map]
   rcases hk with hk | rfl
   ·have := h2 k hk; omega
   ·omega
  ·have e1 := h3 (e.map (sh (jn ll).1.length) ++ r)
   rw [<- List.append_assoc] at e1
   have hn : (((((jn ll).1.length + e.length : Nat) : Int) - 1)).toNat = (jn ll).1.length + (e.length - 1) := by omega
   simp only
   rw [zdm, e1, hn, z0y ek _ _ _ (by omega), zsx ek _ (by omega), ec]
   simp
theorem zds {x : Nd} {ll : List (List Nd)} (h : ∀ e ∈ ll, inOrd e) (hl : ll.length = (kids x).length) : inOrd (joinN x ll) := by
 obtain ⟨h1, h2, h3⟩ := zzi ll h
 have hJ : (jn ll).2.length = (kids x).length := (zf5 ll).2.trans hl
 have hk := zfd hJ
 refine ⟨by simp [joinN], zki h1 (by rw [hk]; exact h2), ?_⟩
 have hy : (joinN x ll)[(jn ll).1.length]? = some (wk x (jn ll).2) := by simp [joinN]
 have hn : (joinN x ll).length - 1 = (jn ll).1.length := by simp [joinN]
 rw [hn, zmm hy (by intro k hk'; rw [hk] at hk'; exact h2 k hk'), hk]
 unfold joinN
 rw [h3, zgy hJ]
structure Tk where
 k : Int
 s : ByteArray
 n : Int
 p : Int
inductive Rs where
 | ok (t : List Nd) (l : List Tk)
 | bad (e p : Int)
inductive Pr where
 | expr | cmp | sum | prod | app | post | atom
 | sumL (a : List Nd) | prodL (a : List Nd) | appL (a : List Nd) | postL (a : List Nd)
 | recL (p : Int) (fs : List Fld) (ts : List (List Nd)) | casL (p : Int) (fs : List Fld) (ts : List (List Nd))
def Rs.go (r : Rs) (f : List Nd -> List Tk -> Rs) : Rs := match r with | .ok t l => f t l | .bad e p => .bad e p
def plc (E : Int) (l : List Tk) : Int := match l with | [] => E | t :: _ => t.p
def isT (k : Int) (s : List UInt8) (l : List Tk) : Bool := match l with | [] => false | t :: _ => decide (t.k = k) && (t.s.toList == s)
def kindT (k : Int) (l : List Tk) : Bool := match l with | [] => false | t :: _ => decide (t.k = k)
def must (E k : Int) (s : List UInt8) (l : List Tk) (f : List Tk -> Rs) : Rs := if isT k s l = true then f l.tail else .bad 5 (plc E l)
def textT (E k : Int) (l : List Tk) (f : ByteArray -> List Tk -> Rs) : Rs := match l with | [] => .bad 5 E | t :: r => if t.k = k then f t.s r else .bad 5 t.p
def labelT (E k : Int) (fs : List Fld) (l : List Tk) (f : ByteArray -> List Tk -> Rs) : Rs :=
 textT E k l fun x r => if 30 <= fs.length then .bad 8 (plc E l) else if (fs.any fun y => y.nm.toList == x.toList) = true then .bad 5 (plc E l) else f x r
def opOf (ops : List (List UInt8 × Int)) (l : List Tk) : Option Int := match l with | [] => none | t :: _ => if t.k = 7 then (ops.find? fun o => t.s.toList == o.1).map Prod.snd else none
def mk (kind p : Int) : Nd := ⟨kind, 0, 0, 0, 0, ⟨#[]⟩, ⟨#[]⟩, [], p⟩
def lastK (a : List Nd) : Int := (a.getLast?.map Nd.kind).getD 0
def lastP (a : List Nd) : Int := (a.getLast?.map Nd.pos).getD 0
def zb5 : List UInt8 := [102, 117, 110]
def zcf : List UInt8 := [108, 101, 116]
def zdw : List UInt8 := [114, 101, 99]
def w_in : List UInt8 := [105, 110]
def w_if : List UInt8 := [105, 102]
def zdt : List UInt8 := [116, 104, 101, 110]
def zc0 : List UInt8 := [101, 108, 115, 101]
def zbk : List UInt8 := [99, 97, 115, 101]
def w_of : List UInt8 := [111, 102]
def zfq : List UInt8 := [101, 110, 100]
def zar : List UInt8 := [116, 114, 117, 101]
def zan : List UInt8 := [102, 97, 108, 115, 101]
def zbc : List UInt8 := [45, 62]
def zbg : List UInt8 := [61]
def za3 : List UInt8 := [40]
def zgf : List UInt8 := [41]
def zbb : List UInt8 := [123]
def zbl : List UInt8 := [125]
def zb6 : List UInt8 := [44]
def zej : List UInt8 := [124]
def zeg : List UInt8 := [46]
def cmpOps : List (List UInt8 × Int) := [([60], 5), ([61, 61], 6)]
def sumOps : List (List UInt8 × Int) := [([43], 1), ([45], 2), ([94], 7)]
def prodOps : List (List UInt8 × Int) := [([42], 3), ([47], 4)]
def begins (l : List Tk) : Bool := kindT 4 l || kindT 5 l || kindT 2 l || isT 1 zar l || isT 1 zan l || isT 1 zbk l || isT 7 za3 l || isT 7 zbb l
def fld (x v : ByteArray) : Fld := ⟨x, v, 0⟩
def G (E : Int) : Nat -> Pr -> Nat -> List Tk -> Rs
 | 0, _, _, _ => .bad 0 0
 | f + 1, .expr, d, l =>
  if 100 <= d then .bad 6 (plc E l)
  else if isT 1 zb5 l = true then textT E 2 l.tail fun x l1 => must E 7 zbc l1 fun l2 => (G E f .expr (d + 1) l2).go fun a l3 => .ok (joinN { mk 5 (plc E l) with nm := x } [a]) l3
  else if isT 1 zcf l = true then
   if isT 1 zdw l.tail = true then
    textT E 2 l.tail.tail fun x l1 => must E 7 zbg l1 fun l2 => (G E f .expr (d + 1) l2).go fun a l3 => if lastK a = 5 then must E 1 w_in l3 fun l4 => (G E f .expr (d + 1) l4).go fun b l5 => .ok (joinN { mk 8 (plc E l) with nm := x } [a, b]) l5 else .bad 5 (plc E l2)
   else textT E 2 l.tail fun x l1 => must E 7 zbg l1 fun l2 => (G E f .expr (d + 1) l2).go fun a l3 => must E 1 w_in l3 fun l4 => (G E f .expr (d + 1) l4).go fun b l5 => .ok (joinN { mk 7 (plc E l) with nm := x } [a, b]) l5
  else if isT 1 w_if l = true then
   (G E f .expr (d + 1) l.tail).go fun a l1 => must E 1 zdt l1 fun l2 => (G E f .expr (d + 1) l2).go fun b l3 => must E 1 zc0 l3 fun l4 => (G E f .expr (d + 1) l4).go fun c l5 => .ok (joinN (mk 9 (plc E l)) [a, b, c]) l5
  else G E f .cmp (d + 1) l
 | f + 1, .cmp, d, l => (G E f .sum d l).go fun a l1 => match opOf cmpOps l1 with
  | none => .ok a l1
  | some n => (G E f .sum d l1.tail).go fun b l2 => .ok (joinN { mk 10 (plc E l1) with n := n } [a, b]) l2
 | f + 1, .sum, d, l => (G E f .prod d l).go fun a l1 => G E f (.sumL a) d l1
 | f + 1, .sumL a, d, l => match opOf sumOps l with
  | none => .ok a l
  | some n => (G E f .prod d l.tail).go fun b l2 => G E f (.sumL (joinN { mk 10 (plc E l) with n := n } [a, b])) d l2
 | f + 1, .prod, d, l => (G E f .app d l).go fun a l1 => G E f (.prodL a) d l1
 | f + 1, .prodL a, d, l => match opOf prodOps l with
  | none => .ok a l
  | some n => (G E f .app d l.tail).go fun b l2 => G E f (.prodL (joinN { mk 10 (plc E l) with n := n } [a, b])) d l2
 | f + 1, .app, d, l =>
  if kindT 3 l = true then textT E 3 l fun x l1 => (G E f .post d l1).go fun a l2 => .ok (joinN { mk 13 (plc E l) with nm := x } [a]) l2
  else (G E f .post d l).go fun a l1 => G E f (.appL a) d l1
 | f + 1, .appL a, d, l => if begins l = true then (G E f .post d l).go fun b l1 => G E f (.appL (joinN (mk 6 (lastP a)) [a, b])) d l1 else .ok a l
 | f + 1, .post, d, l => (G E f .atom d l).go fun a l1 => G E f (.postL a) d l1
 | f + 1, .postL a, d, l => if isT 7 zeg l = true then textT E 2 l.tail fun x l1 => G E f (.postL (joinN { mk 12 (plc E l) with nm := x } [a])) d l1 else .ok a l
 | f + 1, .atom, d, l => match l with
  | [] => .bad 5 E
  | t :: r =>
   if t.k = 4 then .ok (joinN { mk 1 t.p with n := t.n } []) r
   else if t.k = 5 then .ok (joinN { mk 3 t.p with s := t.s } []) r
   else if t.k = 2 then .ok (joinN { mk 4 t.p with nm := t.s } []) r
   else if isT 1 zar (t :: r) = true then .ok (joinN { mk 2 t.p with n := 1 } []) r
   else if isT 1 zan (t :: r) = true then .ok (joinN (mk 2 t.p) []) r
   else if isT 7 za3 (t :: r) = true then (G E f .expr d r).go fun a l1 => must E 7 zgf l1 fun l2 => .ok a l2
   else if isT 7 zbb (t :: r) = true then (if isT 7 zbl r = true then .ok (joinN (mk 11 t.p) []) r.tail else G E f (.recL t.p [] []) d r)
   else if isT 1 zbk (t :: r) = true then (G E f .expr d r).go fun a l1 => must E 1 w_of l1 fun l2 => G E f (.casL t.p [] [a]) d l2
   else .bad 5 t.p
 | f + 1, .recL p fs ts, d, l => labelT E 2 fs l fun x l1 => must E 7 zbg l1 fun l2 => (G E f .expr d l2).go fun a l3 =>
  if isT 7 zb6 l3 = true then G E f (.recL p (fs ++ [fld x ⟨#[]⟩]) (ts ++ [a])) d l3.tail
  else must E 7 zbl l3 fun l4 => .ok (joinN { mk 11 p with l := fs ++ [fld x ⟨#[]⟩] } (ts ++ [a])) l4
 | f + 1, .casL p fs ts, d, l => labelT E 3 fs l fun x l1 => textT E 2 l1 fun v l2 => must E 7 zbc l2 fun l3 => (G E f .expr d l3).go fun a l4 =>
  if isT 7 zej l4 = true then G E f (.casL p (fs ++ [fld x v]) (ts ++ [a])) d l4.tail
  else must E 1 zfq l4 fun l5 => .ok (joinN { mk 14 p with l := fs ++ [fld x v] } (ts ++ [a])) l5
theorem zaw {r : Rs} {f : List Nd -> List Tk -> Rs} {t : List Nd} {l : List Tk} (h : r.go f = .ok t l) : ∃ a m, r = .ok a m /\ f a m = .ok t l := by
 cases r with
 | ok a m => exact ⟨a, m, rfl, h⟩
 | bad e p => cases h
theorem za7 {k : Int} {s : List UInt8} {l : List Tk} (h : isT k s l = true) : ∃ y r, l = y :: r := by
 cases l with
 | nil => cases h
 | cons y r => exact ⟨y, r, rfl⟩
theorem za4 {k : Int} {s : List UInt8} {l : List Tk} (h : isT k s l = true) : l.tail.length + 1 = l.length := by obtain ⟨y, r, rfl⟩ := za7 h; rfl
theorem zap {E k : Int} {s : List UInt8} {l r : List Tk} {f : List Tk -> Rs} {t : List Nd} (h : must E k s l f = .ok t r) : l.tail.length + 1 = l.length /\ f l.tail = .ok t r := by
 unfold must at h
 split at h
 ·exact ⟨za4 (by assumption), h⟩
 ·cases h
theorem zbx {E k : Int} {l r : List Tk} {f : ByteArray -> List Tk -> Rs} {t : List Nd} (h : textT E k l f = .ok t r) : ∃ x m, m.length + 1 = l.length /\ f x m = .ok t r := by
 cases l with
 | nil => cases h
 | cons y m =>
  simp only [textT] at h
  split at h
  ·exact ⟨y.s, m, rfl, h⟩
  ·cases h
theorem zk1 {E k : Int} {fs : List Fld} {l r : List Tk} {f : ByteArray -> List Tk -> Rs} {t : List Nd} (h : labelT E k fs l f = .ok t r) : ∃ x m, m.length + 1 = l.length /\ f x m = .ok t r := by
 obtain ⟨x, m, hm, h⟩ := zbx h
 split at h
 ·cases h
 ·split at h
  ·cases h
  ·exact ⟨x, m, hm, h⟩
theorem zez {ops : List (List UInt8 × Int)} {l : List Tk} {n : Int} (h : opOf ops l = some n) : l.tail.length + 1 = l.length := by
 cases l with
 | nil => cases h
 | cons y r => rfl
def fit : Pr -> Prop
 | .sumL a => inOrd a
 | .prodL a => inOrd a
 | .appL a => inOrd a
 | .postL a => inOrd a
 | .recL _ fs ts => ts.length = fs.length /\ ∀ e ∈ ts, inOrd e
 | .casL _ fs ts => ts.length = fs.length + 1 /\ ∀ e ∈ ts, inOrd e
 | _ => True
def eats : Pr -> Nat
 | .sumL _ => 0
 | .prodL _ => 0
 | .appL _ => 0
 | .postL _ => 0
 | _ => 1
theorem ord0 {x : Nd} (h : (kids x).length = 0) : inOrd (joinN x []) := zds (by simp) h.symm
theorem ord1 {x : Nd} {a : List Nd} (h : (kids x).length = 1) (ha : inOrd a) : inOrd (joinN x [a]) := zds (by simpa using ha) h.symm
theorem ord2 {x : Nd} {a b : List Nd} (h : (kids x).length = 2) (ha : inOrd a) (hb : inOrd b) : inOrd (joinN x [a, b]) := zds (by simp [ha, hb]) h.symm
theorem ord3 {x : Nd} {a b c : List Nd} (h : (kids x).length = 3) (ha : inOrd a) (hb : inOrd b) (hc : inOrd c) : inOrd (joinN x [a, b, c]) := zds (by simp [ha, hb, hc]) h.symm
theorem G_ok (E : Int) : ∀ (f : Nat) (X : Pr) (d : Nat) (l : List Tk) (t : List Nd) (r : List Tk), fit X -> G E f X d l = .ok t r -> inOrd t /\ r.length + eats X <= l.length := by
 intro f
 induction f with
 | zero => intro X d l t r _ h; cases h
 | succ f ih =>
  intro X d l t r hX h
  cases X with
  | expr =>
   rw [G] at h
   split at h
   ·cases h
   split at h
   ·rename_i _ hw
    have h0 := za4 hw
    obtain ⟨x, l1, h1, h⟩ := zbx h
    obtain ⟨h2, h⟩ := zap h
    obtain ⟨a, l3, ha, h⟩ := zaw h
    obtain ⟨oa, h3⟩ := ih .expr _ _ _ _ trivial ha
    cases h
    simp only [eats] at h3 ⊢
    exact ⟨ord1 rfl oa, by omega⟩
   split at h
   ·rename_i _ _ hw
    have h0 := za4 hw
    split at h
    ·rename_i hr
     have h0' := za4 hr
     obtain ⟨x, l1, h1, h⟩ := zbx h
     obtain ⟨h2, h⟩ := zap h
     obtain ⟨a, l3, ha, h⟩ := zaw h
     obtain ⟨oa, h3⟩ := ih .expr _ _ _ _ trivial ha
     split at h
     ·obtain ⟨h4, h⟩ := zap h
      obtain ⟨b, l5, hb, h⟩ := zaw h
      obtain ⟨ob, h5⟩ := ih .expr _ _ _ _ trivial hb
      cases h
      simp only [eats] at h3 h5 ⊢
      exact ⟨ord2 rfl oa ob, by omega⟩
     ·cases h
    ·obtain ⟨x, l1, h1, h⟩ := zbx h
     obtain ⟨h2, h⟩ := zap h
     obtain ⟨a, l3, ha, h⟩ := zaw h
     obtain ⟨oa, h3⟩ := ih .expr _ _ _ _ trivial ha
     obtain ⟨h4, h⟩ := zap h
     obtain ⟨b, l5, hb, h⟩ := zaw h
     obtain ⟨ob, h5⟩ := ih .expr _ _ _ _ trivial hb
     cases h
     simp only [eats] at h3 h5 ⊢
     exact ⟨ord2 rfl oa ob, by omega⟩
   split at h
   ·rename_i _ _ _ hw
    have h0 := za4 hw
    obtain ⟨a, l1, ha, h⟩ := zaw h
    obtain ⟨oa, h1⟩ := ih .expr _ _ _ _ trivial ha
    obtain ⟨h2, h⟩ := zap h
    obtain ⟨b, l3, hb, h⟩ := zaw h
    obtain ⟨ob, h3⟩ := ih .expr _ _ _ _ trivial hb
    obtain ⟨h4, h⟩ := zap h
    obtain ⟨c, l5, hc, h⟩ := zaw h
    obtain ⟨oc, h5⟩ := ih .expr _ _ _ _ trivial hc
    cases h
    simp only [eats] at h1 h3 h5 ⊢
    exact ⟨ord3 rfl oa ob oc, by omega⟩
   ·exact ih .cmp _ _ _ _ trivial h
  | cmp =>
   rw [G] at h
   obtain ⟨a, l1, ha, h⟩ := zaw h
   obtain ⟨oa, h1⟩ := ih .sum _ _ _ _ trivial ha
   simp only [eats] at h1 ⊢
   split at h
   ·cases h; exact ⟨oa, h1⟩
   ·rename_i n hn
    have h0 := zez hn
    obtain ⟨b, l2, hb, h⟩ := zaw h
    obtain ⟨ob, h2⟩ := ih .sum _ _ _ _ trivial hb
    cases h
    simp only [eats] at h2
    exact ⟨ord2 rfl oa ob, by omega⟩
  | sum =>
   rw [G] at h
   obtain ⟨a, l1, ha, h⟩ := zaw h
   obtain ⟨oa, h1⟩ := ih .prod _ _ _ _ trivial ha
   obtain ⟨ot, h2⟩ := ih (.sumL a) _ _ _ _ oa h
   simp only [eats] at h1 h2 ⊢
   exact ⟨ot, by omega⟩
  | sumL a =>
   rw [G] at h
   have oa : inOrd a := hX
   split at h
   ·cases h; exact ⟨oa, lrf _⟩
   ·rename_i n hn
    have h0 := zez hn
    obtain ⟨b, l2, hb, h⟩ := zaw h
    obtain ⟨ob, h2⟩ := ih .prod _ _ _ _ trivial hb
    obtain ⟨ot, h3⟩ := ih (.sumL _) _ _ _ _ (ord2 (x := { mk 10 (plc E l) with n := n }) rfl oa ob) h
    simp only [eats] at h2 h3 ⊢
    exact ⟨ot, by omega⟩
  | prod =>
   rw [G] at h
   obtain ⟨a, l1, ha, h⟩ := zaw h
   obtain ⟨oa, h1⟩ := ih .app _ _ _ _ trivial ha
   obtain ⟨ot, h2⟩ := ih (.prodL a) _ _ _ _ oa h
   simp only [eats] at h1 h2 ⊢
   exact ⟨ot, by omega⟩
  | prodL a =>
   rw [G] at h
   have oa : inOrd a := hX
   split at h
   ·cases h; exact ⟨oa, lrf _⟩
   ·rename_i n hn
    have h0 := zez hn
    obtain ⟨b, l2, hb, h⟩ := zaw h
    obtain ⟨ob, h2⟩ := ih .app _ _ _ _ trivial hb
    obtain ⟨ot, h3⟩ := ih (.prodL _) _ _ _ _ (ord2 (x := { mk 10 (plc E l) with n := n }) rfl oa ob) h
    simp only [eats] at h2 h3 ⊢
    exact ⟨ot, by omega⟩
  | app =>
   rw [G] at h
   split at h
   ·obtain ⟨x, l1, h1, h⟩ := zbx h
    obtain ⟨a, l2, ha, h⟩ := zaw h
    obtain ⟨oa, h2⟩ := ih .post _ _ _ _ trivial ha
    cases h
    simp only [eats] at h2 ⊢
    exact ⟨ord1 rfl oa, by omega⟩
   ·obtain ⟨a, l1, ha, h⟩ := zaw h
    obtain ⟨oa, h1⟩ := ih .post _ _ _ _ trivial ha
    obtain ⟨ot, h2⟩ := ih (.appL a) _ _ _ _ oa h
    simp only [eats] at h1 h2 ⊢
    exact ⟨ot, by omega⟩
  | appL a =>
   rw [G] at h
   have oa : inOrd a := hX
   split at h
   ·obtain ⟨b, l1, hb, h⟩ := zaw h
    obtain ⟨ob, h1⟩ := ih .post _ _ _ _ trivial hb
    obtain ⟨ot, h2⟩ := ih (.appL _) _ _ _ _ (ord2 (x := mk 6 (lastP a)) rfl oa ob) h
    simp only [eats] at h1 h2 ⊢
    exact ⟨ot, by omega⟩
   ·cases h; exact ⟨oa, lrf _⟩
  | post =>
   rw [G] at h
   obtain ⟨a, l1, ha, h⟩ := zaw h
   obtain ⟨oa, h1⟩ := ih .atom _ _ _ _ trivial ha
   obtain ⟨ot, h2⟩ := ih (.postL a) _ _ _ _ oa h
   simp only [eats] at h1 h2 ⊢
   exact ⟨ot, by omega⟩
  | postL a =>
   rw [G] at h
   have oa : inOrd a := hX
   split at h
   ·rename_i hw
    have h0 := za4 hw
    obtain ⟨x, l1, h1, h⟩ := zbx h
    obtain ⟨ot, h2⟩ := ih (.postL _) _ _ _ _ (ord1 (x := { mk 12 (plc E l) with nm := x }) rfl oa) h
    simp only [eats] at h2 ⊢
    exact ⟨ot, by omega⟩
   ·cases h; exact ⟨oa, lrf _⟩
  | atom =>
   cases l with
   | nil => rw [G] at h; cases h
   | cons y m =>
    rw [G] at h
    simp only [eats, List.length_cons]
    split at h
    ·cases h; exact ⟨ord0 rfl, lrf _⟩
    split at h
    ·cases h; exact ⟨ord0 rfl, lrf _⟩
    split at h
    ·cases h; exact ⟨ord0 rfl, lrf _⟩
    split at h
    ·cases h; exact ⟨ord0 rfl, lrf _⟩
    split at h
    ·cases h; exact ⟨ord0 rfl, lrf _⟩
    split at h
    ·obtain ⟨a, l1, ha, h⟩ := zaw h
     obtain ⟨oa, h1⟩ := ih .expr _ _ _ _ trivial ha
     obtain ⟨h2, h⟩ := zap h
     cases h
     simp only [eats] at h1
     exact ⟨oa, by omega⟩
    split at h
    ·split at h
     ·rename_i hr
      have h0 := za4 hr
      cases h
      exact ⟨ord0 rfl, by omega⟩
     ·obtain ⟨ot, h1⟩ := ih (.recL _ _ _) _ _ _ _ ⟨rfl, by simp⟩ h
      simp only [eats] at h1
      exact ⟨ot, by omega⟩
    split at h
    ·obtain ⟨a, l1, ha, h⟩ := zaw h
     obtain ⟨oa, h1⟩ := ih .expr _ _ _ _ trivial ha
     obtain ⟨h2, h⟩ := zap h
     obtain ⟨ot, h3⟩ := ih (.casL _ _ _) _ _ _ _ ⟨rfl, by simpa using oa⟩ h
     simp only [eats] at h1 h3
     exact ⟨ot, by omega⟩
    ·cases h
  | recL p fs ts =>
   rw [G] at h
   obtain ⟨hl, ho⟩ : ts.length = fs.length /\ ∀ e ∈ ts, inOrd e := hX
   obtain ⟨x, l1, h1, h⟩ := zk1 h
   obtain ⟨h2, h⟩ := zap h
   obtain ⟨a, l3, ha, h⟩ := zaw h
   obtain ⟨oa, h3⟩ := ih .expr _ _ _ _ trivial ha
   have ho' : ∀ e ∈ ts ++ [a], inOrd e := fun e he => by
    rw [List.mem_append, List.mem_singleton] at he
    rcases he with he | rfl
    ·exact ho e he
    ·exact oa
   split at h
   ·rename_i hw
    have h0 := za4 hw
    obtain ⟨ot, h4⟩ := ih (.recL _ _ _) _ _ _ _ ⟨by simp [hl], ho'⟩ h
    simp only [eats] at h3 h4 ⊢
    exact ⟨ot, by omega⟩
   ·obtain ⟨h4, h⟩ := zap h
    cases h
    simp only [eats] at h3 ⊢
    exact ⟨zds ho' (by simp [kids, kids0, many, mk, hl]), by omega⟩
  | casL p fs ts =>
   rw [G] at h
   obtain ⟨hl, ho⟩ : ts.length = fs.length + 1 /\ ∀ e ∈ ts, inOrd e := hX
   obtain ⟨x, l1, h1, h⟩ := zk1 h
   obtain ⟨v, l2, h1', h⟩ := zbx h
   obtain ⟨h2, h⟩ := zap h
   obtain ⟨a, l3, ha, h⟩ := zaw h
   obtain ⟨oa, h3⟩ := ih .expr _ _ _ _ trivial ha
   have ho' : ∀ e ∈ ts ++ [a], inOrd e := fun e he => by
    rw [List.mem_append, List.mem_singleton] at he
    rcases he with he | rfl
    ·exact ho e he
    ·exact oa
   split at h
   ·rename_i hw
    have h0 := za4 hw
    obtain ⟨ot, h4⟩ := ih (.casL _ _ _) _ _ _ _ ⟨by simp [hl], ho'⟩ h
    simp only [eats] at h3 h4 ⊢
    exact ⟨ot, by omega⟩
   ·obtain ⟨h4, h⟩ := zap h
    cases h
    simp only [eats] at h3 ⊢
    exact ⟨zds ho' (by simp [kids, kids0, many, mk, hl]), by omega⟩
def cX : Pr -> Nat
 | .expr => 7 | .cmp => 6 | .sum => 5 | .prod => 4 | .app => 3 | .post => 2 | .atom => 1
 | .appL _ => 3
 | _ => 1
def need (X : Pr) (m : Nat) : Nat := 8 * m + cX X
theorem zdl {E k : Int} {l r : List Tk} {f : ByteArray -> List Tk -> Rs} {t : List Nd} (h : textT E k l f = .ok t r) : ∃ x m, m.length + 1 = l.length /\ m <:+ l /\ f x m = .ok t r := by
 cases l with
 | nil => cases h
 | cons y m =>
  simp only [textT] at h
  split at h
  ·exact ⟨y.s, m, rfl, List.suffix_cons _ _, h⟩
  ·cases h
theorem zii {E k : Int} {fs : List Fld} {l r : List Tk} {f : ByteArray -> List Tk -> Rs} {t : List Nd} (h : labelT E k fs l f = .ok t r) : ∃ x m, m.length + 1 = l.length /\ m <:+ l /\ f x m = .ok t r := by
 obtain ⟨x, m, hm, hs, h⟩ := zdl h
 split at h
 ·cases h
 ·split at h
  ·cases h
  ·exact ⟨x, m, hm, hs, h⟩
theorem z1a (E : Int) : ∀ (f : Nat) (X : Pr) (d : Nat) (l : List Tk) (t : List Nd) (r : List Tk), G E f X d l = .ok t r -> r <:+ l /\ r.length + eats X <= l.length := by
 intro f
 induction f with
 | zero => intro X d l t r h; cases h
 | succ f ih =>
  intro X d l t r h
  cases X with
  | expr =>
   rw [G] at h
   split at h
   ·cases h
   split at h
   ·rename_i _ hw
    have h0 := za4 hw
    have s0 := List.tail_suffix (l)
    obtain ⟨x1, l1, h1, s1, h⟩ := zdl h
    obtain ⟨h2, h⟩ := zap h
    have s2 := List.tail_suffix (l1)
    obtain ⟨a3, l3, g3, h⟩ := zaw h
    obtain ⟨s3, h3⟩ := ih (.expr) _ _ _ _ g3
    cases h
    simp only [eats] at h3 ⊢
    exact ⟨(s3).trans ((s2).trans ((s1).trans (s0))), by omega⟩
   split at h
   ·rename_i _ _ hw
    split at h
    ·rename_i hr
     have h0 := za4 hw
     have s0 := List.tail_suffix (l)
     have h1 := za4 hr
     have s1 := List.tail_suffix ((l).tail)
     obtain ⟨x2, l2, h2, s2, h⟩ := zdl h
     obtain ⟨h3, h⟩ := zap h
     have s3 := List.tail_suffix (l2)
     obtain ⟨a4, l4, g4, h⟩ := zaw h
     obtain ⟨s4, h4⟩ := ih (.expr) _ _ _ _ g4
     split at h
     ·obtain ⟨h5, h⟩ := zap h
      have s5 := List.tail_suffix (l4)
      obtain ⟨a6, l6, g6, h⟩ := zaw h
      obtain ⟨s6, h6⟩ := ih (.expr) _ _ _ _ g6
      cases h
      simp only [eats] at h4 h6 ⊢
      exact ⟨(s6).trans ((s5).trans ((s4).trans ((s3).trans ((s2).trans ((s1).trans (s0)))))), by omega⟩
     ·cases h
    ·have h0 := za4 hw
     have s0 := List.tail_suffix (l)
     obtain ⟨x1, l1, h1, s1, h⟩ := zdl h
     obtain ⟨h2, h⟩ := zap h
     have s2 := List.tail_suffix (l1)
     obtain ⟨a3, l3, g3, h⟩ := zaw h
     obtain ⟨s3, h3⟩ := ih (.expr) _ _ _ _ g3
     obtain ⟨h4, h⟩ := zap h
     have s4 := List.tail_suffix (l3)
     obtain ⟨a5, l5, g5, h⟩ := zaw h
     obtain ⟨s5, h5⟩ := ih (.expr) _ _ _ _ g5
     cases h
     simp only [eats] at h3 h5 ⊢
     exact ⟨(s5).trans ((s4).trans ((s3).trans ((s2).trans ((s1).trans (s0))))), by omega⟩
   split at h
   ·rename_i _ _ _ hw
    have h0 := za4 hw
    have s0 := List.tail_suffix (l)
    obtain ⟨a1, l1, g1, h⟩ := zaw h
    obtain ⟨s1, h1⟩ := ih (.expr) _ _ _ _ g1
    obtain ⟨h2, h⟩ := zap h
    have s2 := List.tail_suffix (l1)
    obtain ⟨a3, l3, g3, h⟩ := zaw h
    obtain ⟨s3, h3⟩ := ih (.expr) _ _ _ _ g3
    obtain ⟨h4, h⟩ := zap h
    have s4 := List.tail_suffix (l3)
    obtain ⟨a5, l5, g5, h⟩ := zaw h
    obtain ⟨s5, h5⟩ := ih (.expr) _ _ _ _ g5
    cases h
    simp only [eats] at h1 h3 h5 ⊢
    exact ⟨(s5).trans ((s4).trans ((s3).trans ((s2).trans ((s1).trans (s0))))), by omega⟩
   ·exact ih .cmp _ _ _ _ h
  | cmp =>
   rw [G] at h
   obtain ⟨a0, l0, g0, h⟩ := zaw h
   obtain ⟨s0, h0⟩ := ih (.sum) _ _ _ _ g0
   split at h
   ·cases h; simp only [eats] at h0 ⊢; exact ⟨s0, h0⟩
   ·rename_i n hop
    have h1 := zez hop
    have s1 := List.tail_suffix (l0)
    obtain ⟨a2, l2, g2, h⟩ := zaw h
    obtain ⟨s2, h2⟩ := ih (.sum) _ _ _ _ g2
    cases h
    simp only [eats] at h0 h2 ⊢
    exact ⟨(s2).trans ((s1).trans (s0)), by omega⟩
  | sum =>
   rw [G] at h
   obtain ⟨a0, l0, g0, h⟩ := zaw h
   obtain ⟨s0, h0⟩ := ih (.prod) _ _ _ _ g0
   obtain ⟨s1, h1⟩ := ih (.sumL _) _ _ _ _ h
   simp only [eats] at h0 h1 ⊢
   exact ⟨(s1).trans (s0), by omega⟩
  | prod =>
   rw [G] at h
   obtain ⟨a0, l0, g0, h⟩ := zaw h
   obtain ⟨s0, h0⟩ := ih (.app) _ _ _ _ g0
   obtain ⟨s1, h1⟩ := ih (.prodL _) _ _ _ _ h
   simp only [eats] at h0 h1 ⊢
   exact ⟨(s1).trans (s0), by omega⟩
  | post =>
   rw [G] at h
   obtain ⟨a0, l0, g0, h⟩ := zaw h
   obtain ⟨s0, h0⟩ := ih (.atom) _ _ _ _ g0
   obtain ⟨s1, h1⟩ := ih (.postL _) _ _ _ _ h
   simp only [eats] at h0 h1 ⊢
   exact ⟨(s1).trans (s0), by omega⟩
  | sumL a =>
   rw [G] at h
   split at h
   ·cases h; exact ⟨List.suffix_refl _, lrf _⟩
   ·rename_i n hop
    have h0 := zez hop
    have s0 := List.tail_suffix (l)
    obtain ⟨a1, l1, g1, h⟩ := zaw h
    obtain ⟨s1, h1⟩ := ih (.prod) _ _ _ _ g1
    obtain ⟨s2, h2⟩ := ih (.sumL _) _ _ _ _ h
    simp only [eats] at h1 h2 ⊢
    exact ⟨(s2).trans ((s1).trans (s0)), by omega⟩
  | prodL a =>
   rw [G] at h
   split at h
   ·cases h; exact ⟨List.suffix_refl _, lrf _⟩
   ·rename_i n hop
    have h0 := zez hop
    have s0 := List.tail_suffix (l)
    obtain ⟨a1, l1, g1, h⟩ := zaw h
    obtain ⟨s1, h1⟩ := ih (.app) _ _ _ _ g1
    obtain ⟨s2, h2⟩ := ih (.prodL _) _ _ _ _ h
    simp only [eats] at h1 h2 ⊢
    exact ⟨(s2).trans ((s1).trans (s0)), by omega⟩
  | app =>
   rw [G] at h
   split at h
   ·obtain ⟨x0, l0, h0, s0, h⟩ := zdl h
    obtain ⟨a1, l1, g1, h⟩ := zaw h
    obtain ⟨s1, h1⟩ := ih (.post) _ _ _ _ g1
    cases h
    simp only [eats] at h1 ⊢
    exact ⟨(s1).trans (s0), by omega⟩
   ·obtain ⟨a0, l0, g0, h⟩ := zaw h
    obtain ⟨s0, h0⟩ := ih (.post) _ _ _ _ g0
    obtain ⟨s1, h1⟩ := ih (.appL _) _ _ _ _ h
    simp only [eats] at h0 h1 ⊢
    exact ⟨(s1).trans (s0), by omega⟩
  | appL a =>
   rw [G] at h
   split at h
   ·obtain ⟨a0, l0, g0, h⟩ := zaw h
    obtain ⟨s0, h0⟩ := ih (.post) _ _ _ _ g0
    obtain ⟨s1, h1⟩ := ih (.appL _) _ _ _ _ h
    simp only [eats] at h0 h1 ⊢
    exact ⟨(s1).trans (s0), by omega⟩
   ·cases h; exact ⟨List.suffix_refl _, lrf _⟩
  | postL a =>
   rw [G] at h
   split at h
   ·rename_i hw
    have h0 := za4 hw
    have s0 := List.tail_suffix (l)
    obtain ⟨x1, l1, h1, s1, h⟩ := zdl h
    obtain ⟨s2, h2⟩ := ih (.postL _) _ _ _ _ h
    simp only [eats] at h2 ⊢
    exact ⟨(s2).trans ((s1).trans (s0)), by omega⟩
   ·cases h; exact ⟨List.suffix_refl _, lrf _⟩
  | atom =>
   cases l with
   | nil => rw [G] at h; cases h
   | cons y m =>
    rw [G] at h
    have s9 := List.suffix_cons y m
    simp only [eats, List.length_cons]
    split at h
    ·cases h; exact ⟨s9, lrf _⟩
    split at h
    ·cases h; exact ⟨s9, lrf _⟩
    split at h
    ·cases h; exact ⟨s9, lrf _⟩
    split at h
    ·cases h; exact ⟨s9, lrf _⟩
    split at h
    ·cases h; exact ⟨s9, lrf _⟩
    split at h
    ·obtain ⟨a0, l0, g0, h⟩ := zaw h
     obtain ⟨s0, h0⟩ := ih (.expr) _ _ _ _ g0
     obtain ⟨h1, h⟩ := zap h
     have s1 := List.tail_suffix (l0)
     cases h
     simp only [eats] at h0
     exact ⟨((s1).trans (s0)).trans s9, by omega⟩
    split at h
    ·split at h
     ·rename_i hr
      have h0 := za4 hr
      have s0 := List.tail_suffix m
      cases h
      exact ⟨(s0).trans s9, by omega⟩
     ·obtain ⟨s0, h0⟩ := ih (.recL _ _ _) _ _ _ _ h
      simp only [eats] at h0
      exact ⟨(s0).trans s9, by omega⟩
    split at h
    ·obtain ⟨a0, l0, g0, h⟩ := zaw h
     obtain ⟨s0, h0⟩ := ih (.expr) _ _ _ _ g0
     obtain ⟨h1, h⟩ := zap h
     have s1 := List.tail_suffix (l0)
     obtain ⟨s2, h2⟩ := ih (.casL _ _ _) _ _ _ _ h
     simp only [eats] at h0 h2
     exact ⟨((s2).trans ((s1).trans (s0))).trans s9, by omega⟩
    ·cases h
  | recL p fs ts =>
   rw [G] at h
   obtain ⟨x0, l0, h0, s0, h⟩ := zii h
   obtain ⟨h1, h⟩ := zap h
   have s1 := List.tail_suffix (l0)
   obtain ⟨a2, l2, g2, h⟩ := zaw h
   obtain ⟨s2, h2⟩ := ih (.expr) _ _ _ _ g2
   split at h
   ·rename_i hw
    have h3 := za4 hw
    have s3 := List.tail_suffix (l2)
    obtain ⟨s4, h4⟩ := ih (.recL _ _ _) _ _ _ _ h
    simp only [eats] at h2 h4 ⊢
    exact ⟨(s4).trans ((s3).trans ((s2).trans ((s1).trans (s0)))), by omega⟩
   ·obtain ⟨h3, h⟩ := zap h
    have s3 := List.tail_suffix (l2)
    cases h
    simp only [eats] at h2 ⊢
    exact ⟨(s3).trans ((s2).trans ((s1).trans (s0))), by omega⟩
  | casL p fs ts =>
   rw [G] at h
   obtain ⟨x0, l0, h0, s0, h⟩ := zii h
   obtain ⟨x1, l1, h1, s1, h⟩ := zdl h
   obtain ⟨h2, h⟩ := zap h
   have s2 := List.tail_suffix (l1)
   obtain ⟨a3, l3, g3, h⟩ := zaw h
   obtain ⟨s3, h3⟩ := ih (.expr) _ _ _ _ g3
   split at h
   ·rename_i hw
    have h4 := za4 hw
    have s4 := List.tail_suffix (l3)
    obtain ⟨s5, h5⟩ := ih (.casL _ _ _) _ _ _ _ h
    simp only [eats] at h3 h5 ⊢
    exact ⟨(s5).trans ((s4).trans ((s3).trans ((s2).trans ((s1).trans (s0))))), by omega⟩
   ·obtain ⟨h4, h⟩ := zap h
    have s4 := List.tail_suffix (l3)
    cases h
    simp only [eats] at h3 ⊢
    exact ⟨(s4).trans ((s3).trans ((s2).trans ((s1).trans (s0)))), by omega⟩
open Go.RowKit Go.Shelf
def NC (W : World) (b o : Nat) (x : Nd) (v : Value) : Prop := W.cell? ⟨b, o, none⟩ = some (.int .i64 x.kind) /\ W.cell? ⟨b, o + 1, none⟩ = some (.int .i64 x.a) /\ W.cell? ⟨b, o + 2, none⟩ = some (.int .i64 x.b) /\ W.cell? ⟨b, o + 3, none⟩ = some (.int .i64 x.c) /\ W.cell? ⟨b, o + 4, none⟩ = some (.int .i64 x.n) /\
 W.cell? ⟨b, o + 5, none⟩ = some (.string x.nm) /\ W.cell? ⟨b, o + 6, none⟩ = some (.string x.s) /\ W.cell? ⟨b, o + 7, none⟩ = some v /\ W.cell? ⟨b, o + 8, none⟩ = some (.int .i64 x.pos)
theorem NC.below {B : Nat} {W W' : World} {b o : Nat} {x : Nd} {v : Value} (h : NC W b o x v) (hb : Below B W W') (hlt : b < B) : NC W' b o x v := by
 have e : ∀ k, W'.cell? ⟨b, k, none⟩ = W.cell? ⟨b, k, none⟩ := fun k => hb.cell (p := ⟨b, k, none⟩) hlt
 obtain ⟨h0, h1, h2, h3, h4, h5, h6, h7, h8⟩ := h
 exact ⟨(e _).trans h0, (e _).trans h1, (e _).trans h2, (e _).trans h3, (e _).trans h4, (e _).trans h5, (e _).trans h6, (e _).trans h7, (e _).trans h8⟩
open Go.RowKit Go.Shelf
def NPost (N : List Nd) (w : World) (e : Ending) (w' : World) : Prop := ∃ A c ps, e = .returned (.agg #[.slice A N.length c]) /\ ps.map Prod.fst = N /\ OwnN w.heap.size w' (.slice A N.length c) ps /\ Below w.heap.size w w'
theorem zsm {B B' : Nat} {W : World} {v : Value} {ps : List (Nd × Value)} (h : OwnN B' W v ps) (hB : B <= B') : OwnN B W v ps := ⟨zbi h.1 hB, fun x hx => zbi (h.2 x hx) hB⟩
theorem zm1 (l m : List Nd) (L c1 c2 : Nat) (A C : Option Addr) (HL : Hid (l.length = L)) (HM : Hid (m.length = L)) (hL : L <= 1000000) (w : World) (HP : Hid (0 < L -> ∃ b1 o1 b2 o2, A = some (⟨b1, o1, none⟩ : Addr) /\ C = some (⟨b2, o2, none⟩ : Addr) /\ b1 < w.heap.size /\ b2 < w.heap.size /\ NdsAt w.heap.size w b1 o1 l /\ NdsAt w.heap.size w b2 o2 m)) (HS1 : Hid (∀ x ∈ l, x.l.length <= 1000000)) :
  Calls Tryz.prog 33 #[.agg #[.slice A L c1], .agg #[.slice C L c2]] w fun e w' => e = .returned (.bool (lns l m)) /\ Below w.heap.size w w' := by
 obtain ⟨W2, hW2⟩ : ∃ W2, (w.alloc (.cells #[.slice A L c1] 25)).alloc (.cells #[.slice C L c2] 25) = W2 := ⟨_, rfl⟩
 have HB2 : Hid (Below w.heap.size w W2) := jj (by rw [<- hW2]; exact (baw w _).alloc (by simp) _)
 have HX0 : Hid (W2.heap[w.heap.size]? = some (.cells #[.slice A L c1] 25 (0, 0))) := jj (by rw [<- hW2]; exact nextAt (newAt rfl))
 have HY0 : Hid (W2.heap[w.heap.size + 1]? = some (.cells #[.slice C L c2] 25 (0, 0))) := jj (by rw [<- hW2]; exact newAt (by simp))
 have HW2 := jj hW2
 have hs2 : W2.heap.size = w.heap.size + 2 := by rw [<- hW2]; simp
 clear hW2
 go_enter Tryz.func33, Tryz.ntmps33
 go_wp2
 go_loopw [5] (fun i wr => ∃ q : Nat, i = .int .i64 (q : Int) /\ q <= L /\ Hid (∀ (j : Nat) (x y : Nd), j < q -> l[j]? = some x -> m[j]? = some y -> sn x y = true) /\ Hid (Below W2.heap.size W2 wr)) (fun i _ => L - (intOf i).toNat)
 case atStart => exact ⟨0, rfl, Nat.zero_le _, jj (fun j f g h => absurd h (by omega)), jj (by rw [HW2.out]; exact br _ _)⟩
 case round =>
  obtain ⟨q, rfl, hq, HA, HB⟩ := hrel
  have hsz := HB.out.size
  have hx0 := (HB.out.block w.heap.size (by omega)).trans HX0.out
  have hy0 := (HB.out.block (w.heap.size + 1) (by omega)).trans HY0.out
  have cx : wr.cell? ⟨w.heap.size, 0, none⟩ = some (.slice A L c1) := (zaa hx0 0).trans rfl
  have cy : wr.cell? ⟨w.heap.size + 1, 0, none⟩ = some (.slice C L c2) := (zaa hy0 0).trans rfl
  have HBW : Hid (Below w.heap.size w wr) := jj (HB2.out.trans (HB.out.mono (by omega)))
  clear hx0 hy0
  by_cases hlt : q < L
  ·obtain ⟨b1, o1, b2, o2, rfl, rfl, hb1, hb2, hf1, hf2⟩ := HP.out (by omega)
   obtain ⟨x, hx⟩ : ∃ x, l[q]? = some x := ⟨_, List.getElem?_eq_getElem (by rw [HL.out]; exact hlt)⟩
   obtain ⟨y, hy⟩ : ∃ y, m[q]? = some y := ⟨_, List.getElem?_eq_getElem (by rw [HM.out]; exact hlt)⟩
   obtain ⟨fv, hfl, m0, m1, m2, m3, m4, m5, m6, m7, m8⟩ := (hf1.below HBW.out hb1) q x hx
   obtain ⟨gv, hgl, n0, n1, n2, n3, n4, n5, n6, n7, n8⟩ := (hf2.below HBW.out hb2) q y hy
   have HE : Hid (∀ w1, Below wr.heap.size wr w1 -> Calls Tryz.prog 59 #[.agg (ndArr x fv), .agg (ndArr y gv)] w1 fun e w' => e = .returned (.bool (sn x y)) /\ Below w1.heap.size w1 w') := jj fun w1 hb => zva x y fv gv w1 (((hfl.mono (by omega)).below hb).mono hb.size) (((hgl.mono (by omega)).below hb).mono hb.size) (HS1.out x (lme hx))
   obtain ⟨FA, fc, rfl, _⟩ := hfl
   obtain ⟨GA, gc, rfl, _⟩ := hgl
   have HX := jj hx
   have HY := jj hy
   obtain ⟨t, ht⟩ : ∃ t, sn x y = t := ⟨_, rfl⟩
   rw [ht] at HE
   have HT := jj ht
   clear hx hy ht hf1 hf2
   cases t with
   | false =>
    go_wp2_with fail
    go_region_with (go_at_call 59; refine (HE.out _ (br _ _).drew).mono ?_; rintro e w1 ⟨rfl, hb⟩; have HBB := jj (Below.trans (br wr.heap.size wr).drew hb); clear hb)
    all_goals
     go_wp2
     go_ret
     exact ⟨zag (zyd HX.out HY.out HT.out).symm, HBW.out.trans (HBB.out.mono (by omega))⟩
   | true =>
    go_wp2_with fail
    go_region_with (go_at_call 59; refine (HE.out _ (br _ _).drew).mono ?_; rintro e w1 ⟨rfl, hb⟩; have HBB := jj (Below.trans (br wr.heap.size wr).drew hb); clear hb)
    all_goals
     go_wp2
     go_roundw
     case rel =>
      refine ⟨q + 1, by go_num, by omega, jj ?_, jj (HB.out.trans (HBB.out.mono hsz))⟩
      intro j f' g' hj hf' hg'
      by_cases e : j = q
      ·subst e
       rw [HX.out] at hf'; rw [HY.out] at hg'
       injection hf' with hf'; injection hg' with hg'
       subst hf' hg'; exact HT.out
      ·exact HA.out j f' g' (by omega) hf' hg'
     case measure => simp [intOf]; omega
  ·obtain rfl : q = L := by omega
   have HR : Hid (lns l m = true) := jj (zqd (fun j f g h1 h2 => HA.out j f g (by have := zaz h1; rw [HL.out] at this; exact this) h1 h2) (by rw [HL.out, HM.out]))
   go_wp2
   go_ret
   exact ⟨zag HR.out.symm, HBW.out⟩
theorem zqh (L M c1 c2 : Nat) (A C : Option Addr) (hne : ¬ L = M) (w : World) :
  Calls Tryz.prog 33 #[.agg #[.slice A L c1], .agg #[.slice C M c2]] w fun e w' => e = .returned (.bool false) /\ Below w.heap.size w w' := by
 have hb : ((L : Int) != (M : Int)) = true := by simpa using (by omega : ¬ (L : Int) = (M : Int))
 go_enter Tryz.func33, Tryz.ntmps33
 go_wp2
 go_ret
 exact ⟨rfl, (baw w _).alloc (by simp) _⟩
theorem znn (l m : List Nd) (v u : Value) (w : World) (hv : Nodes w.heap.size w v l) (hu : Nodes w.heap.size w u m) (hL : l.length <= 1000000) (hS1 : ∀ x ∈ l, x.l.length <= 1000000) :
  Calls Tryz.prog 33 #[.agg #[v], .agg #[u]] w fun e w' => e = .returned (.bool (ln l m)) /\ Below w.heap.size w w' := by
 obtain ⟨A, c1, rfl, _, _, hq⟩ := hv
 obtain ⟨C, c2, rfl, _, _, hr⟩ := hu
 by_cases he : l.length = m.length
 ·have hb : ln l m = lns l m := by rw [ln, he]; simp
  rw [hb, <- he]
  refine zm1 l m _ c1 c2 A C (jj rfl) (jj he.symm) hL w (jj fun h => ?_) (jj hS1)
  obtain ⟨b1, o1, rfl, hb1, h1⟩ := hq h
  obtain ⟨b2, o2, rfl, hb2, h2⟩ := hr (by omega)
  exact ⟨b1, o1, b2, o2, rfl, rfl, hb1, hb2, h1, h2⟩
 ·have hb : ln l m = false := by rw [ln]; simp [he]
  rw [hb]
  exact zqh _ _ c1 c2 A C he w
end Go.Proofs.YtjakeidbajkdcaaGreatDoor.T
