/- Fresh, the document's: as the program's; what lay below is as it was. -/
import Derived.Test.YthgpjcphbjbomaaDoorFresh
import Derived.RegionTactic
import Derived.Deep.RegionWith
import Derived.ChangeAlike
namespace Go.Proofs.YthgpjcphbjbomaaDoor
open Go.RowKit
theorem ritoa_is {n : Nat} {T : ByteArray} (h : dec n = T) (h0 : 0 < n) (hn : n < 1000000) (w : World) : Calls Tryd.prog 34 #[.int .i64 n] w fun e w' => e = .returned (.string T) ∧ Below w.heap.size w w' := by subst h; exact ritoa_any n h0 hn w
theorem in_all {s : ByteArray} {ss : List ByteArray} {b : Bool} {g c : Nat} (h : inB s ss = b) (w : World) (hm : ss.length ≤ 140737488351232) (hh : Hid (Holds w g ss)) :
    Calls Tryd.prog 28 #[.string s, .slice (some ⟨g, 0, none⟩) ss.length c] w fun e w' => e = .returned (.bool b) ∧ w = w' := in_is (by rw [List.take_length]; exact h) w (Nat.le_refl _) hm hh
section
variable (ss : List ByteArray) (g c : Nat) (w : World) (hm : ss.length ≤ 90) (hg : g < w.heap.size) (hh : Hid (Holds w g ss))
include hm hg hh
set_option maxHeartbeats 1000000 in
omit hg in
theorem rfresh_no (s : ByteArray) (HI : Hid (inB s ss = false)) :
    Calls Tryd.prog 20 #[.string s, .slice (some ⟨g, 0, none⟩) ss.length c] w fun e w' => e = .returned (.string s) ∧ Below w.heap.size w w' := by
  go_enter Tryd.func20, Tryd.ntmps20
  go_wp2_with (go_at_call 28; refine (in_all HI.out _ (by omega) hh).mono ?_; rintro e w1 ⟨rfl, rfl⟩)
  go_ret
  exact ⟨rfl, Below.refl _ _⟩
set_option maxHeartbeats 2000000 in
theorem rfresh_yes (s b : ByteArray) (hs0 : s.size ≤ 1000) (hx : s.extract 0 (min (s.size : Int) 16).toNat = b) (m : Nat) (hb : b.size ≤ 16) (HI : Hid (inB s ss = true)) (HL : Hid (Least ss b m)) :
    Calls Tryd.prog 20 #[.string s, .slice (some ⟨g, 0, none⟩) ss.length c] w fun e w' => e = .returned (.string (b ++ dec m)) ∧ Below w.heap.size w w' := by
  have hm1 : 1 ≤ m := HL.out.1
  have hm2 : m ≤ ss.length + 1 := HL.out.2.1
  obtain ⟨M, hM⟩ : ∃ M, dec m = M := ⟨_, rfl⟩
  have hMs : M.size ≤ 20 := by rw [← hM]; exact dec_size m (by omega)
  have HM := Lib.hid hM
  rw [hM]
  clear hM
  go_enter Tryd.func20, Tryd.ntmps20
  go_wp2_with (go_at_call 28; refine (in_all HI.out _ (by omega) hh).mono ?_; rintro e w1 ⟨rfl, rfl⟩)
  go_loopw [5, 6] (fun i _ wr => ∃ k : Nat, 1 ≤ k ∧ k ≤ m ∧ i = .int .i64 k ∧ Hid (Holds wr g ss) ∧ g < wr.heap.size ∧ Below w.heap.size w wr) (fun i _ _ => m - (intOf i).toNat)
  case atStart => exact ⟨1, Nat.le_refl _, hm1, rfl, hh, hg, Below.refl _ _⟩
  case round =>
    obtain ⟨k, hk1, hk, rfl, HH, hgr, hbw⟩ := hrel
    by_cases hlt : k < m
    · obtain ⟨T, hT⟩ : ∃ T, dec k = T := ⟨_, rfl⟩
      have hTs : T.size ≤ 20 := by rw [← hT]; exact dec_size k (by omega)
      have HQ : Hid (inB (b ++ T) ss = true) := by rw [← hT]; exact Lib.hid (HL.out.2.2.2 k hk1 hlt)
      have HT := Lib.hid hT
      clear hT
      go_wp2_with fail
      go_region_with (go_at_call 34; refine (ritoa_is HT.out (by omega) (by omega) _).mono ?_; rintro e w1 ⟨rfl, hb1⟩)
      all_goals
        have HH1 : Hid (Holds w1 g ss) := Lib.hid ((show Holds wr.drew g ss from HH.out).on hgr hb1)
        have hg1 : g < w1.heap.size := Nat.lt_of_lt_of_le hgr hb1.size
        have hb2 : Below w.heap.size w w1 := (show Below w.heap.size w wr.drew from hbw.drew).trans (hb1.mono hbw.size)
        go_wp2_with (go_at_call 28; refine (in_all HQ.out _ (by omega) HH1).mono ?_; rintro e w2 ⟨rfl, rfl⟩)
        go_roundw
        case rel => exact ⟨k + 1, by omega, by omega, by go_num, HH1, hg1, hb2⟩
        case measure => simp [intOf]; omega
    · obtain rfl : k = m := by omega
      have HQ : Hid (inB (b ++ M) ss = false) := by rw [← HM.out]; exact Lib.hid HL.out.2.2.1
      go_wp2_with fail
      go_region_with (go_at_call 34; refine (ritoa_is HM.out (by omega) (by omega) _).mono ?_; rintro e w1 ⟨rfl, hb1⟩)
      all_goals
        have HH1 : Hid (Holds w1 g ss) := Lib.hid ((show Holds wr.drew g ss from HH.out).on hgr hb1)
        have hb2 : Below w.heap.size w w1 := (show Below w.heap.size w wr.drew from hbw.drew).trans (hb1.mono hbw.size)
        go_wp2_with (go_at_call 28; refine (in_all HQ.out _ (by omega) HH1).mono ?_; rintro e w2 ⟨rfl, rfl⟩)
        go_ret
        exact ⟨rfl, hb2⟩
end
end Go.Proofs.YthgpjcphbjbomaaDoor
