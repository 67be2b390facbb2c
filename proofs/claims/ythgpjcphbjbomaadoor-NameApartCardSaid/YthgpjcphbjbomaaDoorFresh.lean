/- Fresh, the program's: the text itself, if it is none of the used ones; else its beginning and the least number that makes it none; what lay below is as it was. -/
import Derived.Test.YthgpjcphbjbomaaDoorLeast
import Derived.Test.YthgpjcphbjbomaaDoorMaps
namespace Go.Proofs.YthgpjcphbjbomaaDoor
open Go.RowKit
theorem itoa_is {n : Nat} {T : ByteArray} (h : dec n = T) (hn : n < 100) (w : World) : Calls Tryd.prog 33 #[.int .i64 n] w fun e w' => e = .returned (.string T) ∧ w = w' := by subst h; exact itoa_any n hn w
theorem cat_size (a b : ByteArray) : (a ++ b).size = a.size + b.size := by simp [ByteArray.size_append]
section
variable (ss : List ByteArray) (g c : Nat) (w : World) (hm : ss.length ≤ 90) (hz : Short ss) (hg : g < w.heap.size) (hh : Hid (Holds w g ss))
include hm hz hg hh
set_option maxHeartbeats 1000000 in
theorem fresh_no (s : ByteArray) (hs : s.size ≤ 1000) (HI : Hid (inB s ss = false)) :
    Calls Tryd.prog 19 #[.string s, .slice (some ⟨g, 0, none⟩) ss.length c] w fun e w' => e = .returned (.string s) ∧ Below w.heap.size w w' := by
  go_enter Tryd.func19, Tryd.ntmps19
  go_wp2_with (first
    | (go_at_call 30; refine (set_any ss g c _ (by omega) hz hg hh).mono ?_; rintro e w1 ⟨rfl, hown, hb1⟩)
    | (go_at_call 31; refine (has_is HI.out (by unfold maxLen; omega) _ hown).mono ?_; rintro e w2 ⟨rfl, hb2⟩)
    | (go_at_call 32; refine (clone_any s (by omega) _).mono ?_; rintro e w3 ⟨rfl, hb3⟩))
  go_ret
  exact ⟨rfl, (hb1.trans (hb2.mono hb1.size)).trans (hb3.mono (Nat.le_trans hb1.size hb2.size))⟩
set_option maxHeartbeats 2000000 in
theorem fresh_yes (s b : ByteArray) (hs0 : s.size ≤ 1000) (hx : s.extract 0 (min (s.size : Int) 16).toNat = b) (m : Nat) (hb : b.size ≤ 16) (HI : Hid (inB s ss = true)) (HL : Hid (Least ss b m)) :
    Calls Tryd.prog 19 #[.string s, .slice (some ⟨g, 0, none⟩) ss.length c] w fun e w' => e = .returned (.string (b ++ dec m)) ∧ Below w.heap.size w w' := by
  have hm1 : 1 ≤ m := HL.out.1
  have hm2 : m ≤ 91 := by have := HL.out.2.1; omega
  obtain ⟨M, hM⟩ : ∃ M, dec m = M := ⟨_, rfl⟩
  have hMs : M.size ≤ 20 := by rw [← hM]; exact dec_size m (by omega)
  have HM := Lib.hid hM
  rw [hM]
  clear hM
  go_enter Tryd.func19, Tryd.ntmps19
  go_wp2_with (first
    | (go_at_call 30; refine (set_any ss g c _ (by omega) hz hg hh).mono ?_; rintro e w1 ⟨rfl, hown, hb1⟩)
    | (go_at_call 31; refine (has_is HI.out (by unfold maxLen; omega) _ hown).mono ?_; rintro e w2 ⟨rfl, hb2⟩))
  have hown2 := owns_on hown hb2
  have hb12 := hb1.trans (hb2.mono hb1.size)
  clear hown hb1 hb2
  go_loopw [7] (fun i wr => ∃ k : Nat, 1 ≤ k ∧ k ≤ m ∧ i = .int .i64 k ∧ wr.ownsMap Tryd.prog 9 (unitElem (H := Unit)) w.heap.size ss.length (SS ss) ∧ Below w.heap.size w wr) (fun i _ => m - (intOf i).toNat)
  case atStart => exact ⟨1, Nat.le_refl _, hm1, rfl, hown2, hb12⟩
  case round =>
    obtain ⟨k, hk1, hk, rfl, hown, hbw⟩ := hrel
    by_cases hlt : k < m
    · obtain ⟨T, hT⟩ : ∃ T, dec k = T := ⟨_, rfl⟩
      have hTs : T.size ≤ 20 := by rw [← hT]; exact dec_size k (by omega)
      have HQ : Hid (inB (b ++ T) ss = true) := by rw [← hT]; exact Lib.hid (HL.out.2.2.2 k hk1 hlt)
      have HT := Lib.hid hT
      have hsz : (b ++ T).size ≤ maxLen := by rw [cat_size]; unfold maxLen; omega
      clear hT
      go_wp2_with (first
        | (go_at_call 33; refine (itoa_is HT.out (by omega) _).mono ?_; rintro e w' ⟨rfl, rfl⟩)
        | (go_at_call 31; refine (has_is HQ.out hsz _ hown).mono ?_; rintro e w2 ⟨rfl, hb2⟩))
      go_roundw
      case rel => exact ⟨k + 1, by omega, by omega, by go_num, owns_on hown hb2, hbw.trans (hb2.mono hbw.size)⟩
      case measure => simp [intOf]; omega
    · obtain rfl : k = m := by omega
      have HQ : Hid (inB (b ++ M) ss = false) := by rw [← HM.out]; exact Lib.hid HL.out.2.2.1
      have hsz : (b ++ M).size ≤ maxLen := by rw [cat_size]; unfold maxLen; omega
      go_wp2_with (first
        | (go_at_call 33; refine (itoa_is HM.out (by omega) _).mono ?_; rintro e w' ⟨rfl, rfl⟩)
        | (go_at_call 31; refine (has_is HQ.out hsz _ hown).mono ?_; rintro e w2 ⟨rfl, hb2⟩))
      go_ret
      exact ⟨rfl, hbw.trans (hb2.mono hbw.size)⟩
end
end Go.Proofs.YthgpjcphbjbomaaDoor
