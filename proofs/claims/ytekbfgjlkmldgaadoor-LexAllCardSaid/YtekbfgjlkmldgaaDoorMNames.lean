/- Name and Tag, the program's and the document's: each tells what it should; what lay below is as it was. Condition: the keywords lie in their variable. -/
import Derived.Test.YtekbfgjlkmldgaaDoorMKeys
namespace Go.Proofs.YtekbfgjlkmldgaaDoor.M
open Go.RowKit
def nameB (s : ByteArray) : Bool := wholeB s && (begW (fst s) && !kwB s)
def tagB (s : ByteArray) : Bool := wholeB s && begT (fst s)
theorem whole_no0 {s : ByteArray} (h : ¬ 0 < s.size) : wholeB s = false := by simp only [wholeB, decide_eq_false_iff_not]; omega
theorem whole_no20 {s : ByteArray} (h : ¬ s.size ≤ 20) : wholeB s = false := by simp only [wholeB, decide_eq_false_iff_not]; omega
theorem whole_now {s : ByteArray} (h : ¬ wl s = s.size) : wholeB s = false := by simp only [wholeB, decide_eq_false_iff_not]; exact fun x => h x.2.2
theorem whole_yes {s : ByteArray} (h0 : 0 < s.size) (h1 : s.size ≤ 20) (h : wl s = s.size) : wholeB s = true := by simp only [wholeB, decide_eq_true_eq]; exact ⟨h0, h1, h⟩
theorem whole_pos {s : ByteArray} (h : wholeB s = true) : 0 < s.size := by simp only [wholeB, decide_eq_true_eq] at h; exact h.1
theorem word_is {s : ByteArray} {n : Nat} (h : wl s = n) (hs : s.size ≤ 140737488351232) (w : World) :
    Calls Tryd.prog 28 #[.string s] w fun e w' => e = .returned (.int .i64 n) ∧ w = w' := by subst h; exact word_any s hs w
theorem rword_is {s : ByteArray} {n : Nat} (h : wl s = n) (hs : s.size ≤ 140737488351232) (w : World) :
    Calls Tryd.prog 21 #[.string s] w fun e w' => e = .returned (.int .i64 n) ∧ w = w' := by subst h; exact rword_any s hs w
set_option maxHeartbeats 400000 in
theorem whole_any (s : ByteArray) (hs : s.size ≤ 140737488351232) (w : World) :
    Calls Tryd.prog 53 #[.string s] w fun e w' => e = .returned (.bool (wholeB s)) ∧ w = w' := by
  by_cases h0 : 0 < s.size
  · have hne := ne_str h0
    by_cases h1 : s.size ≤ 20
    · obtain ⟨n, hn⟩ : ∃ n, wl s = n := ⟨_, rfl⟩
      by_cases h2 : n = s.size
      · subst h2
        rw [whole_yes h0 h1 hn]
        have HN := Lib.hid hn
        clear hn
        go_enter Tryd.func53, Tryd.ntmps53
        go_wp2_with (go_at_call 28; refine (word_is HN.out hs _).mono ?_; rintro e w' ⟨rfl, rfl⟩)
        go_ret
        exact ⟨rfl, rfl⟩
      · rw [whole_now (by rw [hn]; exact h2)]
        have HN := Lib.hid hn
        have h3 : ((n : Int) == (s.size : Int)) = false := by simpa using (by omega : ¬ (n : Int) = (s.size : Int))
        have h4 : (n == s.size) = false := by simpa using h2
        clear hn
        go_enter Tryd.func53, Tryd.ntmps53
        go_wp2_with (go_at_call 28; refine (word_is HN.out hs _).mono ?_; rintro e w' ⟨rfl, rfl⟩)
        go_ret
        exact ⟨rfl, rfl⟩
    · rw [whole_no20 h1]
      have h5 : decide ((s.size : Int) ≤ 20) = false := by simpa using (by omega : ¬ (s.size : Int) ≤ 20)
      go_enter Tryd.func53, Tryd.ntmps53
      go_wp2_with fail
      go_ret
      exact ⟨rfl, rfl⟩
  · rw [whole_no0 h0]
    obtain rfl := is_empty h0
    go_enter Tryd.func53, Tryd.ntmps53
    go_wp2_with fail
    go_ret
    exact ⟨rfl, rfl⟩
theorem whole_is {s : ByteArray} {b : Bool} (h : wholeB s = b) (hs : s.size ≤ 140737488351232) (w : World) :
    Calls Tryd.prog 53 #[.string s] w fun e w' => e = .returned (.bool b) ∧ w = w' := by subst h; exact whole_any s hs w
set_option maxHeartbeats 400000 in
theorem name_go {B : Nat} (s : ByteArray) (b b1 b2 : Bool) (h0 : 0 < s.size) (hs : s.size ≤ 140737488351232) (HV : Hid (wholeB s = true)) (HW : Hid (begW s[0].toNat = b1)) (HK : Hid (kwB s = b2)) (HB : Hid ((b1 && !b2) = b)) (w : World) (hK : Kws B w) :
    Calls Tryd.prog 45 #[.string s] w fun e w' => e = .returned (.bool b) ∧ w = w' := by
  cases b1 with
  | false =>
    go_enter Tryd.func45, Tryd.ntmps45
    go_wp2_with (first | (go_at_call 53; refine (whole_is HV.out hs _).mono ?_; rintro e w' ⟨rfl, rfl⟩) | (go_at_call 40; refine (bw_is HW.out _).mono ?_; rintro e w' ⟨rfl, rfl⟩))
    go_ret
    exact ⟨ret_bool HB.out, rfl⟩
  | true =>
    go_enter Tryd.func45, Tryd.ntmps45
    go_wp2_with (first | (go_at_call 53; refine (whole_is HV.out hs _).mono ?_; rintro e w' ⟨rfl, rfl⟩) | (go_at_call 40; refine (bw_is HW.out _).mono ?_; rintro e w' ⟨rfl, rfl⟩) | (go_at_call 43; refine (keyword_is HK.out _ hK).mono ?_; rintro e w' ⟨rfl, rfl⟩))
    go_ret
    exact ⟨ret_bool HB.out, rfl⟩
theorem name_any {B : Nat} (s : ByteArray) (hs : s.size ≤ 140737488351232) (w : World) (hK : Kws B w) :
    Calls Tryd.prog 45 #[.string s] w fun e w' => e = .returned (.bool (nameB s)) ∧ w = w' := by
  cases hv : wholeB s with
  | true =>
    have h0 := whole_pos hv
    exact name_go s _ _ _ h0 hs (Lib.hid hv) (Lib.hid rfl) (Lib.hid rfl) (Lib.hid (by rw [nameB, hv, fst_at h0]; rfl)) w hK
  | false =>
    rw [nameB, hv]
    have HV := Lib.hid hv
    clear hv
    go_enter Tryd.func45, Tryd.ntmps45
    go_wp2_with (go_at_call 53; refine (whole_is HV.out hs _).mono ?_; rintro e w' ⟨rfl, rfl⟩)
    go_ret
    exact ⟨rfl, rfl⟩
set_option maxHeartbeats 400000 in
theorem tag_go (s : ByteArray) (b : Bool) (h0 : 0 < s.size) (hs : s.size ≤ 140737488351232) (HV : Hid (wholeB s = true)) (HT : Hid (begT s[0].toNat = b)) (w : World) :
    Calls Tryd.prog 46 #[.string s] w fun e w' => e = .returned (.bool b) ∧ w = w' := by
  go_enter Tryd.func46, Tryd.ntmps46
  go_wp2_with (first | (go_at_call 53; refine (whole_is HV.out hs _).mono ?_; rintro e w' ⟨rfl, rfl⟩) | (go_at_call 41; refine (bt_is HT.out _).mono ?_; rintro e w' ⟨rfl, rfl⟩))
  go_ret
  exact ⟨rfl, rfl⟩
theorem tag_any (s : ByteArray) (hs : s.size ≤ 140737488351232) (w : World) :
    Calls Tryd.prog 46 #[.string s] w fun e w' => e = .returned (.bool (tagB s)) ∧ w = w' := by
  cases hv : wholeB s with
  | true =>
    have h0 := whole_pos hv
    exact tag_go s _ h0 hs (Lib.hid hv) (Lib.hid (by rw [tagB, hv, fst_at h0]; rfl)) w
  | false =>
    rw [tagB, hv]
    have HV := Lib.hid hv
    clear hv
    go_enter Tryd.func46, Tryd.ntmps46
    go_wp2_with (go_at_call 53; refine (whole_is HV.out hs _).mono ?_; rintro e w' ⟨rfl, rfl⟩)
    go_ret
    exact ⟨rfl, rfl⟩

theorem whole_parts {s : ByteArray} (h : wholeB s = true) : s.size ≤ 20 ∧ wl s = s.size := by simp only [wholeB, decide_eq_true_eq] at h; exact h.2
end Go.Proofs.YtekbfgjlkmldgaaDoor.M
