/- Joined by program. -/
import Derived.Lib.Strings
import Derived.Test.YtjakeidbajkdcaaGreatDoorRows
import Derived.WalkKit
import Derived.ProofKit
import Derived.OpenShut
import Derived.Outline
import Derived.LoopTactic
import Derived.Lib.Hide
set_option maxHeartbeats 1000000
namespace Go.Proofs.YtjakeidbajkdcaaGreatDoor.M
def begW (n : Nat) : Bool := decide (97 <= n /\ n <= 122 ∨ n = 95)
def begT (n : Nat) : Bool := decide (65 <= n /\ n <= 90)
def isD (n : Nat) : Bool := decide (48 <= n /\ n <= 57)
def goes (n : Nat) : Bool := begW n || begT n || isD n
theorem begW_t {n : Nat} (h : 97 <= n) (h' : n <= 122) : begW n = true := by simp only [begW, decide_eq_true_eq]; omega
theorem begW_f {n : Nat} (h : n < 97 ∨ 122 < n) (h' : n ≠ 95) : begW n = false := by simp only [begW, decide_eq_false_iff_not]; omega
theorem begW_95 : begW 95 = true := rfl
theorem begT_t {n : Nat} (h : 65 <= n) (h' : n <= 90) : begT n = true := by simp only [begT, decide_eq_true_eq]; omega
theorem begT_f {n : Nat} (h : n < 65 ∨ 90 < n) : begT n = false := by simp only [begT, decide_eq_false_iff_not]; omega
theorem begT_not {n : Nat} (h : begW n = true) : begT n = false := by
  simp only [begW, begT, decide_eq_true_eq, decide_eq_false_iff_not] at h ⊢; omega
theorem isD_iff {n : Nat} : isD n = true ↔ 48 <= n /\ n <= 57 := by simp only [isD, decide_eq_true_eq]
theorem size_len (s : ByteArray) : s.data.toList.length = s.size := by rw [Array.length_toList]; rfl
theorem drop_at (s : ByteArray) (k : Nat) (h : k < s.size) : s.data.toList.drop k = s[k] :: s.data.toList.drop (k + 1) := by
  rw [List.drop_eq_getElem_cons (by rw [size_len]; exact h)]; rfl
def more (s : ByteArray) (k : Nat) : Nat := ((s.data.toList.drop k).takeWhile fun c => goes c.toNat).length
theorem more_go {s : ByteArray} {k : Nat} (h : k < s.size) (hg : goes s[k].toNat = true) : more s k = more s (k + 1) + 1 := by
  rw [more, drop_at s k h, List.takeWhile_cons, if_pos hg, List.length_cons, more]
theorem more_stop {s : ByteArray} {k : Nat} (h : k < s.size) (hg : goes s[k].toNat = false) : more s k = 0 := by
  rw [more, drop_at s k h, List.takeWhile_cons, if_neg (by rw [hg]; decide)]; rfl
theorem more_end {s : ByteArray} {k : Nat} (h : s.size <= k) : more s k = 0 := by
  rw [more, List.drop_eq_nil_of_le (by rw [size_len]; exact h)]; rfl
theorem more_le {s : ByteArray} {k : Nat} (h : k <= s.size) : k + more s k <= s.size := by
  have h1 := (List.takeWhile_sublist (fun c : UInt8 => goes c.toNat) (l := s.data.toList.drop k)).length_le
  rw [List.length_drop, size_len] at h1
  rw [more]; omega
def fst (s : ByteArray) : Nat := (s.data.toList.headD 0).toNat
theorem fst_at {s : ByteArray} (h : 0 < s.size) : fst s = s[0].toNat := by
  have := drop_at s 0 h
  rw [List.drop_zero] at this
  rw [fst, this]; rfl
def wl (s : ByteArray) : Nat := if 0 < s.size /\ (begW (fst s) || begT (fst s)) = true then 1 + more s 1 else 0
theorem wl_none {s : ByteArray} (h : ¬ 0 < s.size) : wl s = 0 := by rw [wl, if_neg (fun x => h x.1)]
theorem wl_not {s : ByteArray} (h : begW (fst s) = false) (h' : begT (fst s) = false) : wl s = 0 := by rw [wl, if_neg (by rw [h, h']; simp)]
theorem wl_w {s : ByteArray} (h0 : 0 < s.size) (h : (begW (fst s) || begT (fst s)) = true) : wl s = 1 + more s 1 := by rw [wl, if_pos ⟨h0, h⟩]
theorem wl_le (s : ByteArray) : wl s <= s.size := by
  by_cases h0 : 0 < s.size
  · have := more_le (s := s) (k := 1) (by omega)
    rw [wl]; split <;> omega
  · rw [wl_none h0]; omega
def wholeB (s : ByteArray) : Bool := decide (0 < s.size /\ s.size <= 20 /\ wl s = s.size)
open Go.RowKit
theorem bw_any (n : Nat) (w : World) : Calls Tryz.prog 149 #[.int .u8 (n : Int)] w fun e w' => e = .returned (.bool (begW n)) /\ w = w' := by
  by_cases h1 : 97 <= n
  · by_cases h2 : n <= 122
    · rw [begW_t h1 h2]
      have h4 : decide ((n : Int) <= 122) = true := by simpa using (by omega : (n : Int) <= 122)
      go_enter Tryz.func149, Tryz.ntmps149
      go_wp2
      go_ret
      exact ⟨rfl, rfl⟩
    · rw [begW_f (by omega) (by omega)]
      have h3 : ((n : Int) == 95) = false := by simpa using (by omega : ¬ (n : Int) = 95)
      have h4 : decide ((n : Int) <= 122) = false := by simpa using (by omega : ¬ (n : Int) <= 122)
      go_enter Tryz.func149, Tryz.ntmps149
      go_wp2
      go_ret
      exact ⟨rfl, rfl⟩
  · by_cases h3 : n = 95
    · subst h3
      rw [begW_95]
      go_enter Tryz.func149, Tryz.ntmps149
      go_wp2
      go_ret
      exact ⟨rfl, rfl⟩
    · rw [begW_f (by omega) h3]
      have h4 : ((n : Int) == 95) = false := by simpa using (by omega : ¬ (n : Int) = 95)
      go_enter Tryz.func149, Tryz.ntmps149
      go_wp2
      go_ret
      exact ⟨rfl, rfl⟩
theorem sm_any (n : Nat) (w : World) : Calls Tryz.prog 112 #[.int .u8 (n : Int)] w fun e w' => e = .returned (.bool (begW n)) /\ w = w' := by
  by_cases h1 : 97 <= n
  · by_cases h2 : n <= 122
    · rw [begW_t h1 h2]
      have h4 : decide ((n : Int) <= 122) = true := by simpa using (by omega : (n : Int) <= 122)
      go_enter Tryz.func112, Tryz.ntmps112
      go_wp2
      go_ret
      exact ⟨rfl, rfl⟩
    · rw [begW_f (by omega) (by omega)]
      have h3 : ((n : Int) == 95) = false := by simpa using (by omega : ¬ (n : Int) = 95)
      have h4 : decide ((n : Int) <= 122) = false := by simpa using (by omega : ¬ (n : Int) <= 122)
      go_enter Tryz.func112, Tryz.ntmps112
      go_wp2
      go_ret
      exact ⟨rfl, rfl⟩
  · by_cases h3 : n = 95
    · subst h3
      rw [begW_95]
      go_enter Tryz.func112, Tryz.ntmps112
      go_wp2
      go_ret
      exact ⟨rfl, rfl⟩
    · rw [begW_f (by omega) h3]
      have h4 : ((n : Int) == 95) = false := by simpa using (by omega : ¬ (n : Int) = 95)
      go_enter Tryz.func112, Tryz.ntmps112
      go_wp2
      go_ret
      exact ⟨rfl, rfl⟩
theorem bt_any (n : Nat) (w : World) : Calls Tryz.prog 150 #[.int .u8 (n : Int)] w fun e w' => e = .returned (.bool (begT n)) /\ w = w' := by
  by_cases h1 : 65 <= n
  · by_cases h2 : n <= 90
    · rw [begT_t h1 h2]
      have h4 : decide ((n : Int) <= 90) = true := by simpa using (by omega : (n : Int) <= 90)
      go_enter Tryz.func150, Tryz.ntmps150
      go_wp2
      go_ret
      exact ⟨rfl, rfl⟩
    · rw [begT_f (by omega)]
      have h4 : decide ((n : Int) <= 90) = false := by simpa using (by omega : ¬ (n : Int) <= 90)
      go_enter Tryz.func150, Tryz.ntmps150
      go_wp2
      go_ret
      exact ⟨rfl, rfl⟩
  · rw [begT_f (by omega)]
    go_enter Tryz.func150, Tryz.ntmps150
    go_wp2
    go_ret
    exact ⟨rfl, rfl⟩
theorem gr_any (n : Nat) (w : World) : Calls Tryz.prog 113 #[.int .u8 (n : Int)] w fun e w' => e = .returned (.bool (begT n)) /\ w = w' := by
  by_cases h1 : 65 <= n
  · by_cases h2 : n <= 90
    · rw [begT_t h1 h2]
      have h4 : decide ((n : Int) <= 90) = true := by simpa using (by omega : (n : Int) <= 90)
      go_enter Tryz.func113, Tryz.ntmps113
      go_wp2
      go_ret
      exact ⟨rfl, rfl⟩
    · rw [begT_f (by omega)]
      have h4 : decide ((n : Int) <= 90) = false := by simpa using (by omega : ¬ (n : Int) <= 90)
      go_enter Tryz.func113, Tryz.ntmps113
      go_wp2
      go_ret
      exact ⟨rfl, rfl⟩
  · rw [begT_f (by omega)]
    go_enter Tryz.func113, Tryz.ntmps113
    go_wp2
    go_ret
    exact ⟨rfl, rfl⟩
theorem bw_is {n : Nat} {b : Bool} (h : begW n = b) (w : World) : Calls Tryz.prog 149 #[.int .u8 (n : Int)] w fun e w' => e = .returned (.bool b) /\ w = w' := by subst h; exact bw_any n w
theorem bt_is {n : Nat} {b : Bool} (h : begT n = b) (w : World) : Calls Tryz.prog 150 #[.int .u8 (n : Int)] w fun e w' => e = .returned (.bool b) /\ w = w' := by subst h; exact bt_any n w
theorem sm_is {n : Nat} {b : Bool} (h : begW n = b) (w : World) : Calls Tryz.prog 112 #[.int .u8 (n : Int)] w fun e w' => e = .returned (.bool b) /\ w = w' := by subst h; exact sm_any n w
theorem gr_is {n : Nat} {b : Bool} (h : begT n = b) (w : World) : Calls Tryz.prog 113 #[.int .u8 (n : Int)] w fun e w' => e = .returned (.bool b) /\ w = w' := by subst h; exact gr_any n w
theorem goes_w {n : Nat} (h : begW n = true) : goes n = true := by rw [goes, h]; rfl
theorem goes_t {n : Nat} (h : begT n = true) : goes n = true := by rw [goes, h]; cases begW n <;> rfl
theorem goes_d {n : Nat} (h : 48 <= n) (h' : n <= 57) : goes n = true := by
  rw [goes, isD_iff.2 ⟨h, h'⟩]; cases begW n <;> cases begT n <;> rfl
theorem goes_no {n : Nat} (h : begW n = false) (h' : begT n = false) (h'' : ¬ (48 <= n /\ n <= 57)) : goes n = false := by
  rw [goes, h, h', Bool.false_or, Bool.false_or]
  cases hd : isD n with
  | false => rfl
  | true => exact absurd (isD_iff.1 hd) h''
theorem go_any (n : Nat) (w : World) : Calls Tryz.prog 151 #[.int .u8 (n : Int)] w fun e w' => e = .returned (.bool (goes n)) /\ w = w' := by
  cases hw : begW n with
  | true =>
    rw [goes_w hw]
    have HW : Hid (begW n = true) := hw
    clear hw
    go_enter Tryz.func151, Tryz.ntmps151
    go_wp2_with (first | (go_at_call 149; refine (bw_is HW.out _).mono ?_; rintro e w' ⟨rfl, rfl⟩))
    go_ret
    exact ⟨rfl, rfl⟩
  | false =>
    cases ht : begT n with
    | true =>
      rw [goes_t ht]
      have HW : Hid (begW n = false) := hw
      have HT : Hid (begT n = true) := ht
      clear hw ht
      go_enter Tryz.func151, Tryz.ntmps151
      go_wp2_with (first | (go_at_call 149; refine (bw_is HW.out _).mono ?_; rintro e w' ⟨rfl, rfl⟩) | (go_at_call 150; refine (bt_is HT.out _).mono ?_; rintro e w' ⟨rfl, rfl⟩))
      go_ret
      exact ⟨rfl, rfl⟩
    | false =>
      by_cases h1 : 48 <= n
      · by_cases h2 : n <= 57
        · rw [goes_d h1 h2]
          have h4 : decide ((n : Int) <= 57) = true := by simpa using (by omega : (n : Int) <= 57)
          have HW : Hid (begW n = false) := hw
          have HT : Hid (begT n = false) := ht
          clear hw ht
          go_enter Tryz.func151, Tryz.ntmps151
          go_wp2_with (first | (go_at_call 149; refine (bw_is HW.out _).mono ?_; rintro e w' ⟨rfl, rfl⟩) | (go_at_call 150; refine (bt_is HT.out _).mono ?_; rintro e w' ⟨rfl, rfl⟩))
          go_ret
          exact ⟨rfl, rfl⟩
        · rw [goes_no hw ht (by omega)]
          have h4 : decide ((n : Int) <= 57) = false := by simpa using (by omega : ¬ (n : Int) <= 57)
          have HW : Hid (begW n = false) := hw
          have HT : Hid (begT n = false) := ht
          clear hw ht
          go_enter Tryz.func151, Tryz.ntmps151
          go_wp2_with (first | (go_at_call 149; refine (bw_is HW.out _).mono ?_; rintro e w' ⟨rfl, rfl⟩) | (go_at_call 150; refine (bt_is HT.out _).mono ?_; rintro e w' ⟨rfl, rfl⟩))
          go_ret
          exact ⟨rfl, rfl⟩
      · rw [goes_no hw ht (by omega)]
        have h4 : decide (48 <= (n : Int)) = false := by simpa using (by omega : ¬ 48 <= (n : Int))
        have HW : Hid (begW n = false) := hw
        have HT : Hid (begT n = false) := ht
        clear hw ht
        go_enter Tryz.func151, Tryz.ntmps151
        go_wp2_with (first | (go_at_call 149; refine (bw_is HW.out _).mono ?_; rintro e w' ⟨rfl, rfl⟩) | (go_at_call 150; refine (bt_is HT.out _).mono ?_; rintro e w' ⟨rfl, rfl⟩))
        go_ret
        exact ⟨rfl, rfl⟩
theorem go_is {n : Nat} {b : Bool} (h : goes n = b) (w : World) : Calls Tryz.prog 151 #[.int .u8 (n : Int)] w fun e w' => e = .returned (.bool b) /\ w = w' := by subst h; exact go_any n w
open Go.RowKit
theorem ret_num {a b : Int} (h : a = b) : Ending.returned (.int .i64 a) = .returned (.int .i64 b) := by rw [h]
theorem ne_str {s : ByteArray} (h : 0 < s.size) : s.toList.isEmpty = false := by
  rw [ByteArray.toList_eq]
  cases hl : s.data.toList with
  | nil => have := size_len s; rw [hl] at this; simp at this; omega
  | cons => rfl
theorem is_empty {s : ByteArray} (h : ¬ 0 < s.size) : s = ⟨#[]⟩ := by
  apply ByteArray.ext
  exact Array.eq_empty_of_size_eq_zero (by have : s.data.size = s.size := rfl; omega)
theorem word_no (s : ByteArray) (h0 : 0 < s.size) (HW : Hid (begW s[0].toNat = false)) (HT : Hid (begT s[0].toNat = false)) (w : World) :
    Calls Tryz.prog 118 #[.string s] w fun e w' => e = .returned (.int .i64 0) /\ w = w' := by
  have hne := ne_str h0
  go_enter Tryz.func118, Tryz.ntmps118
  go_wp2_with (first | (go_at_call 149; refine (bw_is HW.out _).mono ?_; rintro e w' ⟨rfl, rfl⟩) | (go_at_call 150; refine (bt_is HT.out _).mono ?_; rintro e w' ⟨rfl, rfl⟩))
  go_ret
  exact ⟨rfl, rfl⟩
theorem word_w (s : ByteArray) (hs : s.size <= 9223372036854775807) (h0 : 0 < s.size) (HW : Hid (begW s[0].toNat = true)) (HL : Hid (wl s = 1 + more s 1)) (w : World) :
    Calls Tryz.prog 118 #[.string s] w fun e w' => e = .returned (.int .i64 (wl s)) /\ w = w' := by
  have hne := ne_str h0
  go_enter Tryz.func118, Tryz.ntmps118
  go_wp2_with (go_at_call 149; refine (bw_is HW.out _).mono ?_; rintro e w' ⟨rfl, rfl⟩)
  go_loop [3] (fun i => ∃ k : Nat, k <= s.size /\ i = .int .i64 k /\ Hid (wl s = k + more s k)) (fun i => s.size - (intOf i).toNat)
  case atStart => exact ⟨1, by omega, rfl, HL⟩
  case round =>
    obtain ⟨k, hk, rfl, HK⟩ := hrel
    by_cases hlt : k < s.size
    · cases hg : goes s[k].toNat with
      | true =>
        have HN : Hid (wl s = (k + 1 : Nat) + more s (k + 1)) := by have := HK.out; rw [more_go hlt hg] at this; exact Lib.hid (by omega)
        have HG := Lib.hid hg
        clear hg
        go_wp2_with (go_at_call 151; refine (go_is HG.out _).mono ?_; rintro e w' ⟨rfl, rfl⟩)
        go_round
        case rel => exact ⟨k + 1, by omega, by go_num, HN⟩
        case measure => simp [intOf]; omega
      | false =>
        have HN : Hid (wl s = k) := by have := HK.out; rw [more_stop hlt hg] at this; exact Lib.hid this
        have HG := Lib.hid hg
        clear hg
        go_wp2_with (go_at_call 151; refine (go_is HG.out _).mono ?_; rintro e w' ⟨rfl, rfl⟩)
        go_ret
        exact ⟨ret_num (by rw [HN.out]), rfl⟩
    · have HN : Hid (wl s = k) := by have := HK.out; rw [more_end (by omega)] at this; exact Lib.hid this
      go_wp2_with (go_at_call 151; fail)
      go_ret
      exact ⟨ret_num (by rw [HN.out]), rfl⟩
theorem word_t (s : ByteArray) (hs : s.size <= 9223372036854775807) (h0 : 0 < s.size) (HW : Hid (begW s[0].toNat = false)) (HT : Hid (begT s[0].toNat = true)) (HL : Hid (wl s = 1 + more s 1)) (w : World) :
    Calls Tryz.prog 118 #[.string s] w fun e w' => e = .returned (.int .i64 (wl s)) /\ w = w' := by
  have hne := ne_str h0
  go_enter Tryz.func118, Tryz.ntmps118
  go_wp2_with (first | (go_at_call 149; refine (bw_is HW.out _).mono ?_; rintro e w' ⟨rfl, rfl⟩) | (go_at_call 150; refine (bt_is HT.out _).mono ?_; rintro e w' ⟨rfl, rfl⟩))
  go_loop [3] (fun i => ∃ k : Nat, k <= s.size /\ i = .int .i64 k /\ Hid (wl s = k + more s k)) (fun i => s.size - (intOf i).toNat)
  case atStart => exact ⟨1, by omega, rfl, HL⟩
  case round =>
    obtain ⟨k, hk, rfl, HK⟩ := hrel
    by_cases hlt : k < s.size
    · cases hg : goes s[k].toNat with
      | true =>
        have HN : Hid (wl s = (k + 1 : Nat) + more s (k + 1)) := by have := HK.out; rw [more_go hlt hg] at this; exact Lib.hid (by omega)
        have HG := Lib.hid hg
        clear hg
        go_wp2_with (go_at_call 151; refine (go_is HG.out _).mono ?_; rintro e w' ⟨rfl, rfl⟩)
        go_round
        case rel => exact ⟨k + 1, by omega, by go_num, HN⟩
        case measure => simp [intOf]; omega
      | false =>
        have HN : Hid (wl s = k) := by have := HK.out; rw [more_stop hlt hg] at this; exact Lib.hid this
        have HG := Lib.hid hg
        clear hg
        go_wp2_with (go_at_call 151; refine (go_is HG.out _).mono ?_; rintro e w' ⟨rfl, rfl⟩)
        go_ret
        exact ⟨ret_num (by rw [HN.out]), rfl⟩
    · have HN : Hid (wl s = k) := by have := HK.out; rw [more_end (by omega)] at this; exact Lib.hid this
      go_wp2_with (go_at_call 151; fail)
      go_ret
      exact ⟨ret_num (by rw [HN.out]), rfl⟩
theorem word_any (s : ByteArray) (hs : s.size <= 9223372036854775807) (w : World) :
    Calls Tryz.prog 118 #[.string s] w fun e w' => e = .returned (.int .i64 (wl s)) /\ w = w' := by
  by_cases h0 : 0 < s.size
  · have hf := fst_at h0
    cases hw : begW s[0].toNat with
    | true => exact word_w s hs h0 (Lib.hid hw) (Lib.hid (wl_w h0 (by rw [hf, hw]; rfl))) w
    | false =>
      cases ht : begT s[0].toNat with
      | true => exact word_t s hs h0 (Lib.hid hw) (Lib.hid ht) (Lib.hid (wl_w h0 (by rw [hf, hw, ht]; rfl))) w
      | false =>
        rw [wl_not (by rw [hf]; exact hw) (by rw [hf]; exact ht)]
        exact word_no s h0 (Lib.hid hw) (Lib.hid ht) w
  · rw [wl_none h0]
    obtain rfl := is_empty h0
    go_enter Tryz.func118, Tryz.ntmps118
    go_wp2_with fail
    go_ret
    exact ⟨rfl, rfl⟩
theorem rword_no (s : ByteArray) (h0 : 0 < s.size) (HW : Hid (begW s[0].toNat = false)) (HT : Hid (begT s[0].toNat = false)) (w : World) :
    Calls Tryz.prog 90 #[.string s] w fun e w' => e = .returned (.int .i64 0) /\ w = w' := by
  have hz : ((s.size : Int) == 0) = false := by simpa using (by omega : ¬ s.size = 0)
  go_enter Tryz.func90, Tryz.ntmps90
  go_wp2_with (first | (go_at_call 112; refine (sm_is HW.out _).mono ?_; rintro e w' ⟨rfl, rfl⟩) | (go_at_call 113; refine (gr_is HT.out _).mono ?_; rintro e w' ⟨rfl, rfl⟩))
  go_ret
  exact ⟨rfl, rfl⟩
theorem rword_w (s : ByteArray) (hs : s.size <= 9223372036854775807) (h0 : 0 < s.size) (HW : Hid (begW s[0].toNat = true)) (HL : Hid (wl s = 1 + more s 1)) (w : World) :
    Calls Tryz.prog 90 #[.string s] w fun e w' => e = .returned (.int .i64 (wl s)) /\ w = w' := by
  have hz : ((s.size : Int) == 0) = false := by simpa using (by omega : ¬ s.size = 0)
  go_enter Tryz.func90, Tryz.ntmps90
  go_wp2_with (go_at_call 112; refine (sm_is HW.out _).mono ?_; rintro e w' ⟨rfl, rfl⟩)
  go_loop [3] (fun i => ∃ k : Nat, k <= s.size /\ i = .int .i64 k /\ Hid (wl s = k + more s k)) (fun i => s.size - (intOf i).toNat)
  case atStart => exact ⟨1, by omega, rfl, HL⟩
  case round =>
    obtain ⟨k, hk, rfl, HK⟩ := hrel
    by_cases hlt : k < s.size
    · cases hw : begW s[k].toNat with
      | true =>
        have HN : Hid (wl s = (k + 1 : Nat) + more s (k + 1)) := by have := HK.out; rw [more_go hlt (goes_w hw)] at this; exact Lib.hid (by omega)
        have HW2 := Lib.hid hw
        clear hw
        go_wp2_with (go_at_call 112; refine (sm_is HW2.out _).mono ?_; rintro e w' ⟨rfl, rfl⟩)
        go_round
        case rel => exact ⟨k + 1, by omega, by go_num, HN⟩
        case measure => simp [intOf]; omega
      | false =>
        cases ht : begT s[k].toNat with
        | true =>
          have HN : Hid (wl s = (k + 1 : Nat) + more s (k + 1)) := by have := HK.out; rw [more_go hlt (goes_t ht)] at this; exact Lib.hid (by omega)
          have HW2 := Lib.hid hw
          have HT2 := Lib.hid ht
          clear hw ht
          go_wp2_with (first | (go_at_call 112; refine (sm_is HW2.out _).mono ?_; rintro e w' ⟨rfl, rfl⟩) | (go_at_call 113; refine (gr_is HT2.out _).mono ?_; rintro e w' ⟨rfl, rfl⟩))
          go_round
          case rel => exact ⟨k + 1, by omega, by go_num, HN⟩
          case measure => simp [intOf]; omega
        | false =>
          by_cases h1 : 48 <= s[k].toNat
          · by_cases h2 : s[k].toNat <= 57
            · have HN : Hid (wl s = (k + 1 : Nat) + more s (k + 1)) := by have := HK.out; rw [more_go hlt (goes_d h1 h2)] at this; exact Lib.hid (by omega)
              have h4 : decide ((s[k].toNat : Int) <= 57) = true := by simpa using (by omega : (s[k].toNat : Int) <= 57)
              have HW2 := Lib.hid hw
              have HT2 := Lib.hid ht
              clear hw ht
              go_wp2_with (first | (go_at_call 112; refine (sm_is HW2.out _).mono ?_; rintro e w' ⟨rfl, rfl⟩) | (go_at_call 113; refine (gr_is HT2.out _).mono ?_; rintro e w' ⟨rfl, rfl⟩))
              go_round
              case rel => exact ⟨k + 1, by omega, by go_num, HN⟩
              case measure => simp [intOf]; omega
            · have HN : Hid (wl s = k) := by have := HK.out; rw [more_stop hlt (goes_no hw ht (by omega))] at this; exact Lib.hid this
              have h4 : decide ((s[k].toNat : Int) <= 57) = false := by simpa using (by omega : ¬ (s[k].toNat : Int) <= 57)
              have HW2 := Lib.hid hw
              have HT2 := Lib.hid ht
              clear hw ht
              go_wp2_with (first | (go_at_call 112; refine (sm_is HW2.out _).mono ?_; rintro e w' ⟨rfl, rfl⟩) | (go_at_call 113; refine (gr_is HT2.out _).mono ?_; rintro e w' ⟨rfl, rfl⟩))
              go_ret
              exact ⟨ret_num (by rw [HN.out]), rfl⟩
          · have HN : Hid (wl s = k) := by have := HK.out; rw [more_stop hlt (goes_no hw ht (by omega))] at this; exact Lib.hid this
            have h4 : decide (48 <= (s[k].toNat : Int)) = false := by simpa using (by omega : ¬ 48 <= (s[k].toNat : Int))
            have HW2 := Lib.hid hw
            have HT2 := Lib.hid ht
            clear hw ht
            go_wp2_with (first | (go_at_call 112; refine (sm_is HW2.out _).mono ?_; rintro e w' ⟨rfl, rfl⟩) | (go_at_call 113; refine (gr_is HT2.out _).mono ?_; rintro e w' ⟨rfl, rfl⟩))
            go_ret
            exact ⟨ret_num (by rw [HN.out]), rfl⟩
    · have HN : Hid (wl s = k) := by have := HK.out; rw [more_end (by omega)] at this; exact Lib.hid this
      go_wp2_with fail
      go_ret
      exact ⟨ret_num (by rw [HN.out]), rfl⟩
theorem rword_t (s : ByteArray) (hs : s.size <= 9223372036854775807) (h0 : 0 < s.size) (HW : Hid (begW s[0].toNat = false)) (HT : Hid (begT s[0].toNat = true)) (HL : Hid (wl s = 1 + more s 1)) (w : World) :
    Calls Tryz.prog 90 #[.string s] w fun e w' => e = .returned (.int .i64 (wl s)) /\ w = w' := by
  have hz : ((s.size : Int) == 0) = false := by simpa using (by omega : ¬ s.size = 0)
  go_enter Tryz.func90, Tryz.ntmps90
  go_wp2_with (first | (go_at_call 112; refine (sm_is HW.out _).mono ?_; rintro e w' ⟨rfl, rfl⟩) | (go_at_call 113; refine (gr_is HT.out _).mono ?_; rintro e w' ⟨rfl, rfl⟩))
  go_loop [3] (fun i => ∃ k : Nat, k <= s.size /\ i = .int .i64 k /\ Hid (wl s = k + more s k)) (fun i => s.size - (intOf i).toNat)
  case atStart => exact ⟨1, by omega, rfl, HL⟩
  case round =>
    obtain ⟨k, hk, rfl, HK⟩ := hrel
    by_cases hlt : k < s.size
    · cases hw : begW s[k].toNat with
      | true =>
        have HN : Hid (wl s = (k + 1 : Nat) + more s (k + 1)) := by have := HK.out; rw [more_go hlt (goes_w hw)] at this; exact Lib.hid (by omega)
        have HW2 := Lib.hid hw
        clear hw
        go_wp2_with (go_at_call 112; refine (sm_is HW2.out _).mono ?_; rintro e w' ⟨rfl, rfl⟩)
        go_round
        case rel => exact ⟨k + 1, by omega, by go_num, HN⟩
        case measure => simp [intOf]; omega
      | false =>
        cases ht : begT s[k].toNat with
        | true =>
          have HN : Hid (wl s = (k + 1 : Nat) + more s (k + 1)) := by have := HK.out; rw [more_go hlt (goes_t ht)] at this; exact Lib.hid (by omega)
          have HW2 := Lib.hid hw
          have HT2 := Lib.hid ht
          clear hw ht
          go_wp2_with (first | (go_at_call 112; refine (sm_is HW2.out _).mono ?_; rintro e w' ⟨rfl, rfl⟩) | (go_at_call 113; refine (gr_is HT2.out _).mono ?_; rintro e w' ⟨rfl, rfl⟩))
          go_round
          case rel => exact ⟨k + 1, by omega, by go_num, HN⟩
          case measure => simp [intOf]; omega
        | false =>
          by_cases h1 : 48 <= s[k].toNat
          · by_cases h2 : s[k].toNat <= 57
            · have HN : Hid (wl s = (k + 1 : Nat) + more s (k + 1)) := by have := HK.out; rw [more_go hlt (goes_d h1 h2)] at this; exact Lib.hid (by omega)
              have h4 : decide ((s[k].toNat : Int) <= 57) = true := by simpa using (by omega : (s[k].toNat : Int) <= 57)
              have HW2 := Lib.hid hw
              have HT2 := Lib.hid ht
              clear hw ht
              go_wp2_with (first | (go_at_call 112; refine (sm_is HW2.out _).mono ?_; rintro e w' ⟨rfl, rfl⟩) | (go_at_call 113; refine (gr_is HT2.out _).mono ?_; rintro e w' ⟨rfl, rfl⟩))
              go_round
              case rel => exact ⟨k + 1, by omega, by go_num, HN⟩
              case measure => simp [intOf]; omega
            · have HN : Hid (wl s = k) := by have := HK.out; rw [more_stop hlt (goes_no hw ht (by omega))] at this; exact Lib.hid this
              have h4 : decide ((s[k].toNat : Int) <= 57) = false := by simpa using (by omega : ¬ (s[k].toNat : Int) <= 57)
              have HW2 := Lib.hid hw
              have HT2 := Lib.hid ht
              clear hw ht
              go_wp2_with (first | (go_at_call 112; refine (sm_is HW2.out _).mono ?_; rintro e w' ⟨rfl, rfl⟩) | (go_at_call 113; refine (gr_is HT2.out _).mono ?_; rintro e w' ⟨rfl, rfl⟩))
              go_ret
              exact ⟨ret_num (by rw [HN.out]), rfl⟩
          · have HN : Hid (wl s = k) := by have := HK.out; rw [more_stop hlt (goes_no hw ht (by omega))] at this; exact Lib.hid this
            have h4 : decide (48 <= (s[k].toNat : Int)) = false := by simpa using (by omega : ¬ 48 <= (s[k].toNat : Int))
            have HW2 := Lib.hid hw
            have HT2 := Lib.hid ht
            clear hw ht
            go_wp2_with (first | (go_at_call 112; refine (sm_is HW2.out _).mono ?_; rintro e w' ⟨rfl, rfl⟩) | (go_at_call 113; refine (gr_is HT2.out _).mono ?_; rintro e w' ⟨rfl, rfl⟩))
            go_ret
            exact ⟨ret_num (by rw [HN.out]), rfl⟩
    · have HN : Hid (wl s = k) := by have := HK.out; rw [more_end (by omega)] at this; exact Lib.hid this
      go_wp2_with fail
      go_ret
      exact ⟨ret_num (by rw [HN.out]), rfl⟩
theorem rword_any (s : ByteArray) (hs : s.size <= 9223372036854775807) (w : World) :
    Calls Tryz.prog 90 #[.string s] w fun e w' => e = .returned (.int .i64 (wl s)) /\ w = w' := by
  by_cases h0 : 0 < s.size
  · have hf := fst_at h0
    cases hw : begW s[0].toNat with
    | true => exact rword_w s hs h0 (Lib.hid hw) (Lib.hid (wl_w h0 (by rw [hf, hw]; rfl))) w
    | false =>
      cases ht : begT s[0].toNat with
      | true => exact rword_t s hs h0 (Lib.hid hw) (Lib.hid ht) (Lib.hid (wl_w h0 (by rw [hf, hw, ht]; rfl))) w
      | false =>
        rw [wl_not (by rw [hf]; exact hw) (by rw [hf]; exact ht)]
        exact rword_no s h0 (Lib.hid hw) (Lib.hid ht) w
  · rw [wl_none h0]
    obtain rfl := is_empty h0
    go_enter Tryz.func90, Tryz.ntmps90
    go_wp2_with fail
    go_ret
    exact ⟨rfl, rfl⟩
end Go.Proofs.YtjakeidbajkdcaaGreatDoor.M
