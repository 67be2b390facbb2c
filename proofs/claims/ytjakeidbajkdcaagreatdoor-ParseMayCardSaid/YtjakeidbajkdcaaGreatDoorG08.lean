/- Joined by program: MBytes, MWords. -/
import Derived.Test.YtjakeidbajkdcaaGreatDoorG07
import Derived.Test.YtjakeidbajkdcaaGreatDoorRows
import Derived.WalkKit
import Derived.ProofKit
import Derived.OpenShut
import Derived.Outline
import Derived.LoopTactic
import Derived.Lib.Hide
/- The contracts of the calls that look at one byte: each tells what it should, and the world is as it was. -/
namespace Go.Proofs.YtjakeidbajkdcaaGreatDoor.M
open Go.RowKit
theorem bw_any (n : Nat) (w : World) : Calls Tryz.prog 149 #[.int .u8 (n : Int)] w fun e w' => e = .returned (.bool (begW n)) ∧ w = w' := by
  by_cases h1 : 97 ≤ n
  · by_cases h2 : n ≤ 122
    · rw [begW_t h1 h2]
      have h4 : decide ((n : Int) ≤ 122) = true := by simpa using (by omega : (n : Int) ≤ 122)
      go_enter Tryz.func149, Tryz.ntmps149
      go_wp2
      go_ret
      exact ⟨rfl, rfl⟩
    · rw [begW_f (by omega) (by omega)]
      have h3 : ((n : Int) == 95) = false := by simpa using (by omega : ¬ (n : Int) = 95)
      have h4 : decide ((n : Int) ≤ 122) = false := by simpa using (by omega : ¬ (n : Int) ≤ 122)
      go_enter Tryz.func149, Tryz.ntmps149
      go_wp2
      go_ret
      exact ⟨rfl, rfl⟩
  · by_cases h3 : n = 95
    · subst h3
      rw [begW_95]
      go_enter Tryz.func149, Tryz.ntmps149
      go_wp2
      go_ret
      exact ⟨rfl, rfl⟩
    · rw [begW_f (by omega) h3]
      have h4 : ((n : Int) == 95) = false := by simpa using (by omega : ¬ (n : Int) = 95)
      go_enter Tryz.func149, Tryz.ntmps149
      go_wp2
      go_ret
      exact ⟨rfl, rfl⟩
theorem bt_any (n : Nat) (w : World) : Calls Tryz.prog 150 #[.int .u8 (n : Int)] w fun e w' => e = .returned (.bool (begT n)) ∧ w = w' := by
  by_cases h1 : 65 ≤ n
  · by_cases h2 : n ≤ 90
    · rw [begT_t h1 h2]
      have h4 : decide ((n : Int) ≤ 90) = true := by simpa using (by omega : (n : Int) ≤ 90)
      go_enter Tryz.func150, Tryz.ntmps150
      go_wp2
      go_ret
      exact ⟨rfl, rfl⟩
    · rw [begT_f (by omega)]
      have h4 : decide ((n : Int) ≤ 90) = false := by simpa using (by omega : ¬ (n : Int) ≤ 90)
      go_enter Tryz.func150, Tryz.ntmps150
      go_wp2
      go_ret
      exact ⟨rfl, rfl⟩
  · rw [begT_f (by omega)]
    go_enter Tryz.func150, Tryz.ntmps150
    go_wp2
    go_ret
    exact ⟨rfl, rfl⟩
theorem bw_is {n : Nat} {b : Bool} (h : begW n = b) (w : World) : Calls Tryz.prog 149 #[.int .u8 (n : Int)] w fun e w' => e = .returned (.bool b) ∧ w = w' := by subst h; exact bw_any n w
theorem bt_is {n : Nat} {b : Bool} (h : begT n = b) (w : World) : Calls Tryz.prog 150 #[.int .u8 (n : Int)] w fun e w' => e = .returned (.bool b) ∧ w = w' := by subst h; exact bt_any n w
theorem goes_w {n : Nat} (h : begW n = true) : goes n = true := by rw [goes, h]; rfl
theorem goes_t {n : Nat} (h : begT n = true) : goes n = true := by rw [goes, h]; cases begW n <;> rfl
theorem goes_d {n : Nat} (h : 48 ≤ n) (h' : n ≤ 57) : goes n = true := by
  rw [goes, isD_iff.2 ⟨h, h'⟩]; cases begW n <;> cases begT n <;> rfl
theorem goes_no {n : Nat} (h : begW n = false) (h' : begT n = false) (h'' : ¬ (48 ≤ n ∧ n ≤ 57)) : goes n = false := by
  rw [goes, h, h', Bool.false_or, Bool.false_or]
  cases hd : isD n with
  | false => rfl
  | true => exact absurd (isD_iff.1 hd) h''
theorem go_any (n : Nat) (w : World) : Calls Tryz.prog 151 #[.int .u8 (n : Int)] w fun e w' => e = .returned (.bool (goes n)) ∧ w = w' := by
  cases hw : begW n with
  | true =>
    rw [goes_w hw]
    have HW : Hid (begW n = true) := hw
    clear hw
    go_enter Tryz.func151, Tryz.ntmps151
    go_wp2_with (first | (go_at_call 149; refine (bw_is HW.out _).mono ?_; rintro e w' ⟨rfl, rfl⟩))
    go_ret
    exact ⟨rfl, rfl⟩
  | false =>
    cases ht : begT n with
    | true =>
      rw [goes_t ht]
      have HW : Hid (begW n = false) := hw
      have HT : Hid (begT n = true) := ht
      clear hw ht
      go_enter Tryz.func151, Tryz.ntmps151
      go_wp2_with (first | (go_at_call 149; refine (bw_is HW.out _).mono ?_; rintro e w' ⟨rfl, rfl⟩) | (go_at_call 150; refine (bt_is HT.out _).mono ?_; rintro e w' ⟨rfl, rfl⟩))
      go_ret
      exact ⟨rfl, rfl⟩
    | false =>
      by_cases h1 : 48 ≤ n
      · by_cases h2 : n ≤ 57
        · rw [goes_d h1 h2]
          have h4 : decide ((n : Int) ≤ 57) = true := by simpa using (by omega : (n : Int) ≤ 57)
          have HW : Hid (begW n = false) := hw
          have HT : Hid (begT n = false) := ht
          clear hw ht
          go_enter Tryz.func151, Tryz.ntmps151
          go_wp2_with (first | (go_at_call 149; refine (bw_is HW.out _).mono ?_; rintro e w' ⟨rfl, rfl⟩) | (go_at_call 150; refine (bt_is HT.out _).mono ?_; rintro e w' ⟨rfl, rfl⟩))
          go_ret
          exact ⟨rfl, rfl⟩
        · rw [goes_no hw ht (by omega)]
          have h4 : decide ((n : Int) ≤ 57) = false := by simpa using (by omega : ¬ (n : Int) ≤ 57)
          have HW : Hid (begW n = false) := hw
          have HT : Hid (begT n = false) := ht
          clear hw ht
          go_enter Tryz.func151, Tryz.ntmps151
          go_wp2_with (first | (go_at_call 149; refine (bw_is HW.out _).mono ?_; rintro e w' ⟨rfl, rfl⟩) | (go_at_call 150; refine (bt_is HT.out _).mono ?_; rintro e w' ⟨rfl, rfl⟩))
          go_ret
          exact ⟨rfl, rfl⟩
      · rw [goes_no hw ht (by omega)]
        have h4 : decide (48 ≤ (n : Int)) = false := by simpa using (by omega : ¬ 48 ≤ (n : Int))
        have HW : Hid (begW n = false) := hw
        have HT : Hid (begT n = false) := ht
        clear hw ht
        go_enter Tryz.func151, Tryz.ntmps151
        go_wp2_with (first | (go_at_call 149; refine (bw_is HW.out _).mono ?_; rintro e w' ⟨rfl, rfl⟩) | (go_at_call 150; refine (bt_is HT.out _).mono ?_; rintro e w' ⟨rfl, rfl⟩))
        go_ret
        exact ⟨rfl, rfl⟩
theorem go_is {n : Nat} {b : Bool} (h : goes n = b) (w : World) : Calls Tryz.prog 151 #[.int .u8 (n : Int)] w fun e w' => e = .returned (.bool b) ∧ w = w' := by subst h; exact go_any n w
end Go.Proofs.YtjakeidbajkdcaaGreatDoor.M
/- Word, the program's and the document's: both tell how many bytes of a text go on as a word, or a tag, does; the world is as it was. -/
namespace Go.Proofs.YtjakeidbajkdcaaGreatDoor.M
open Go.RowKit
theorem ret_num {a b : Int} (h : a = b) : Ending.returned (.int .i64 a) = .returned (.int .i64 b) := by rw [h]
theorem ne_str {s : ByteArray} (h : 0 < s.size) : s.toList.isEmpty = false := by
  rw [ByteArray.toList_eq]
  cases hl : s.data.toList with
  | nil => have := size_len s; rw [hl] at this; simp at this; omega
  | cons => rfl
theorem is_empty {s : ByteArray} (h : ¬ 0 < s.size) : s = ⟨#[]⟩ := by
  apply ByteArray.ext
  exact Array.eq_empty_of_size_eq_zero (by have : s.data.size = s.size := rfl; omega)
set_option maxHeartbeats 400000 in
theorem word_no (s : ByteArray) (h0 : 0 < s.size) (HW : Hid (begW s[0].toNat = false)) (HT : Hid (begT s[0].toNat = false)) (w : World) :
    Calls Tryz.prog 118 #[.string s] w fun e w' => e = .returned (.int .i64 0) ∧ w = w' := by
  have hne := ne_str h0
  go_enter Tryz.func118, Tryz.ntmps118
  go_wp2_with (first | (go_at_call 149; refine (bw_is HW.out _).mono ?_; rintro e w' ⟨rfl, rfl⟩) | (go_at_call 150; refine (bt_is HT.out _).mono ?_; rintro e w' ⟨rfl, rfl⟩))
  go_ret
  exact ⟨rfl, rfl⟩
set_option maxHeartbeats 1000000 in
theorem word_w (s : ByteArray) (hs : s.size ≤ 9223372036854775807) (h0 : 0 < s.size) (HW : Hid (begW s[0].toNat = true)) (HL : Hid (wl s = 1 + more s 1)) (w : World) :
    Calls Tryz.prog 118 #[.string s] w fun e w' => e = .returned (.int .i64 (wl s)) ∧ w = w' := by
  have hne := ne_str h0
  go_enter Tryz.func118, Tryz.ntmps118
  go_wp2_with (go_at_call 149; refine (bw_is HW.out _).mono ?_; rintro e w' ⟨rfl, rfl⟩)
  go_loop [3] (fun i => ∃ k : Nat, k ≤ s.size ∧ i = .int .i64 k ∧ Hid (wl s = k + more s k)) (fun i => s.size - (intOf i).toNat)
  case atStart => exact ⟨1, by omega, rfl, HL⟩
  case round =>
    obtain ⟨k, hk, rfl, HK⟩ := hrel
    by_cases hlt : k < s.size
    · cases hg : goes s[k].toNat with
      | true =>
        have HN : Hid (wl s = (k + 1 : Nat) + more s (k + 1)) := by have := HK.out; rw [more_go hlt hg] at this; exact Lib.hid (by omega)
        have HG := Lib.hid hg
        clear hg
        go_wp2_with (go_at_call 151; refine (go_is HG.out _).mono ?_; rintro e w' ⟨rfl, rfl⟩)
        go_round
        case rel => exact ⟨k + 1, by omega, by go_num, HN⟩
        case measure => simp [intOf]; omega
      | false =>
        have HN : Hid (wl s = k) := by have := HK.out; rw [more_stop hlt hg] at this; exact Lib.hid this
        have HG := Lib.hid hg
        clear hg
        go_wp2_with (go_at_call 151; refine (go_is HG.out _).mono ?_; rintro e w' ⟨rfl, rfl⟩)
        go_ret
        exact ⟨ret_num (by rw [HN.out]), rfl⟩
    · have HN : Hid (wl s = k) := by have := HK.out; rw [more_end (by omega)] at this; exact Lib.hid this
      go_wp2_with (go_at_call 151; fail)
      go_ret
      exact ⟨ret_num (by rw [HN.out]), rfl⟩
set_option maxHeartbeats 1000000 in
theorem word_t (s : ByteArray) (hs : s.size ≤ 9223372036854775807) (h0 : 0 < s.size) (HW : Hid (begW s[0].toNat = false)) (HT : Hid (begT s[0].toNat = true)) (HL : Hid (wl s = 1 + more s 1)) (w : World) :
    Calls Tryz.prog 118 #[.string s] w fun e w' => e = .returned (.int .i64 (wl s)) ∧ w = w' := by
  have hne := ne_str h0
  go_enter Tryz.func118, Tryz.ntmps118
  go_wp2_with (first | (go_at_call 149; refine (bw_is HW.out _).mono ?_; rintro e w' ⟨rfl, rfl⟩) | (go_at_call 150; refine (bt_is HT.out _).mono ?_; rintro e w' ⟨rfl, rfl⟩))
  go_loop [3] (fun i => ∃ k : Nat, k ≤ s.size ∧ i = .int .i64 k ∧ Hid (wl s = k + more s k)) (fun i => s.size - (intOf i).toNat)
  case atStart => exact ⟨1, by omega, rfl, HL⟩
  case round =>
    obtain ⟨k, hk, rfl, HK⟩ := hrel
    by_cases hlt : k < s.size
    · cases hg : goes s[k].toNat with
      | true =>
        have HN : Hid (wl s = (k + 1 : Nat) + more s (k + 1)) := by have := HK.out; rw [more_go hlt hg] at this; exact Lib.hid (by omega)
        have HG := Lib.hid hg
        clear hg
        go_wp2_with (go_at_call 151; refine (go_is HG.out _).mono ?_; rintro e w' ⟨rfl, rfl⟩)
        go_round
        case rel => exact ⟨k + 1, by omega, by go_num, HN⟩
        case measure => simp [intOf]; omega
      | false =>
        have HN : Hid (wl s = k) := by have := HK.out; rw [more_stop hlt hg] at this; exact Lib.hid this
        have HG := Lib.hid hg
        clear hg
        go_wp2_with (go_at_call 151; refine (go_is HG.out _).mono ?_; rintro e w' ⟨rfl, rfl⟩)
        go_ret
        exact ⟨ret_num (by rw [HN.out]), rfl⟩
    · have HN : Hid (wl s = k) := by have := HK.out; rw [more_end (by omega)] at this; exact Lib.hid this
      go_wp2_with (go_at_call 151; fail)
      go_ret
      exact ⟨ret_num (by rw [HN.out]), rfl⟩
theorem word_any (s : ByteArray) (hs : s.size ≤ 9223372036854775807) (w : World) :
    Calls Tryz.prog 118 #[.string s] w fun e w' => e = .returned (.int .i64 (wl s)) ∧ w = w' := by
  by_cases h0 : 0 < s.size
  · have hf := fst_at h0
    cases hw : begW s[0].toNat with
    | true => exact word_w s hs h0 (Lib.hid hw) (Lib.hid (wl_w h0 (by rw [hf, hw]; rfl))) w
    | false =>
      cases ht : begT s[0].toNat with
      | true => exact word_t s hs h0 (Lib.hid hw) (Lib.hid ht) (Lib.hid (wl_w h0 (by rw [hf, hw, ht]; rfl))) w
      | false =>
        rw [wl_not (by rw [hf]; exact hw) (by rw [hf]; exact ht)]
        exact word_no s h0 (Lib.hid hw) (Lib.hid ht) w
  · rw [wl_none h0]
    obtain rfl := is_empty h0
    go_enter Tryz.func118, Tryz.ntmps118
    go_wp2_with fail
    go_ret
    exact ⟨rfl, rfl⟩
end Go.Proofs.YtjakeidbajkdcaaGreatDoor.M
