/- Joined by program: MBytes. -/
import Derived.Test.YteikpeaakmbihaaDoorG07
import Derived.Test.YteikpeaakmbihaaDoorRows
import Derived.WalkKit
import Derived.ProofKit
import Derived.OpenShut
import Derived.Outline
/- The contracts of the calls that look at one byte: each tells what it should, and the world is as it was. -/
namespace Go.Proofs.YteikpeaakmbihaaDoor.M
open Go.RowKit
theorem bw_any (n : Nat) (w : World) : Calls Tryd.prog 100 #[.int .u8 (n : Int)] w fun e w' => e = .returned (.bool (begW n)) ∧ w = w' := by
  by_cases h1 : 97 ≤ n
  · by_cases h2 : n ≤ 122
    · rw [begW_t h1 h2]
      have h4 : decide ((n : Int) ≤ 122) = true := by simpa using (by omega : (n : Int) ≤ 122)
      go_enter Tryd.func100, Tryd.ntmps100
      go_wp2
      go_ret
      exact ⟨rfl, rfl⟩
    · rw [begW_f (by omega) (by omega)]
      have h3 : ((n : Int) == 95) = false := by simpa using (by omega : ¬ (n : Int) = 95)
      have h4 : decide ((n : Int) ≤ 122) = false := by simpa using (by omega : ¬ (n : Int) ≤ 122)
      go_enter Tryd.func100, Tryd.ntmps100
      go_wp2
      go_ret
      exact ⟨rfl, rfl⟩
  · by_cases h3 : n = 95
    · subst h3
      rw [begW_95]
      go_enter Tryd.func100, Tryd.ntmps100
      go_wp2
      go_ret
      exact ⟨rfl, rfl⟩
    · rw [begW_f (by omega) h3]
      have h4 : ((n : Int) == 95) = false := by simpa using (by omega : ¬ (n : Int) = 95)
      go_enter Tryd.func100, Tryd.ntmps100
      go_wp2
      go_ret
      exact ⟨rfl, rfl⟩
theorem sm_any (n : Nat) (w : World) : Calls Tryd.prog 80 #[.int .u8 (n : Int)] w fun e w' => e = .returned (.bool (begW n)) ∧ w = w' := by
  by_cases h1 : 97 ≤ n
  · by_cases h2 : n ≤ 122
    · rw [begW_t h1 h2]
      have h4 : decide ((n : Int) ≤ 122) = true := by simpa using (by omega : (n : Int) ≤ 122)
      go_enter Tryd.func80, Tryd.ntmps80
      go_wp2
      go_ret
      exact ⟨rfl, rfl⟩
    · rw [begW_f (by omega) (by omega)]
      have h3 : ((n : Int) == 95) = false := by simpa using (by omega : ¬ (n : Int) = 95)
      have h4 : decide ((n : Int) ≤ 122) = false := by simpa using (by omega : ¬ (n : Int) ≤ 122)
      go_enter Tryd.func80, Tryd.ntmps80
      go_wp2
      go_ret
      exact ⟨rfl, rfl⟩
  · by_cases h3 : n = 95
    · subst h3
      rw [begW_95]
      go_enter Tryd.func80, Tryd.ntmps80
      go_wp2
      go_ret
      exact ⟨rfl, rfl⟩
    · rw [begW_f (by omega) h3]
      have h4 : ((n : Int) == 95) = false := by simpa using (by omega : ¬ (n : Int) = 95)
      go_enter Tryd.func80, Tryd.ntmps80
      go_wp2
      go_ret
      exact ⟨rfl, rfl⟩
theorem bt_any (n : Nat) (w : World) : Calls Tryd.prog 102 #[.int .u8 (n : Int)] w fun e w' => e = .returned (.bool (begT n)) ∧ w = w' := by
  by_cases h1 : 65 ≤ n
  · by_cases h2 : n ≤ 90
    · rw [begT_t h1 h2]
      have h4 : decide ((n : Int) ≤ 90) = true := by simpa using (by omega : (n : Int) ≤ 90)
      go_enter Tryd.func102, Tryd.ntmps102
      go_wp2
      go_ret
      exact ⟨rfl, rfl⟩
    · rw [begT_f (by omega)]
      have h4 : decide ((n : Int) ≤ 90) = false := by simpa using (by omega : ¬ (n : Int) ≤ 90)
      go_enter Tryd.func102, Tryd.ntmps102
      go_wp2
      go_ret
      exact ⟨rfl, rfl⟩
  · rw [begT_f (by omega)]
    go_enter Tryd.func102, Tryd.ntmps102
    go_wp2
    go_ret
    exact ⟨rfl, rfl⟩
theorem gr_any (n : Nat) (w : World) : Calls Tryd.prog 82 #[.int .u8 (n : Int)] w fun e w' => e = .returned (.bool (begT n)) ∧ w = w' := by
  by_cases h1 : 65 ≤ n
  · by_cases h2 : n ≤ 90
    · rw [begT_t h1 h2]
      have h4 : decide ((n : Int) ≤ 90) = true := by simpa using (by omega : (n : Int) ≤ 90)
      go_enter Tryd.func82, Tryd.ntmps82
      go_wp2
      go_ret
      exact ⟨rfl, rfl⟩
    · rw [begT_f (by omega)]
      have h4 : decide ((n : Int) ≤ 90) = false := by simpa using (by omega : ¬ (n : Int) ≤ 90)
      go_enter Tryd.func82, Tryd.ntmps82
      go_wp2
      go_ret
      exact ⟨rfl, rfl⟩
  · rw [begT_f (by omega)]
    go_enter Tryd.func82, Tryd.ntmps82
    go_wp2
    go_ret
    exact ⟨rfl, rfl⟩
theorem bw_is {n : Nat} {b : Bool} (h : begW n = b) (w : World) : Calls Tryd.prog 100 #[.int .u8 (n : Int)] w fun e w' => e = .returned (.bool b) ∧ w = w' := by subst h; exact bw_any n w
theorem bt_is {n : Nat} {b : Bool} (h : begT n = b) (w : World) : Calls Tryd.prog 102 #[.int .u8 (n : Int)] w fun e w' => e = .returned (.bool b) ∧ w = w' := by subst h; exact bt_any n w
theorem sm_is {n : Nat} {b : Bool} (h : begW n = b) (w : World) : Calls Tryd.prog 80 #[.int .u8 (n : Int)] w fun e w' => e = .returned (.bool b) ∧ w = w' := by subst h; exact sm_any n w
theorem gr_is {n : Nat} {b : Bool} (h : begT n = b) (w : World) : Calls Tryd.prog 82 #[.int .u8 (n : Int)] w fun e w' => e = .returned (.bool b) ∧ w = w' := by subst h; exact gr_any n w
theorem goes_w {n : Nat} (h : begW n = true) : goes n = true := by rw [goes, h]; rfl
theorem goes_t {n : Nat} (h : begT n = true) : goes n = true := by rw [goes, h]; cases begW n <;> rfl
theorem goes_d {n : Nat} (h : 48 ≤ n) (h' : n ≤ 57) : goes n = true := by
  rw [goes, isD_iff.2 ⟨h, h'⟩]; cases begW n <;> cases begT n <;> rfl
theorem goes_no {n : Nat} (h : begW n = false) (h' : begT n = false) (h'' : ¬ (48 ≤ n ∧ n ≤ 57)) : goes n = false := by
  rw [goes, h, h', Bool.false_or, Bool.false_or]
  cases hd : isD n with
  | false => rfl
  | true => exact absurd (isD_iff.1 hd) h''
theorem go_any (n : Nat) (w : World) : Calls Tryd.prog 108 #[.int .u8 (n : Int)] w fun e w' => e = .returned (.bool (goes n)) ∧ w = w' := by
  cases hw : begW n with
  | true =>
    rw [goes_w hw]
    have HW : Hid (begW n = true) := hw
    clear hw
    go_enter Tryd.func108, Tryd.ntmps108
    go_wp2_with (first | (go_at_call 100; refine (bw_is HW.out _).mono ?_; rintro e w' ⟨rfl, rfl⟩))
    go_ret
    exact ⟨rfl, rfl⟩
  | false =>
    cases ht : begT n with
    | true =>
      rw [goes_t ht]
      have HW : Hid (begW n = false) := hw
      have HT : Hid (begT n = true) := ht
      clear hw ht
      go_enter Tryd.func108, Tryd.ntmps108
      go_wp2_with (first | (go_at_call 100; refine (bw_is HW.out _).mono ?_; rintro e w' ⟨rfl, rfl⟩) | (go_at_call 102; refine (bt_is HT.out _).mono ?_; rintro e w' ⟨rfl, rfl⟩))
      go_ret
      exact ⟨rfl, rfl⟩
    | false =>
      by_cases h1 : 48 ≤ n
      · by_cases h2 : n ≤ 57
        · rw [goes_d h1 h2]
          have h4 : decide ((n : Int) ≤ 57) = true := by simpa using (by omega : (n : Int) ≤ 57)
          have HW : Hid (begW n = false) := hw
          have HT : Hid (begT n = false) := ht
          clear hw ht
          go_enter Tryd.func108, Tryd.ntmps108
          go_wp2_with (first | (go_at_call 100; refine (bw_is HW.out _).mono ?_; rintro e w' ⟨rfl, rfl⟩) | (go_at_call 102; refine (bt_is HT.out _).mono ?_; rintro e w' ⟨rfl, rfl⟩))
          go_ret
          exact ⟨rfl, rfl⟩
        · rw [goes_no hw ht (by omega)]
          have h4 : decide ((n : Int) ≤ 57) = false := by simpa using (by omega : ¬ (n : Int) ≤ 57)
          have HW : Hid (begW n = false) := hw
          have HT : Hid (begT n = false) := ht
          clear hw ht
          go_enter Tryd.func108, Tryd.ntmps108
          go_wp2_with (first | (go_at_call 100; refine (bw_is HW.out _).mono ?_; rintro e w' ⟨rfl, rfl⟩) | (go_at_call 102; refine (bt_is HT.out _).mono ?_; rintro e w' ⟨rfl, rfl⟩))
          go_ret
          exact ⟨rfl, rfl⟩
      · rw [goes_no hw ht (by omega)]
        have h4 : decide (48 ≤ (n : Int)) = false := by simpa using (by omega : ¬ 48 ≤ (n : Int))
        have HW : Hid (begW n = false) := hw
        have HT : Hid (begT n = false) := ht
        clear hw ht
        go_enter Tryd.func108, Tryd.ntmps108
        go_wp2_with (first | (go_at_call 100; refine (bw_is HW.out _).mono ?_; rintro e w' ⟨rfl, rfl⟩) | (go_at_call 102; refine (bt_is HT.out _).mono ?_; rintro e w' ⟨rfl, rfl⟩))
        go_ret
        exact ⟨rfl, rfl⟩
theorem go_is {n : Nat} {b : Bool} (h : goes n = b) (w : World) : Calls Tryd.prog 108 #[.int .u8 (n : Int)] w fun e w' => e = .returned (.bool b) ∧ w = w' := by subst h; exact go_any n w
end Go.Proofs.YteikpeaakmbihaaDoor.M
