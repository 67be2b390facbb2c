/- Joined by program: MWords. -/
import Derived.Test.YteikpeaakmbihaaDoorG08
import Derived.LoopTactic
import Derived.Lib.Hide
/- Word, the program's and the document's: both tell how many bytes of a text go on as a word, or a tag, does; the world is as it was. -/
namespace Go.Proofs.YteikpeaakmbihaaDoor.M
open Go.RowKit
theorem ret_num {a b : Int} (h : a = b) : Ending.returned (.int .i64 a) = .returned (.int .i64 b) := by rw [h]
theorem ne_str {s : ByteArray} (h : 0 < s.size) : s.toList.isEmpty = false := by
  rw [ByteArray.toList_eq]
  cases hl : s.data.toList with
  | nil => have := size_len s; rw [hl] at this; simp at this; omega
  | cons => rfl
theorem is_empty {s : ByteArray} (h : ¬ 0 < s.size) : s = ⟨#[]⟩ := by
  apply ByteArray.ext
  exact Array.eq_empty_of_size_eq_zero (by have : s.data.size = s.size := rfl; omega)
set_option maxHeartbeats 400000 in
theorem word_no (s : ByteArray) (h0 : 0 < s.size) (HW : Hid (begW s[0].toNat = false)) (HT : Hid (begT s[0].toNat = false)) (w : World) :
    Calls Tryd.prog 106 #[.string s] w fun e w' => e = .returned (.int .i64 0) ∧ w = w' := by
  have hne := ne_str h0
  go_enter Tryd.func106, Tryd.ntmps106
  go_wp2_with (first | (go_at_call 100; refine (bw_is HW.out _).mono ?_; rintro e w' ⟨rfl, rfl⟩) | (go_at_call 102; refine (bt_is HT.out _).mono ?_; rintro e w' ⟨rfl, rfl⟩))
  go_ret
  exact ⟨rfl, rfl⟩
set_option maxHeartbeats 1000000 in
theorem word_w (s : ByteArray) (hs : s.size ≤ 9223372036854775807) (h0 : 0 < s.size) (HW : Hid (begW s[0].toNat = true)) (HL : Hid (wl s = 1 + more s 1)) (w : World) :
    Calls Tryd.prog 106 #[.string s] w fun e w' => e = .returned (.int .i64 (wl s)) ∧ w = w' := by
  have hne := ne_str h0
  go_enter Tryd.func106, Tryd.ntmps106
  go_wp2_with (go_at_call 100; refine (bw_is HW.out _).mono ?_; rintro e w' ⟨rfl, rfl⟩)
  go_loop [3] (fun i => ∃ k : Nat, k ≤ s.size ∧ i = .int .i64 k ∧ Hid (wl s = k + more s k)) (fun i => s.size - (intOf i).toNat)
  case atStart => exact ⟨1, by omega, rfl, HL⟩
  case round =>
    obtain ⟨k, hk, rfl, HK⟩ := hrel
    by_cases hlt : k < s.size
    · cases hg : goes s[k].toNat with
      | true =>
        have HN : Hid (wl s = (k + 1 : Nat) + more s (k + 1)) := by have := HK.out; rw [more_go hlt hg] at this; exact Lib.hid (by omega)
        have HG := Lib.hid hg
        clear hg
        go_wp2_with (go_at_call 108; refine (go_is HG.out _).mono ?_; rintro e w' ⟨rfl, rfl⟩)
        go_round
        case rel => exact ⟨k + 1, by omega, by go_num, HN⟩
        case measure => simp [intOf]; omega
      | false =>
        have HN : Hid (wl s = k) := by have := HK.out; rw [more_stop hlt hg] at this; exact Lib.hid this
        have HG := Lib.hid hg
        clear hg
        go_wp2_with (go_at_call 108; refine (go_is HG.out _).mono ?_; rintro e w' ⟨rfl, rfl⟩)
        go_ret
        exact ⟨ret_num (by rw [HN.out]), rfl⟩
    · have HN : Hid (wl s = k) := by have := HK.out; rw [more_end (by omega)] at this; exact Lib.hid this
      go_wp2_with (go_at_call 108; fail)
      go_ret
      exact ⟨ret_num (by rw [HN.out]), rfl⟩
set_option maxHeartbeats 1000000 in
theorem word_t (s : ByteArray) (hs : s.size ≤ 9223372036854775807) (h0 : 0 < s.size) (HW : Hid (begW s[0].toNat = false)) (HT : Hid (begT s[0].toNat = true)) (HL : Hid (wl s = 1 + more s 1)) (w : World) :
    Calls Tryd.prog 106 #[.string s] w fun e w' => e = .returned (.int .i64 (wl s)) ∧ w = w' := by
  have hne := ne_str h0
  go_enter Tryd.func106, Tryd.ntmps106
  go_wp2_with (first | (go_at_call 100; refine (bw_is HW.out _).mono ?_; rintro e w' ⟨rfl, rfl⟩) | (go_at_call 102; refine (bt_is HT.out _).mono ?_; rintro e w' ⟨rfl, rfl⟩))
  go_loop [3] (fun i => ∃ k : Nat, k ≤ s.size ∧ i = .int .i64 k ∧ Hid (wl s = k + more s k)) (fun i => s.size - (intOf i).toNat)
  case atStart => exact ⟨1, by omega, rfl, HL⟩
  case round =>
    obtain ⟨k, hk, rfl, HK⟩ := hrel
    by_cases hlt : k < s.size
    · cases hg : goes s[k].toNat with
      | true =>
        have HN : Hid (wl s = (k + 1 : Nat) + more s (k + 1)) := by have := HK.out; rw [more_go hlt hg] at this; exact Lib.hid (by omega)
        have HG := Lib.hid hg
        clear hg
        go_wp2_with (go_at_call 108; refine (go_is HG.out _).mono ?_; rintro e w' ⟨rfl, rfl⟩)
        go_round
        case rel => exact ⟨k + 1, by omega, by go_num, HN⟩
        case measure => simp [intOf]; omega
      | false =>
        have HN : Hid (wl s = k) := by have := HK.out; rw [more_stop hlt hg] at this; exact Lib.hid this
        have HG := Lib.hid hg
        clear hg
        go_wp2_with (go_at_call 108; refine (go_is HG.out _).mono ?_; rintro e w' ⟨rfl, rfl⟩)
        go_ret
        exact ⟨ret_num (by rw [HN.out]), rfl⟩
    · have HN : Hid (wl s = k) := by have := HK.out; rw [more_end (by omega)] at this; exact Lib.hid this
      go_wp2_with (go_at_call 108; fail)
      go_ret
      exact ⟨ret_num (by rw [HN.out]), rfl⟩
theorem word_any (s : ByteArray) (hs : s.size ≤ 9223372036854775807) (w : World) :
    Calls Tryd.prog 106 #[.string s] w fun e w' => e = .returned (.int .i64 (wl s)) ∧ w = w' := by
  by_cases h0 : 0 < s.size
  · have hf := fst_at h0
    cases hw : begW s[0].toNat with
    | true => exact word_w s hs h0 (Lib.hid hw) (Lib.hid (wl_w h0 (by rw [hf, hw]; rfl))) w
    | false =>
      cases ht : begT s[0].toNat with
      | true => exact word_t s hs h0 (Lib.hid hw) (Lib.hid ht) (Lib.hid (wl_w h0 (by rw [hf, hw, ht]; rfl))) w
      | false =>
        rw [wl_not (by rw [hf]; exact hw) (by rw [hf]; exact ht)]
        exact word_no s h0 (Lib.hid hw) (Lib.hid ht) w
  · rw [wl_none h0]
    obtain rfl := is_empty h0
    go_enter Tryd.func106, Tryd.ntmps106
    go_wp2_with fail
    go_ret
    exact ⟨rfl, rfl⟩
set_option maxHeartbeats 400000 in
theorem rword_no (s : ByteArray) (h0 : 0 < s.size) (HW : Hid (begW s[0].toNat = false)) (HT : Hid (begT s[0].toNat = false)) (w : World) :
    Calls Tryd.prog 79 #[.string s] w fun e w' => e = .returned (.int .i64 0) ∧ w = w' := by
  have hz : ((s.size : Int) == 0) = false := by simpa using (by omega : ¬ s.size = 0)
  go_enter Tryd.func79, Tryd.ntmps79
  go_wp2_with (first | (go_at_call 80; refine (sm_is HW.out _).mono ?_; rintro e w' ⟨rfl, rfl⟩) | (go_at_call 82; refine (gr_is HT.out _).mono ?_; rintro e w' ⟨rfl, rfl⟩))
  go_ret
  exact ⟨rfl, rfl⟩
set_option maxHeartbeats 1000000 in
theorem rword_w (s : ByteArray) (hs : s.size ≤ 9223372036854775807) (h0 : 0 < s.size) (HW : Hid (begW s[0].toNat = true)) (HL : Hid (wl s = 1 + more s 1)) (w : World) :
    Calls Tryd.prog 79 #[.string s] w fun e w' => e = .returned (.int .i64 (wl s)) ∧ w = w' := by
  have hz : ((s.size : Int) == 0) = false := by simpa using (by omega : ¬ s.size = 0)
  go_enter Tryd.func79, Tryd.ntmps79
  go_wp2_with (go_at_call 80; refine (sm_is HW.out _).mono ?_; rintro e w' ⟨rfl, rfl⟩)
  go_loop [3] (fun i => ∃ k : Nat, k ≤ s.size ∧ i = .int .i64 k ∧ Hid (wl s = k + more s k)) (fun i => s.size - (intOf i).toNat)
  case atStart => exact ⟨1, by omega, rfl, HL⟩
  case round =>
    obtain ⟨k, hk, rfl, HK⟩ := hrel
    by_cases hlt : k < s.size
    · cases hw : begW s[k].toNat with
      | true =>
        have HN : Hid (wl s = (k + 1 : Nat) + more s (k + 1)) := by have := HK.out; rw [more_go hlt (goes_w hw)] at this; exact Lib.hid (by omega)
        have HW2 := Lib.hid hw
        clear hw
        go_wp2_with (go_at_call 80; refine (sm_is HW2.out _).mono ?_; rintro e w' ⟨rfl, rfl⟩)
        go_round
        case rel => exact ⟨k + 1, by omega, by go_num, HN⟩
        case measure => simp [intOf]; omega
      | false =>
        cases ht : begT s[k].toNat with
        | true =>
          have HN : Hid (wl s = (k + 1 : Nat) + more s (k + 1)) := by have := HK.out; rw [more_go hlt (goes_t ht)] at this; exact Lib.hid (by omega)
          have HW2 := Lib.hid hw
          have HT2 := Lib.hid ht
          clear hw ht
          go_wp2_with (first | (go_at_call 80; refine (sm_is HW2.out _).mono ?_; rintro e w' ⟨rfl, rfl⟩) | (go_at_call 82; refine (gr_is HT2.out _).mono ?_; rintro e w' ⟨rfl, rfl⟩))
          go_round
          case rel => exact ⟨k + 1, by omega, by go_num, HN⟩
          case measure => simp [intOf]; omega
        | false =>
          by_cases h1 : 48 ≤ s[k].toNat
          · by_cases h2 : s[k].toNat ≤ 57
            · have HN : Hid (wl s = (k + 1 : Nat) + more s (k + 1)) := by have := HK.out; rw [more_go hlt (goes_d h1 h2)] at this; exact Lib.hid (by omega)
              have h4 : decide ((s[k].toNat : Int) ≤ 57) = true := by simpa using (by omega : (s[k].toNat : Int) ≤ 57)
              have HW2 := Lib.hid hw
              have HT2 := Lib.hid ht
              clear hw ht
              go_wp2_with (first | (go_at_call 80; refine (sm_is HW2.out _).mono ?_; rintro e w' ⟨rfl, rfl⟩) | (go_at_call 82; refine (gr_is HT2.out _).mono ?_; rintro e w' ⟨rfl, rfl⟩))
              go_round
              case rel => exact ⟨k + 1, by omega, by go_num, HN⟩
              case measure => simp [intOf]; omega
            · have HN : Hid (wl s = k) := by have := HK.out; rw [more_stop hlt (goes_no hw ht (by omega))] at this; exact Lib.hid this
              have h4 : decide ((s[k].toNat : Int) ≤ 57) = false := by simpa using (by omega : ¬ (s[k].toNat : Int) ≤ 57)
              have HW2 := Lib.hid hw
              have HT2 := Lib.hid ht
              clear hw ht
              go_wp2_with (first | (go_at_call 80; refine (sm_is HW2.out _).mono ?_; rintro e w' ⟨rfl, rfl⟩) | (go_at_call 82; refine (gr_is HT2.out _).mono ?_; rintro e w' ⟨rfl, rfl⟩))
              go_ret
              exact ⟨ret_num (by rw [HN.out]), rfl⟩
          · have HN : Hid (wl s = k) := by have := HK.out; rw [more_stop hlt (goes_no hw ht (by omega))] at this; exact Lib.hid this
            have h4 : decide (48 ≤ (s[k].toNat : Int)) = false := by simpa using (by omega : ¬ 48 ≤ (s[k].toNat : Int))
            have HW2 := Lib.hid hw
            have HT2 := Lib.hid ht
            clear hw ht
            go_wp2_with (first | (go_at_call 80; refine (sm_is HW2.out _).mono ?_; rintro e w' ⟨rfl, rfl⟩) | (go_at_call 82; refine (gr_is HT2.out _).mono ?_; rintro e w' ⟨rfl, rfl⟩))
            go_ret
            exact ⟨ret_num (by rw [HN.out]), rfl⟩
    · have HN : Hid (wl s = k) := by have := HK.out; rw [more_end (by omega)] at this; exact Lib.hid this
      go_wp2_with fail
      go_ret
      exact ⟨ret_num (by rw [HN.out]), rfl⟩
set_option maxHeartbeats 1000000 in
theorem rword_t (s : ByteArray) (hs : s.size ≤ 9223372036854775807) (h0 : 0 < s.size) (HW : Hid (begW s[0].toNat = false)) (HT : Hid (begT s[0].toNat = true)) (HL : Hid (wl s = 1 + more s 1)) (w : World) :
    Calls Tryd.prog 79 #[.string s] w fun e w' => e = .returned (.int .i64 (wl s)) ∧ w = w' := by
  have hz : ((s.size : Int) == 0) = false := by simpa using (by omega : ¬ s.size = 0)
  go_enter Tryd.func79, Tryd.ntmps79
  go_wp2_with (first | (go_at_call 80; refine (sm_is HW.out _).mono ?_; rintro e w' ⟨rfl, rfl⟩) | (go_at_call 82; refine (gr_is HT.out _).mono ?_; rintro e w' ⟨rfl, rfl⟩))
  go_loop [3] (fun i => ∃ k : Nat, k ≤ s.size ∧ i = .int .i64 k ∧ Hid (wl s = k + more s k)) (fun i => s.size - (intOf i).toNat)
  case atStart => exact ⟨1, by omega, rfl, HL⟩
  case round =>
    obtain ⟨k, hk, rfl, HK⟩ := hrel
    by_cases hlt : k < s.size
    · cases hw : begW s[k].toNat with
      | true =>
        have HN : Hid (wl s = (k + 1 : Nat) + more s (k + 1)) := by have := HK.out; rw [more_go hlt (goes_w hw)] at this; exact Lib.hid (by omega)
        have HW2 := Lib.hid hw
        clear hw
        go_wp2_with (go_at_call 80; refine (sm_is HW2.out _).mono ?_; rintro e w' ⟨rfl, rfl⟩)
        go_round
        case rel => exact ⟨k + 1, by omega, by go_num, HN⟩
        case measure => simp [intOf]; omega
      | false =>
        cases ht : begT s[k].toNat with
        | true =>
          have HN : Hid (wl s = (k + 1 : Nat) + more s (k + 1)) := by have := HK.out; rw [more_go hlt (goes_t ht)] at this; exact Lib.hid (by omega)
          have HW2 := Lib.hid hw
          have HT2 := Lib.hid ht
          clear hw ht
          go_wp2_with (first | (go_at_call 80; refine (sm_is HW2.out _).mono ?_; rintro e w' ⟨rfl, rfl⟩) | (go_at_call 82; refine (gr_is HT2.out _).mono ?_; rintro e w' ⟨rfl, rfl⟩))
          go_round
          case rel => exact ⟨k + 1, by omega, by go_num, HN⟩
          case measure => simp [intOf]; omega
        | false =>
          by_cases h1 : 48 ≤ s[k].toNat
          · by_cases h2 : s[k].toNat ≤ 57
            · have HN : Hid (wl s = (k + 1 : Nat) + more s (k + 1)) := by have := HK.out; rw [more_go hlt (goes_d h1 h2)] at this; exact Lib.hid (by omega)
              have h4 : decide ((s[k].toNat : Int) ≤ 57) = true := by simpa using (by omega : (s[k].toNat : Int) ≤ 57)
              have HW2 := Lib.hid hw
              have HT2 := Lib.hid ht
              clear hw ht
              go_wp2_with (first | (go_at_call 80; refine (sm_is HW2.out _).mono ?_; rintro e w' ⟨rfl, rfl⟩) | (go_at_call 82; refine (gr_is HT2.out _).mono ?_; rintro e w' ⟨rfl, rfl⟩))
              go_round
              case rel => exact ⟨k + 1, by omega, by go_num, HN⟩
              case measure => simp [intOf]; omega
            · have HN : Hid (wl s = k) := by have := HK.out; rw [more_stop hlt (goes_no hw ht (by omega))] at this; exact Lib.hid this
              have h4 : decide ((s[k].toNat : Int) ≤ 57) = false := by simpa using (by omega : ¬ (s[k].toNat : Int) ≤ 57)
              have HW2 := Lib.hid hw
              have HT2 := Lib.hid ht
              clear hw ht
              go_wp2_with (first | (go_at_call 80; refine (sm_is HW2.out _).mono ?_; rintro e w' ⟨rfl, rfl⟩) | (go_at_call 82; refine (gr_is HT2.out _).mono ?_; rintro e w' ⟨rfl, rfl⟩))
              go_ret
              exact ⟨ret_num (by rw [HN.out]), rfl⟩
          · have HN : Hid (wl s = k) := by have := HK.out; rw [more_stop hlt (goes_no hw ht (by omega))] at this; exact Lib.hid this
            have h4 : decide (48 ≤ (s[k].toNat : Int)) = false := by simpa using (by omega : ¬ 48 ≤ (s[k].toNat : Int))
            have HW2 := Lib.hid hw
            have HT2 := Lib.hid ht
            clear hw ht
            go_wp2_with (first | (go_at_call 80; refine (sm_is HW2.out _).mono ?_; rintro e w' ⟨rfl, rfl⟩) | (go_at_call 82; refine (gr_is HT2.out _).mono ?_; rintro e w' ⟨rfl, rfl⟩))
            go_ret
            exact ⟨ret_num (by rw [HN.out]), rfl⟩
    · have HN : Hid (wl s = k) := by have := HK.out; rw [more_end (by omega)] at this; exact Lib.hid this
      go_wp2_with fail
      go_ret
      exact ⟨ret_num (by rw [HN.out]), rfl⟩
theorem rword_any (s : ByteArray) (hs : s.size ≤ 9223372036854775807) (w : World) :
    Calls Tryd.prog 79 #[.string s] w fun e w' => e = .returned (.int .i64 (wl s)) ∧ w = w' := by
  by_cases h0 : 0 < s.size
  · have hf := fst_at h0
    cases hw : begW s[0].toNat with
    | true => exact rword_w s hs h0 (Lib.hid hw) (Lib.hid (wl_w h0 (by rw [hf, hw]; rfl))) w
    | false =>
      cases ht : begT s[0].toNat with
      | true => exact rword_t s hs h0 (Lib.hid hw) (Lib.hid ht) (Lib.hid (wl_w h0 (by rw [hf, hw, ht]; rfl))) w
      | false =>
        rw [wl_not (by rw [hf]; exact hw) (by rw [hf]; exact ht)]
        exact rword_no s h0 (Lib.hid hw) (Lib.hid ht) w
  · rw [wl_none h0]
    obtain rfl := is_empty h0
    go_enter Tryd.func79, Tryd.ntmps79
    go_wp2_with fail
    go_ret
    exact ⟨rfl, rfl⟩
end Go.Proofs.YteikpeaakmbihaaDoor.M
