/- passed: how many bytes are passed over ahead of a text's first token. -/
import Derived.Test.YtekbfgjlkmldgaaDoorLFirst
namespace Go.Proofs.YtekbfgjlkmldgaaDoor.L
open Go.RowKit
/-- How many bytes are passed over at a text's beginning; within a remark, or not. -/
def gp : Bool → List UInt8 → Nat
  | _, [] => 0
  | true, c :: r => if c.toNat = 10 then 1 + gp false r else 1 + gp true r
  | false, c :: r => if isB c.toNat = true then 1 + gp false r else if c.toNat = 35 then 1 + gp true r else 0
theorem gp_le : ∀ (l : List UInt8) (b : Bool), gp b l ≤ l.length
  | [], b => by cases b <;> simp [gp]
  | c :: r, true => by
    have h1 := gp_le r true
    have h2 := gp_le r false
    simp only [gp, List.length_cons]; split <;> omega
  | c :: r, false => by
    have h1 := gp_le r true
    have h2 := gp_le r false
    simp only [gp, List.length_cons]; split
    · omega
    · split <;> omega
theorem gp_blank {c : UInt8} {r : List UInt8} (h : isB c.toNat = true) : gp false (c :: r) = 1 + gp false r := by rw [gp, if_pos h]
theorem gp_hash {c : UInt8} {r : List UInt8} (h : c.toNat = 35) : gp false (c :: r) = 1 + gp true r := by
  rw [gp, if_neg (by rw [h]; decide), if_pos h]
theorem gp_tok {c : UInt8} {r : List UInt8} (h : isB c.toNat = false) (h' : c.toNat ≠ 35) : gp false (c :: r) = 0 := by
  rw [gp, if_neg (by rw [h]; decide), if_neg h']
theorem gp_in {c : UInt8} {r : List UInt8} (h : c.toNat ≠ 10) : gp true (c :: r) = 1 + gp true r := by rw [gp, if_neg h]
theorem gp_out {c : UInt8} {r : List UInt8} (h : c.toNat = 10) : gp true (c :: r) = gp false (c :: r) := by
  rw [gp, if_pos h, gp_blank (by rw [h]; decide)]
theorem gp_rem : ∀ (l : List UInt8), (Lib.indexByte l 10 = -1 ∧ gp true l = l.length) ∨ ∃ k : Nat, Lib.indexByte l 10 = k ∧ k ≤ l.length ∧ gp true l = k + gp false (l.drop k)
  | [] => .inl ⟨rfl, rfl⟩
  | c :: r => by
    by_cases hc : c.toNat = 10
    · have e : c = 10 := UInt8.toNat_inj.1 (by rw [hc]; rfl)
      exact .inr ⟨0, by rw [e]; rfl, by omega, by rw [gp_out hc, List.drop_zero]; omega⟩
    · have e : ¬ c = 10 := fun e => hc (by rw [e]; rfl)
      rw [gp_in hc]
      rcases gp_rem r with ⟨h1, h2⟩ | ⟨k, h1, hk, h2⟩
      · exact .inl ⟨by simp [Lib.indexByte, e, h1], by rw [h2, List.length_cons]; omega⟩
      · refine .inr ⟨k + 1, ?_, by rw [List.length_cons]; omega, by rw [h2, List.drop_succ_cons]; omega⟩
        simp [Lib.indexByte, e, h1]
theorem drop_list (s : ByteArray) (k : Nat) : (s.extract k s.size).data.toList = s.data.toList.drop k := by
  rw [data_extract]
  exact List.take_of_length_le (by rw [List.length_drop, M.size_len]; omega)
theorem blank35 (w : World) : Calls Tryd.prog 26 #[.string blanks, .int .u8 35] w fun e w' => e = .returned (.bool false) ∧ w = w' := blank_is (c := 35) (by decide) w
set_option maxHeartbeats 2000000 in
theorem passed_any (s : ByteArray) (hs : s.size ≤ 140737488351232) (w : World) :
    Calls Tryd.prog 19 #[.string s] w fun e w' => e = .returned (.int .i64 (gp false s.data.toList)) ∧ w = w' := by
  obtain ⟨G, hG⟩ : ∃ G, gp false s.data.toList = G := ⟨_, rfl⟩
  have HG0 : Hid (G = 0 + gp false (s.data.toList.drop 0)) := Lib.hid (by rw [List.drop_zero]; omega)
  rw [hG]
  clear hG
  go_enter Tryd.func19, Tryd.ntmps19
  go_wp2
  go_loop [3] (fun i => ∃ k : Nat, k ≤ s.size ∧ i = .int .i64 k ∧ Hid (G = k + gp false (s.data.toList.drop k))) (fun i => s.size - (intOf i).toNat)
  case atStart => exact ⟨0, by omega, rfl, HG0⟩
  case round =>
    obtain ⟨k, hk, rfl, HK⟩ := hrel
    by_cases hlt : k < s.size
    · have hd := M.drop_at s k hlt
      cases hb : isB s[k].toNat with
      | true =>
        have HN : Hid (G = (k + 1 : Nat) + gp false (s.data.toList.drop (k + 1))) := by have := HK.out; rw [hd, gp_blank hb] at this; exact Lib.hid (by omega)
        have HB := Lib.hid hb
        clear hb hd
        go_wp2_with (go_at_call 26; refine (blank_is HB.out _).mono ?_; rintro e w' ⟨rfl, rfl⟩)
        go_round
        case rel => exact ⟨k + 1, by omega, by go_num, HN⟩
        case measure => simp [intOf]; omega
      | false =>
        by_cases h35 : s[k].toNat = 35
        · have e1 : gp false (s.data.toList.drop k) = gp true (s.data.toList.drop k) := by
            rw [hd, gp_hash h35, gp_in (by omega)]
          obtain ⟨x, hx⟩ : ∃ x, s.extract k s.size = x := ⟨_, rfl⟩
          have hxl : x.data.toList = s.data.toList.drop k := by rw [← hx]; exact drop_list s k
          have hxs : x.size = s.size - k := by rw [← hx, size_extract]; omega
          have hq := eqb h35
          rcases gp_rem x.data.toList with ⟨h1, h2⟩ | ⟨j, h1, hj, h2⟩
          · have HN : Hid (G = s.size) := by have := HK.out; rw [e1, ← hxl, h2, M.size_len, hxs] at this; exact Lib.hid (by omega)
            have HR := Lib.hid h1
            have HB := Lib.hid hb
            clear hb hd h1 h2 hxl e1
            go_wp2_with (first
              | (go_at_call 26; refine (blank35 _).mono ?_; rintro e w' ⟨rfl, rfl⟩)
              | (go_at_call 27; refine (remark_no x HR _).mono ?_; rintro e w' ⟨rfl, rfl⟩))
            go_round
            case rel => exact ⟨s.size, by omega, by go_num, Lib.hid (by rw [HN.out, List.drop_of_length_le (by rw [M.size_len]; omega)]; rfl)⟩
            case measure => simp [intOf]; omega
          · have hj1 : 1 ≤ j := by
              rcases Nat.eq_zero_or_pos j with e | e
              · subst e
                rw [hxl, hd] at h1
                have : ¬ s[k] = 10 := fun e => by rw [e] at h35; exact absurd h35 (by decide)
                simp [Lib.indexByte, this] at h1
                split at h1 <;> omega
              · exact e
            have hjk : k + j ≤ s.size := by rw [M.size_len] at hj; omega
            have HN : Hid (G = (k + j : Nat) + gp false (s.data.toList.drop (k + j))) := by
              have := HK.out
              rw [e1, ← hxl, h2, hxl, List.drop_drop] at this
              exact Lib.hid (by omega)
            have HR := Lib.hid h1
            have HB := Lib.hid hb
            clear hb hd h1 h2 hxl e1
            go_wp2_with (first
              | (go_at_call 26; refine (blank35 _).mono ?_; rintro e w' ⟨rfl, rfl⟩)
              | (go_at_call 27; refine (remark_yes x j HR _).mono ?_; rintro e w' ⟨rfl, rfl⟩))
            go_round
            case rel => exact ⟨k + j, by omega, by go_num, HN⟩
            case measure => simp [intOf]; omega
        · have HN : Hid (G = k) := by have := HK.out; rw [hd, gp_tok hb h35] at this; exact Lib.hid (by omega)
          have hq := neb h35
          have HB := Lib.hid hb
          clear hb hd
          go_wp2_with (first
            | (go_at_call 26; refine (blank_is HB.out _).mono ?_; rintro e w' ⟨rfl, rfl⟩))
          go_ret
          exact ⟨M.ret_num (by rw [HN.out]), rfl⟩
    · have HN : Hid (G = k) := by have := HK.out; rw [List.drop_of_length_le (by rw [M.size_len]; omega), gp] at this; exact Lib.hid (by omega)
      go_wp2
      go_ret
      exact ⟨M.ret_num (by rw [HN.out]), rfl⟩
theorem passed_is {s : ByteArray} {n : Nat} (h : gp false s.data.toList = n) (hs : s.size ≤ 140737488351232) (w : World) :
    Calls Tryd.prog 19 #[.string s] w fun e w' => e = .returned (.int .i64 n) ∧ w = w' := by subst h; exact passed_any s hs w
end Go.Proofs.YtekbfgjlkmldgaaDoor.L
