/- The document's Parse: of every text it returns the number that is read, or the error; what lay below is as it was. -/
import Derived.Test.YtekbfgjlkmldgaaDoorWRParse
namespace Go.Proofs.YtekbfgjlkmldgaaDoor.W
open Go.RowKit
theorem nil_of (t : ByteArray) (h : ¬ 0 < t.size) : t.data.toList = [] := by
  have := size_len t
  exact List.eq_nil_of_length_eq_zero (by omega)
theorem eq48 {c : UInt8} (h : c.toNat = 48) : c = 48 := UInt8.toNat_inj.1 (by rw [h]; rfl)
theorem one_zero (t : ByteArray) (h0 : 0 < t.size) (h1 : t.size ≤ 1) : t.data.toList = [t[0]] := by
  have hh := head_at t h0
  have hl := size_len t
  cases hx : t.data.toList with
  | nil => rw [hx] at hl; simp at hl; omega
  | cons c r =>
    rw [hx] at hh hl
    have : r = [] := List.eq_nil_of_length_eq_zero (by simp at hl; omega)
    subst this
    simpa using hh
theorem rparse_any {B : Nat} (s : ByteArray) (hs : s.size ≤ 140737488351232) (w : World) : Calls Tryd.prog 23 #[.string s] w (Read s B w) := by
  by_cases h0 : 0 < s.size
  · have hh := head_at s h0
    by_cases hT : s[0].toNat = 126
    · have h126 : s.data.toList.head? = some 126 := by rw [hh, show s[0] = (126 : UInt8) from UInt8.toNat_inj.1 (by rw [hT]; rfl)]
      have hT' : ((s[0].toNat : Int) == 126) = true := by simp [hT]
      obtain ⟨t, hx⟩ : ∃ t, s.extract 1 s.size = t := ⟨_, rfl⟩
      have ht : t.data.toList = s.data.toList.tail := by rw [← hx]; exact tail_of s
      have hlen := size_len t
      by_cases hp : 0 < t.size
      · have hth := head_at t hp
        rw [ht] at hth
        by_cases h19 : t.size ≤ 19
        · by_cases h48 : t[0].toNat = 48
          · have HN : Hid (∀ m, InR m → s.data.toList ≠ wtext m) := Lib.hid (no_zero_sign h126 ⟨_, hth, h48⟩)
            by_cases h1 : t.size ≤ 1
            · exact rp_sone s hs h0 hT' t hx hp h1 (by rw [ByteArray.toList_eq, one_zero t hp h1, eq48 h48]; rfl) HN w
            · exact rp_szero s hs h0 hT' t hx h19 (by omega) (by simp [h48]) HN w
          · have hz : ∀ c, s.data.toList.tail.head? = some c → c.toNat ≠ 48 := fun c hc => by rw [hth] at hc; rw [← Option.some.inj hc]; exact h48
            have hne : (t.toList == [48]) = false := by
              rw [ByteArray.toList_eq]
              have hth' := head_at t hp
              cases hl : t.data.toList with
              | nil => rfl
              | cons c r =>
                rw [hl] at hth'
                have hc : c ≠ 48 := by intro e; exact h48 (by rw [← Option.some.inj hth', e]; rfl)
                simp [hc]
            by_cases h1 : t.size ≤ 1
            · exact rp_sgood1 s hs h0 hT' t hx hp h1 hne (Lib.hid h126) (Lib.hid ht) (Lib.hid hz) w
            · exact rp_smore s hs h0 hT' t hx h19 (by omega) (by simpa using (by omega : ¬ (t[0].toNat : Int) = 48)) hne (Lib.hid h126) (Lib.hid ht) (Lib.hid hz) w
        · exact rp_slong s hs h0 hT' t hx (by omega) (Lib.hid (no_long_sign h126 (by rw [← ht, hlen]; omega))) w
      · exact rp_snone s hs h0 hT' t hx (by omega) (Lib.hid (no_none_sign h126 (by rw [← ht]; exact nil_of t hp))) w
    · have h126 : s.data.toList.head? ≠ some 126 := by rw [hh]; intro e; exact hT (by rw [Option.some.inj e]; rfl)
      have hT' : ((s[0].toNat : Int) == 126) = false := by simpa using (by omega : ¬ (s[0].toNat : Int) = 126)
      have hlen := size_len s
      by_cases h1 : s.size ≤ 1
      · exact rp_one s hs h0 hT' h1 (Lib.hid h126) (Lib.hid (Or.inl (by omega))) w
      · by_cases h19 : s.size ≤ 19
        · by_cases h48 : s[0].toNat = 48
          · exact rp_zero s hs h0 hT' h19 (by omega) (by simp [h48]) (Lib.hid (no_zero_plain h126 (by omega) ⟨_, hh, h48⟩)) w
          · exact rp_more s hs h0 hT' h19 (by omega) (by simpa using (by omega : ¬ (s[0].toNat : Int) = 48)) (Lib.hid h126) (Lib.hid (Or.inr fun c hc => by rw [hh] at hc; rw [← Option.some.inj hc]; exact h48)) w
        · exact rp_long s hs h0 hT' (by omega) (Lib.hid (no_long_plain h126 (by omega))) w
  · have e : s = ⟨#[]⟩ := by
      apply ByteArray.ext
      exact Array.eq_empty_of_size_eq_zero (by have : s.data.size = s.size := rfl; omega)
    subst e
    exact rp_empty w
end Go.Proofs.YtekbfgjlkmldgaaDoor.W
