/- More plain mathematics of a number's text: what makes a text no number's, and what makes it one. -/
import Derived.Test.YtekbfgjlkmldgaaDoorWText
namespace Go.Proofs.YtekbfgjlkmldgaaDoor.W
open Go.RowKit
theorem dec_len : ∀ (k u : Nat), 1 ≤ k → u < 10 ^ k → (Lib.decDigits u).length ≤ k
  | 0, _, h, _ => by omega
  | k + 1, u, _, h => by
    by_cases h9 : u < 10
    · rw [dec_small h9, List.length_singleton]; omega
    · have hk : 1 ≤ k := by
        rcases Nat.eq_zero_or_pos k with e | e
        · subst e; simp at h; omega
        · exact e
      rw [dec_big h9, List.length_append, List.length_singleton]
      have := dec_len k (u / 10) hk (by rw [Nat.pow_succ] at h; omega)
      omega
theorem dec_len19 (u : Nat) (h : u ≤ 9223372036854775808) : (Lib.decDigits u).length ≤ 19 := dec_len 19 u (by omega) (by omega)
theorem no_long_plain {l : List UInt8} (hs : l.head? ≠ some 126) (h : 19 < l.length) : ∀ m, InR m → l ≠ wtext m := by
  intro m hm e
  obtain ⟨_, e'⟩ := plain_text hs e
  have := dec_len19 m.natAbs (by unfold InR at hm; omega)
  rw [← e'] at this; omega
theorem no_zero_plain {l : List UInt8} (hs : l.head? ≠ some 126) (h1 : 1 < l.length) (h48 : ∃ c, l.head? = some c ∧ c.toNat = 48) : ∀ m, InR m → l ≠ wtext m := by
  intro m _ e
  obtain ⟨_, e'⟩ := plain_text hs e
  obtain ⟨c, hc, h48⟩ := h48
  by_cases h0 : m.natAbs = 0
  · rw [e', h0, dec_small (by omega), List.length_singleton] at h1; omega
  · exact dec_head m.natAbs (by omega) c (by rw [← e']; exact hc) h48
theorem big_plain {l : List UInt8} (hs : l.head? ≠ some 126) (h : 9223372036854775807 < dval l) : ∀ m, InR m → l ≠ wtext m := by
  intro m hm e
  obtain ⟨_, e'⟩ := plain_text hs e
  rw [e', dec_val] at h
  unfold InR at hm; omega
theorem yes_plain {l : List UInt8} (hd : AllDig l) (hn : l ≠ []) (hz : l.length ≤ 1 ∨ ∀ c, l.head? = some c → c.toNat ≠ 48) : l = wtext (dval l : Int) := by
  rw [wtext_pos (by omega), Int.natAbs_natCast, ← dec_of hd hn hz]
theorem no_long_sign {l : List UInt8} (hs : l.head? = some 126) (h : 19 < l.tail.length) : ∀ m, InR m → l ≠ wtext m := by
  intro m hm e
  obtain ⟨_, e'⟩ := sign_text hs e
  have := dec_len19 m.natAbs (by unfold InR at hm; omega)
  rw [← e'] at this; omega
theorem no_none_sign {l : List UInt8} (hs : l.head? = some 126) (h : l.tail = []) : ∀ m, InR m → l ≠ wtext m := by
  intro m _ e
  obtain ⟨_, e'⟩ := sign_text hs e
  exact dec_ne m.natAbs (by rw [← e']; exact h)
theorem no_zero_sign {l : List UInt8} (hs : l.head? = some 126) (h48 : ∃ c, l.tail.head? = some c ∧ c.toNat = 48) : ∀ m, InR m → l ≠ wtext m := by
  intro m _ e
  obtain ⟨h, e'⟩ := sign_text hs e
  obtain ⟨c, hc, h48⟩ := h48
  exact dec_head m.natAbs (by omega) c (by rw [← e']; exact hc) h48
theorem big_sign {l : List UInt8} (hs : l.head? = some 126) (h : 9223372036854775808 < dval l.tail) : ∀ m, InR m → l ≠ wtext m := by
  intro m hm e
  obtain ⟨_, e'⟩ := sign_text hs e
  rw [e', dec_val] at h
  unfold InR at hm; omega
theorem yes_sign {l : List UInt8} (hs : l.head? = some 126) (hd : AllDig l.tail) (hn : l.tail ≠ []) (hz : ∀ c, l.tail.head? = some c → c.toNat ≠ 48) : l = wtext (-(dval l.tail : Int)) := by
  have h1 := dval_pos hz hd hn
  rw [wtext_neg (by omega), show (-(dval l.tail : Int)).natAbs = dval l.tail by omega, ← dec_of hd hn (Or.inr hz)]
  cases l with
  | nil => simp at hs
  | cons c r => rw [List.head?_cons, Option.some.injEq] at hs; rw [hs, List.tail_cons]
theorem head_at (s : ByteArray) (h : 0 < s.size) : s.data.toList.head? = some s[0] := by
  rw [List.head?_eq_getElem?]
  have : s.data.toList[0]? = some (s.data[0]'h) := by simp
  exact this
theorem size_len (s : ByteArray) : s.data.toList.length = s.size := by rw [Array.length_toList]; rfl
end Go.Proofs.YtekbfgjlkmldgaaDoor.W
