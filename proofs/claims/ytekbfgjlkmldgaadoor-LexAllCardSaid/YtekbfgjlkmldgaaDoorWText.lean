/- Plain mathematics of a number's text: which texts are a number's, and what is read of any text: the number and no error, or 0 and the error. -/
import Derived.Test.YtekbfgjlkmldgaaDoorWDigits
namespace Go.Proofs.YtekbfgjlkmldgaaDoor.W
open Go.RowKit
/-- A number of 64 bits. -/
def InR (m : Int) : Prop := -9223372036854775808 ≤ m ∧ m ≤ 9223372036854775807
instance (m : Int) : Decidable (InR m) := by unfold InR; infer_instance
theorem wrap_in (x : Int) : InR (wrap64 x) := by unfold InR; simp only [wrap64]; omega
theorem wrap_of {x : Int} (h : InR x) : wrap64 x = x := by unfold InR at h; simp only [wrap64]; omega
theorem wrap_twice (x : Int) : wrap64 (wrap64 x) = wrap64 x := wrap_of (wrap_in x)
/-- What a text is worth, if it is a number's. -/
def tval (l : List UInt8) : Int := if l.head? = some 126 then -(dval l.tail : Int) else dval l
theorem dec_head_dig (u : Nat) : (Lib.decDigits u).head? ≠ some 126 := by
  intro h
  have := dec_dig u 126 (List.mem_of_mem_head? h)
  simp at this
theorem wtext_neg {n : Int} (h : n < 0) : wtext n = 126 :: Lib.decDigits n.natAbs := by rw [wtext, if_pos h]
theorem wtext_pos {n : Int} (h : ¬ n < 0) : wtext n = Lib.decDigits n.natAbs := by rw [wtext, if_neg h]
theorem tval_wtext (n : Int) : tval (wtext n) = n := by
  by_cases h : n < 0
  · rw [wtext_neg h, tval, if_pos (by simp), List.tail_cons, dec_val]; omega
  · rw [wtext_pos h, tval, if_neg (dec_head_dig _), dec_val]; omega
/-- What is read of a text: the number, or 0; no error, or the text's. -/
def pv (l : List UInt8) : Int := if InR (tval l) ∧ wtext (tval l) = l then tval l else 0
def pe (l : List UInt8) : Int := if InR (tval l) ∧ wtext (tval l) = l then 0 else 5
theorem pv_yes {m : Int} (h : InR m) : pv (wtext m) = m ∧ pe (wtext m) = 0 := by
  unfold pv pe
  rw [tval_wtext, if_pos ⟨h, rfl⟩, if_pos ⟨h, rfl⟩]; exact ⟨rfl, rfl⟩
theorem pv_no {l : List UInt8} (h : ∀ m, InR m → l ≠ wtext m) : pv l = 0 ∧ pe l = 5 := by
  have : ¬ (InR (tval l) ∧ wtext (tval l) = l) := fun ⟨h1, h2⟩ => h _ h1 h2.symm
  unfold pv pe
  rw [if_neg this, if_neg this]; exact ⟨rfl, rfl⟩
/-- Without a sign. -/
theorem plain_text {l : List UInt8} (hs : l.head? ≠ some 126) {m : Int} (e : l = wtext m) : ¬ m < 0 ∧ l = Lib.decDigits m.natAbs := by
  by_cases h : m < 0
  · exact absurd (by rw [e, wtext_neg h]; rfl) hs
  · exact ⟨h, by rw [e, wtext_pos h]⟩
theorem no_plain {l : List UInt8} (hs : l.head? ≠ some 126) (hb : ¬ AllDig l) : ∀ m, InR m → l ≠ wtext m := by
  intro m _ e
  obtain ⟨_, e'⟩ := plain_text hs e
  exact hb (by rw [e']; exact dec_dig _)
theorem end_plain {l : List UInt8} (hs : l.head? ≠ some 126) (hw : wtext (wrap64 (dval l)) ≠ l) : ∀ m, InR m → l ≠ wtext m := by
  intro m hm e
  obtain ⟨h, e'⟩ := plain_text hs e
  have hv : (dval l : Int) = m := by rw [e', dec_val]; omega
  exact hw (by rw [hv, wrap_of hm, ← e])
/-- With a sign. -/
theorem sign_text {l : List UInt8} (hs : l.head? = some 126) {m : Int} (e : l = wtext m) : m < 0 ∧ l.tail = Lib.decDigits m.natAbs := by
  by_cases h : m < 0
  · exact ⟨h, by rw [e, wtext_neg h, List.tail_cons]⟩
  · rw [e, wtext_pos h] at hs
    exact absurd hs (dec_head_dig _)
theorem no_sign {l : List UInt8} (hs : l.head? = some 126) (hb : ¬ AllDig l.tail) : ∀ m, InR m → l ≠ wtext m := by
  intro m _ e
  obtain ⟨_, e'⟩ := sign_text hs e
  exact hb (by rw [e']; exact dec_dig _)
theorem end_sign {l : List UInt8} (hs : l.head? = some 126) (hw : wtext (wrap64 (-(dval l.tail : Int))) ≠ l) : ∀ m, InR m → l ≠ wtext m := by
  intro m hm e
  obtain ⟨h, e'⟩ := sign_text hs e
  have hv : (-(dval l.tail : Int)) = m := by rw [e', dec_val]; omega
  exact hw (by rw [hv, wrap_of hm, ← e])
theorem no_empty : ∀ m, InR m → [] ≠ wtext m := by
  intro m _ e
  by_cases h : m < 0
  · rw [wtext_neg h] at e; cases e
  · rw [wtext_pos h] at e; exact dec_ne _ e.symm
/-- A round of the reading, as it wraps. -/
theorem step_plain (v c : Int) : wrap64 (wrap64 (wrap64 v * 10) + c) = wrap64 (10 * v + c) := by simp only [wrap64]; omega
theorem step_sign (v c : Int) : wrap64 (wrap64 (wrap64 (-v) * 10) + -c) = wrap64 (-(10 * v + c)) := by simp only [wrap64]; omega
theorem take_snoc (s : ByteArray) (k : Nat) (h : k < s.size) : s.data.toList.take (k + 1) = s.data.toList.take k ++ [s[k]] := by
  rw [List.take_succ_eq_append_getElem (by simpa using h)]; rfl
theorem dval_take (s : ByteArray) (k : Nat) (h : k < s.size) (h48 : 48 ≤ (s[k]).toNat) : (dval (s.data.toList.take (k + 1)) : Int) = 10 * (dval (s.data.toList.take k) : Int) + ((s[k].toNat : Int) - 48) := by
  rw [take_snoc s k h, dval_snoc]; omega
theorem take_all (s : ByteArray) {k : Nat} (h : ¬ k < s.size) : s.data.toList.take k = s.data.toList := List.take_of_length_le (by simp; exact Nat.le_of_not_lt h)
theorem bad_at (s : ByteArray) (k : Nat) (h : k < s.size) (hb : ¬ (48 ≤ (s[k]).toNat ∧ (s[k]).toNat ≤ 57)) : ¬ AllDig s.data.toList := fun ha =>
  hb (ha _ (by show s.data[k]'h ∈ s.data.toList; exact Array.mem_toList_iff.2 (Array.getElem_mem h)))
theorem ret2_both {a b v e : Int} (h : v = a ∧ e = b) : Ending.returned (.tuple #[.int .i64 a, .int .i64 b]) = Ending.returned (.tuple #[.int .i64 v, .int .i64 e]) := by rw [h.1, h.2]
end Go.Proofs.YtekbfgjlkmldgaaDoor.W
