/- Plain mathematics of fresh names: of a beginning with the numbers from 1 on behind it, one is none of the used texts, and there is a least such number. -/
import Derived.Test.YthgpjcphbjbomaaDoorItoa
namespace Go.Proofs.YthgpjcphbjbomaaDoor
/-- What a row of digits is worth. -/
def dval (l : List UInt8) : Nat := l.foldl (fun n c => 10 * n + (c.toNat - 48)) 0
theorem dval_snoc (l : List UInt8) (c : UInt8) : dval (l ++ [c]) = 10 * dval l + (c.toNat - 48) := by simp [dval]
theorem dec_val (u : Nat) : dval (Lib.decDigits u) = u := by
  induction u using Nat.strongRecOn with
  | ind u ih =>
    by_cases h : u < 10
    · have e := dval_snoc [] (UInt8.ofNat (48 + u))
      rw [List.nil_append] at e
      rw [dec_small h, e, show dval [] = 0 from rfl, dig_nat u h]; omega
    · rw [dec_big h, dval_snoc, ih (u / 10) (by omega), dig_nat (u % 10) (by omega)]; omega
/-- A number's digits, as a text. -/
def dec (n : Nat) : ByteArray := ⟨(Lib.decDigits n).toArray⟩
theorem dec_size (n : Nat) (h : n < 1000) : (dec n).size ≤ 20 := by
  have := (decDigits_le n (by omega)).2
  simpa [dec, ByteArray.size] using this
theorem dec_inj {b : ByteArray} {i j : Nat} (h : (b ++ dec i).data.toList = (b ++ dec j).data.toList) : i = j := by
  rw [ByteArray.data_append, ByteArray.data_append, Array.toList_append, Array.toList_append] at h
  have h2 := congrArg dval (show Lib.decDigits i = Lib.decDigits j from List.append_cancel_left h)
  rwa [dec_val, dec_val] at h2
theorem holes : ∀ (n : Nat) (f : Nat → List UInt8) (l : List (List UInt8)), (∀ i j, i < n → j < n → f i = f j → i = j) → (∀ i, i < n → f i ∈ l) → n ≤ l.length
  | 0, _, _, _, _ => Nat.zero_le _
  | n + 1, f, l, hf, hl => by
    have ih := holes n f (l.erase (f n)) (fun i j hi hj => hf i j (by omega) (by omega)) (fun i hi => (List.mem_erase_of_ne (fun e => by have := hf i n (by omega) (by omega) e; omega)).2 (hl i (by omega)))
    have hm := hl n (by omega)
    rw [List.length_erase_of_mem hm] at ih
    have := List.length_pos_of_mem hm
    omega
theorem least : ∀ (n : Nat) (P : Nat → Bool), (∃ j, 1 ≤ j ∧ j ≤ n ∧ P j = false) → ∃ m, 1 ≤ m ∧ m ≤ n ∧ P m = false ∧ ∀ j, 1 ≤ j → j < m → P j = true
  | 0, _, ⟨j, h1, h2, _⟩ => by omega
  | n + 1, P, ⟨j, h1, h2, h3⟩ => by
    by_cases h : ∃ j, 1 ≤ j ∧ j ≤ n ∧ P j = false
    · obtain ⟨m, m1, m2, m3, m4⟩ := least n P h
      exact ⟨m, m1, by omega, m3, m4⟩
    · refine ⟨j, h1, h2, h3, fun i i1 i2 => ?_⟩
      cases hp : P i with
      | true => rfl
      | false => exact absurd ⟨i, i1, by omega, hp⟩ h
/-- m is the least number from 1 on that makes the beginning b none of ss. -/
def Least (ss : List ByteArray) (b : ByteArray) (m : Nat) : Prop := 1 ≤ m ∧ m ≤ ss.length + 1 ∧ inB (b ++ dec m) ss = false ∧ ∀ j, 1 ≤ j → j < m → inB (b ++ dec j) ss = true
theorem least_is (ss : List ByteArray) (b : ByteArray) : ∃ m, Least ss b m := by
  refine least (ss.length + 1) (fun j => inB (b ++ dec j) ss) ?_
  apply Classical.byContradiction
  intro hno
  have hall : ∀ i, i < ss.length + 1 → (b ++ dec (i + 1)).data.toList ∈ ss.map fun s => s.data.toList := fun i hi => by
    cases hp : inB (b ++ dec (i + 1)) ss with
    | true => exact List.mem_map.2 ⟨_, inB_iff.1 hp, rfl⟩
    | false => exact absurd ⟨i + 1, by omega, by omega, hp⟩ hno
  have := holes (ss.length + 1) (fun i => (b ++ dec (i + 1)).data.toList) _ (fun i j _ _ e => by have := dec_inj e; omega) hall
  rw [List.length_map] at this
  omega
theorem least_one {ss : List ByteArray} {b : ByteArray} {m n : Nat} (h : Least ss b m) (k : Least ss b n) : m = n := by
  rcases Nat.lt_trichotomy m n with x | x | x
  · have := k.2.2.2 m h.1 x; rw [h.2.2.1] at this; cases this
  · exact x
  · have := h.2.2.2 n k.1 x; rw [k.2.2.1] at this; cases this
end Go.Proofs.YthgpjcphbjbomaaDoor
