/- Plain mathematics of decimal digits: what a row of digits is worth, that a number's digits are worth the number, and which rows are a number's digits. -/
import Derived.Test.YtekbfgjlkmldgaaDoorWPrint
namespace Go.Proofs.YtekbfgjlkmldgaaDoor.W

theorem snocRec {p : List UInt8 → Prop} (nil : p []) (append_singleton : ∀ l c, p l → p (l ++ [c])) (l : List UInt8) : p l := by
  have h : ∀ r : List UInt8, p r.reverse := by
    intro r
    induction r with
    | nil => exact nil
    | cons c r ih => rw [List.reverse_cons]; exact append_singleton _ _ ih
  have := h l.reverse
  rwa [List.reverse_reverse] at this
/-- What a row of digits is worth. -/
def dval (l : List UInt8) : Nat := l.foldl (fun n c => 10 * n + (c.toNat - 48)) 0
theorem dval_snoc (l : List UInt8) (c : UInt8) : dval (l ++ [c]) = 10 * dval l + (c.toNat - 48) := by simp [dval]
theorem dval_nil : dval [] = 0 := rfl
/-- All are digits. -/
def AllDig (l : List UInt8) : Prop := ∀ c ∈ l, 48 ≤ c.toNat ∧ c.toNat ≤ 57
theorem AllDig.snoc {l : List UInt8} {c : UInt8} (h : AllDig l) (h1 : 48 ≤ c.toNat) (h2 : c.toNat ≤ 57) : AllDig (l ++ [c]) := by
  intro x hx
  rcases List.mem_append.1 hx with hx | hx
  · exact h x hx
  · rw [List.mem_singleton.1 hx]; exact ⟨h1, h2⟩
theorem dig_nat (d : Nat) (h : d < 10) : (UInt8.ofNat (48 + d)).toNat = 48 + d := by
  rw [UInt8.toNat_ofNat']; omega
theorem dec_small {u : Nat} (h : u < 10) : Lib.decDigits u = [UInt8.ofNat (48 + u)] := by rw [Lib.decDigits, dif_pos h]
theorem dec_big {u : Nat} (h : ¬ u < 10) : Lib.decDigits u = Lib.decDigits (u / 10) ++ [UInt8.ofNat (48 + u % 10)] := by rw [Lib.decDigits, dif_neg h]
theorem dec_dig (u : Nat) : AllDig (Lib.decDigits u) := by
  induction u using Nat.strongRecOn with
  | ind u ih =>
    by_cases h : u < 10
    · rw [dec_small h]
      intro c hc
      rw [List.mem_singleton.1 hc, dig_nat u h]; omega
    · rw [dec_big h]
      have := dig_nat (u % 10) (by omega)
      exact (ih (u / 10) (by omega)).snoc (by omega) (by omega)
theorem dec_val (u : Nat) : dval (Lib.decDigits u) = u := by
  induction u using Nat.strongRecOn with
  | ind u ih =>
    by_cases h : u < 10
    · have e := dval_snoc [] (UInt8.ofNat (48 + u))
      rw [List.nil_append] at e
      rw [dec_small h, e, dval_nil, dig_nat u h]; omega
    · rw [dec_big h, dval_snoc, ih (u / 10) (by omega), dig_nat (u % 10) (by omega)]; omega
theorem dec_ne (u : Nat) : Lib.decDigits u ≠ [] := by
  intro h
  have := Lib.nDigits_pos u
  rw [← Lib.decDigits_length, h] at this
  simp at this
/-- The first digit of a number from 1 on is no 0. -/
theorem dec_head (u : Nat) (h : 1 ≤ u) : ∀ c, (Lib.decDigits u).head? = some c → c.toNat ≠ 48 := by
  induction u using Nat.strongRecOn with
  | ind u ih =>
    by_cases h9 : u < 10
    · rw [dec_small h9]
      intro c hc
      simp only [List.head?_cons, Option.some.injEq] at hc
      rw [← hc, dig_nat u h9]; omega
    · rw [dec_big h9]
      intro c hc
      have := ih (u / 10) (by omega) (by omega)
      obtain ⟨x, r, e⟩ := List.exists_cons_of_ne_nil (dec_ne (u / 10))
      rw [e] at hc this
      exact this c (by simpa using hc)
theorem dval_pos {l : List UInt8} (hl : ∀ c, l.head? = some c → c.toNat ≠ 48) (hd : AllDig l) (hn : l ≠ []) : 1 ≤ dval l := by
  induction l using snocRec with
  | nil => exact absurd rfl hn
  | append_singleton l c ih =>
    rw [dval_snoc]
    by_cases h : l = []
    · subst h
      have h1 := hl c (by simp)
      have h2 := hd c (by simp)
      omega
    · have h1 := ih (fun x hx => hl x (by obtain ⟨y, r, e⟩ := List.exists_cons_of_ne_nil h; rw [e] at hx ⊢; simpa using hx)) (fun x hx => hd x (List.mem_append_left _ hx)) h
      omega
/-- A row of digits with no 0 too many is the digits of what it is worth. -/
theorem dec_of {l : List UInt8} (hd : AllDig l) (hn : l ≠ []) (hz : l.length ≤ 1 ∨ ∀ c, l.head? = some c → c.toNat ≠ 48) : l = Lib.decDigits (dval l) := by
  induction l using snocRec with
  | nil => exact absurd rfl hn
  | append_singleton l c ih =>
    have hc := hd c (by simp)
    have hcc : UInt8.ofNat (48 + (c.toNat - 48)) = c := by
      apply UInt8.toNat_inj.1
      rw [dig_nat _ (by omega)]; omega
    rw [dval_snoc]
    by_cases h : l = []
    · subst h
      rw [dval_nil, dec_small (by omega)]
      simp only [List.nil_append, Nat.mul_zero, Nat.zero_add, hcc]
    · have hlen : 1 ≤ l.length := by cases l with | nil => exact absurd rfl h | cons x r => simp
      have hz' : ∀ x, l.head? = some x → x.toNat ≠ 48 := by
        rcases hz with hz | hz
        · simp at hz; exact absurd hz h
        · intro x hx
          exact hz x (by obtain ⟨y, r, e⟩ := List.exists_cons_of_ne_nil h; rw [e] at hx ⊢; simpa using hx)
      have hd' : AllDig l := fun x hx => hd x (List.mem_append_left _ hx)
      have h1 := dval_pos hz' hd' h
      rw [dec_big (by omega), show (10 * dval l + (c.toNat - 48)) / 10 = dval l by omega, show (10 * dval l + (c.toNat - 48)) % 10 = c.toNat - 48 by omega, hcc, ← ih hd' h (Or.inr hz')]
theorem dval_lt {l : List UInt8} (hd : AllDig l) : dval l < 10 ^ l.length := by
  induction l using snocRec with
  | nil => simp [dval]
  | append_singleton l c ih =>
    have := ih (fun x hx => hd x (List.mem_append_left _ hx))
    have hc := hd c (by simp)
    rw [dval_snoc, List.length_append, List.length_singleton, Nat.pow_succ]
    omega
end Go.Proofs.YtekbfgjlkmldgaaDoor.W
