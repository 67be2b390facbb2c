/- Joined by program. -/
import Derived.Test.YtjakeidbajkdcaaGreatDoorH28
namespace Go.Proofs.YtjakeidbajkdcaaGreatDoor.L
theorem tok_long (s : ByteArray) (h0 : 0 < s.size) (h : (tok s).e = 0) : 1 <= (tok s).long /\ (tok s).long <= s.size := by
  have hle := M.wl_le s
  unfold tok at h ⊢
  by_cases h1 : 0 < M.wl s
  · simp only [if_pos h1] at h ⊢
    have hsz : (s.extract 0 (M.wl s)).size = M.wl s := by rw [size_extract]; omega
    unfold wordR at h ⊢
    split at h
    · rename_i hk; rw [if_pos hk]; simp only [hsz]; omega
    · rename_i hk; rw [if_neg hk]
      split at h
      · simp [bad] at h
      · rename_i hk2; rw [if_neg hk2]
        split <;> (simp only [hsz]; omega)
  · simp only [if_neg h1] at h ⊢
    by_cases h39 : M.fst s = 39
    · simp only [if_pos h39] at h ⊢
      have hx := M.wl_le (s.extract 1 s.size)
      rw [size_extract] at hx
      unfold varR at h ⊢
      split at h
      · simp [bad] at h
      · rename_i hk; rw [if_neg hk]
        split at h
        · simp [bad] at h
        · rename_i hk2; rw [if_neg hk2]
          show 1 <= 1 + _ /\ 1 + _ <= s.size
          have : M.wl (s.extract 1 s.size) ≠ 0 := fun e => hk (Or.inl e)
          omega
    · simp only [if_neg h39] at h ⊢
      by_cases hd : M.fst s = 126 ∨ M.isD (M.fst s) = true
      · simp only [if_pos hd] at h ⊢
        have hl := dl_le s 1 h0
        unfold numR at h ⊢
        split at h
        · rename_i hk; rw [if_pos hk]
          show 1 <= (s.extract 0 _).size /\ (s.extract 0 _).size <= s.size
          rw [size_extract]; omega
        · rename_i hk; exact absurd h hk
      · simp only [if_neg hd] at h ⊢
        by_cases h34 : M.fst s = 34
        · simp only [if_pos h34] at h ⊢
          unfold strR at h ⊢
          split at h
          · rename_i hk; rw [if_pos hk]
            show 1 <= Q.tN _ /\ Q.tN _ <= s.size
            cases ho : Q.tq s.data.toList with
            | none => rw [ho] at hk; simp [Q.tE] at hk
            | some p =>
              obtain ⟨t, m⟩ := p
              rw [ho] at hk
              have hm : Q.tN (some (t, m)) = m := by
                unfold Q.tE at hk
                unfold Q.tN
                simp only at hk ⊢
                split at hk
                · simp at hk
                · rename_i hh; rw [if_neg hh]
              rw [hm]
              have hs := M.size_len s
              cases hl : s.data.toList with
              | nil => rw [hl] at hs; simp at hs; omega
              | cons c r =>
                rw [hl] at ho hs
                unfold Q.tq at ho
                simp only at ho
                split at ho
                · unfold Q.tkAt at ho
                  have := Q.tk_len _ _ _ _ _ _ ho
                  simp at this hs; omega
                · cases ho
          · rename_i hk; exact absurd h hk
        · simp only [if_neg h34] at h ⊢
          unfold signR at h ⊢
          split at h
          · simp [bad] at h
          · rename_i hk; rw [if_neg hk]
            show 1 <= sg s /\ sg s <= s.size
            refine ⟨by omega, ?_⟩
            unfold sg
            split
            · rename_i h2
              unfold two at h2
              rw [Bool.or_eq_true] at h2
              have := M.size_len s
              rcases h2 with h2 | h2 <;> (have := pre_le h2; simp at this; omega)
            · split <;> omega
def nx (s : ByteArray) (b : Nat) : Nat := b + gp false (s.data.toList.drop b)
theorem nx_le (s : ByteArray) (b : Nat) (h : b <= s.size) : nx s b <= s.size := by
  have := gp_le (s.data.toList.drop b) false
  rw [List.length_drop, M.size_len] at this
  rw [nx]; omega
theorem nx_ge (s : ByteArray) (b : Nat) : b <= nx s b := by rw [nx]; omega
abbrev Item := R × Nat
def its : Nat -> ByteArray -> Nat -> List Item
  | 0, _, _ => []
  | f + 1, s, a => if a < s.size then if (tok (s.extract a s.size)).e = 0 then (tok (s.extract a s.size), a) :: its f s (nx s (a + (tok (s.extract a s.size)).long)) else [(tok (s.extract a s.size), a)] else []
def items (s : ByteArray) : List Item := its (s.size + 1) s (nx s 0)
theorem its_end {f : Nat} {s : ByteArray} {a : Nat} (h : ¬ a < s.size) : its f s a = [] := by
  cases f with
  | zero => rfl
  | succ f => rw [its, if_neg h]
theorem rest_long (s : ByteArray) (a : Nat) (h : a < s.size) (he : (tok (s.extract a s.size)).e = 0) : 1 <= (tok (s.extract a s.size)).long /\ a + (tok (s.extract a s.size)).long <= s.size := by
  have hsz : (s.extract a s.size).size = s.size - a := by rw [size_extract]; omega
  have := tok_long (s.extract a s.size) (by omega) he
  omega
theorem its_ok {f : Nat} {s : ByteArray} {a : Nat} (h : a < s.size) (hf : s.size < a + f) (he : (tok (s.extract a s.size)).e = 0) :
    ∃ g, s.size < nx s (a + (tok (s.extract a s.size)).long) + g /\ its f s a = (tok (s.extract a s.size), a) :: its g s (nx s (a + (tok (s.extract a s.size)).long)) := by
  obtain ⟨g, rfl⟩ : ∃ g, f = g + 1 := ⟨f - 1, by omega⟩
  have := rest_long s a h he
  have := nx_ge s (a + (tok (s.extract a s.size)).long)
  exact ⟨g, by omega, by rw [its, if_pos h, if_pos he]⟩
theorem its_bad {f : Nat} {s : ByteArray} {a : Nat} (h : a < s.size) (hf : s.size < a + f) (he : (tok (s.extract a s.size)).e ≠ 0) : its f s a = [(tok (s.extract a s.size), a)] := by
  obtain ⟨g, rfl⟩ : ∃ g, f = g + 1 := ⟨f - 1, by omega⟩
  rw [its, if_pos h, if_neg he]
theorem its_len : ∀ (f : Nat) (s : ByteArray) (a : Nat), (its f s a).length <= s.size - a
  | 0, _, _ => by simp [its]
  | f + 1, s, a => by
    rw [its]
    split
    · rename_i h
      split
      · rename_i he
        have h1 := rest_long s a h he
        have h2 := nx_ge s (a + (tok (s.extract a s.size)).long)
        have := its_len f s (nx s (a + (tok (s.extract a s.size)).long))
        rw [List.length_cons]; omega
      · simp; omega
    · simp
theorem items_len (s : ByteArray) : (items s).length <= s.size := Nat.le_trans (its_len _ _ _) (by omega)
def isBad (x : Item) : Bool := decide (x.1.e ≠ 0)
def wrong (s : ByteArray) : Option Item := (items s).find? isBad
def toks (s : ByteArray) : List Item := match wrong s with | none => items s | some _ => []
def place (s : ByteArray) : Int := match wrong s with | none => s.size | some x => x.2
def err (s : ByteArray) : Int := match wrong s with | none => 0 | some x => x.1.e
theorem no_wrong {s : ByteArray} {l : List Item} (h : l = items s) (hg : ∀ x ∈ l, x.1.e = 0) : toks s = l /\ place s = s.size /\ err s = 0 := by
  have e : wrong s = none := by
    rw [wrong, <- h, List.find?_eq_none]
    intro x hx; simp [isBad, hg x hx]
  rw [toks, place, err, e]; exact ⟨h.symm, rfl, rfl⟩
theorem is_wrong {s : ByteArray} {pre : List Item} {x : Item} {post : List Item} (h : items s = pre ++ x :: post) (hg : ∀ y ∈ pre, y.1.e = 0) (hx : x.1.e ≠ 0) : toks s = [] /\ place s = x.2 /\ err s = x.1.e := by
  have e : wrong s = some x := by
    rw [wrong, h, List.find?_append, List.find?_eq_none.2 (fun y hy => by simp [isBad, hg y hy])]
    simp [isBad, hx]
  rw [toks, place, err, e]; exact ⟨rfl, rfl, rfl⟩
theorem toks_len (s : ByteArray) : (toks s).length <= s.size := by
  rw [toks]; split
  · exact items_len s
  · simp
def cellsOf1 (x : Item) : List Value := [.int .i64 x.1.k, .string x.1.t, .int .i64 x.1.n, .int .i64 (x.2 : Int)]
def cellsL (l : List Item) : List Value := l.flatMap cellsOf1
theorem cells_snoc (l : List Item) (x : Item) : cellsL (l ++ [x]) = cellsL l ++ cellsOf1 x := by simp [cellsL]
theorem cells_len : ∀ l : List Item, (cellsL l).length = l.length * 4
  | [] => rfl
  | x :: r => by
    have := cells_len r
    have e : cellsL (x :: r) = cellsOf1 x ++ cellsL r := by simp [cellsL]
    rw [e, List.length_append, this, List.length_cons]; simp [cellsOf1]; omega
theorem cells_at : ∀ (l : List Item) (j : Nat) (x : Item), l[j]? = some x -> (cellsL l)[j * 4]? = some (.int .i64 x.1.k) /\ (cellsL l)[j * 4 + 1]? = some (.string x.1.t) /\ (cellsL l)[j * 4 + 2]? = some (.int .i64 x.1.n) /\ (cellsL l)[j * 4 + 3]? = some (.int .i64 (x.2 : Int))
  | [], _, _, h => by simp at h
  | y :: r, 0, x, h => by
    simp at h; subst h
    have e : cellsL (y :: r) = cellsOf1 y ++ cellsL r := by simp [cellsL]
    rw [e]; simp [cellsOf1]
  | y :: r, j + 1, x, h => by
    have ih := cells_at r j x (by simpa using h)
    have e : cellsL (y :: r) = cellsOf1 y ++ cellsL r := by simp [cellsL]
    have hl : (cellsOf1 y).length = 4 := rfl
    rw [e]
    refine ⟨?_, ?_, ?_, ?_⟩
    · rw [List.getElem?_append_right (by omega), hl, show (j + 1) * 4 - 4 = j * 4 by omega]; exact ih.1
    · rw [List.getElem?_append_right (by omega), hl, show (j + 1) * 4 + 1 - 4 = j * 4 + 1 by omega]; exact ih.2.1
    · rw [List.getElem?_append_right (by omega), hl, show (j + 1) * 4 + 2 - 4 = j * 4 + 2 by omega]; exact ih.2.2.1
    · rw [List.getElem?_append_right (by omega), hl, show (j + 1) * 4 + 3 - 4 = j * 4 + 3 by omega]; exact ih.2.2.2
theorem tok_text (s : ByteArray) : (tok s).t.size <= s.size + 200 := by
  unfold tok
  split
  · unfold wordR
    have h : (s.extract 0 (M.wl s)).size <= s.size := by rw [size_extract]; omega
    split
    · show (s.extract 0 (M.wl s)).size <= _; omega
    · split
      · exact Nat.zero_le _
      · split <;> (show (s.extract 0 (M.wl s)).size <= _; omega)
  · split
    · unfold varR
      split
      · exact Nat.zero_le _
      · split
        · exact Nat.zero_le _
        · show (s.extract 1 _).size <= _
          rw [size_extract]; omega
    · split
      · unfold numR
        split <;> exact Nat.zero_le _
      · split
        · unfold strR
          split
          · show (ByteArray.mk (Q.tT _).toArray).size <= _
            have : (Q.tT (Q.tq s.data.toList)).length <= 200 := by
              unfold Q.tT
              split
              · simp
              · split
                · simp
                · omega
            show (Q.tT (Q.tq s.data.toList)).toArray.size <= _
            rw [List.size_toArray]; omega
          · exact Nat.zero_le _
        · unfold signR
          split
          · exact Nat.zero_le _
          · show (s.extract 0 _).size <= _
            rw [size_extract]; omega
theorem its_facts : ∀ (f : Nat) (s : ByteArray) (a : Nat) (x : Item), x ∈ its f s a -> x.1.t.size <= s.size + 200 /\ x.2 < s.size
  | 0, _, _, x, h => by simp [its] at h
  | f + 1, s, a, x, h => by
    rw [its] at h
    have ht : (tok (s.extract a s.size)).t.size <= s.size + 200 := by
      have := tok_text (s.extract a s.size)
      rw [size_extract] at this; omega
    split at h
    · rename_i ha
      split at h
      · rcases List.mem_cons.1 h with rfl | h
        · exact ⟨ht, ha⟩
        · exact its_facts f s _ x h
      · rw [List.mem_singleton] at h; subst h; exact ⟨ht, ha⟩
    · simp at h
theorem toks_facts (s : ByteArray) (x : Item) (h : x ∈ toks s) : x.1.t.size <= s.size + 200 /\ x.2 < s.size := by
  unfold toks at h
  split at h
  · exact its_facts _ _ _ _ h
  · simp at h
end Go.Proofs.YtjakeidbajkdcaaGreatDoor.L
