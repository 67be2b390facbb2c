/- Joined by program. -/
import Derived.Test.YtjakeidbajkdcaaGreatDoorG28
namespace Go.Proofs.YtjakeidbajkdcaaGreatDoor.L
theorem zto (s : ByteArray) : (tok s).t.size <= s.size + 200 := by
 unfold tok
 split
 ·unfold wordR
  have h : (s.extract 0 (M.wl s)).size <= s.size := by rw [size_extract]; omega
  split
  ·show (s.extract 0 (M.wl s)).size <= _; omega
  ·split
   ·exact Nat.zero_le _
   ·split <;> (show (s.extract 0 (M.wl s)).size <= _; omega)
 ·split
  ·unfold varR
   split
   ·exact Nat.zero_le _
   ·split
    ·exact Nat.zero_le _
    ·show (s.extract 1 _).size <= _
     rw [size_extract]; omega
  ·split
   ·unfold numR
    split <;> exact Nat.zero_le _
   ·split
    ·unfold strR
     split
     ·show (ByteArray.mk (Q.tT _).toArray).size <= _
      have : (Q.tT (Q.tq s.data.toList)).length <= 200 := by
       unfold Q.tT
       split
       ·simp
       ·split
        ·simp
        ·omega
      show (Q.tT (Q.tq s.data.toList)).toArray.size <= _
      rw [List.size_toArray]; omega
     ·exact Nat.zero_le _
    ·unfold signR
     split
     ·exact Nat.zero_le _
     ·show (s.extract 0 _).size <= _
      rw [size_extract]; omega
theorem zir : ∀ (f : Nat) (s : ByteArray) (a : Nat) (x : Item), x ∈ its f s a -> x.1.t.size <= s.size + 200 /\ x.2 < s.size
 | 0, _, _, x, h => by simp [its] at h
 | f + 1, s, a, x, h => by
  rw [its] at h
  have ht : (tok (s.extract a s.size)).t.size <= s.size + 200 := by
   have := zto (s.extract a s.size)
   rw [size_extract] at this; omega
  split at h
  ·rename_i ha
   split at h
   ·rcases List.mem_cons.1 h with rfl | h
    ·exact ⟨ht, ha⟩
    ·exact zir f s _ x h
   ·rw [List.mem_singleton] at h; subst h; exact ⟨ht, ha⟩
  ·simp at h
theorem zg2 (s : ByteArray) (x : Item) (h : x ∈ toks s) : x.1.t.size <= s.size + 200 /\ x.2 < s.size := by
 unfold toks at h
 split at h
 ·exact zir _ _ _ _ h
 ·simp at h
end Go.Proofs.YtjakeidbajkdcaaGreatDoor.L
