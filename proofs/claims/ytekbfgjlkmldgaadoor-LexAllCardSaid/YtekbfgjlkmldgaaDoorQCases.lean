/- What is read at a place of a text, case by case: plain mathematics. -/
import Derived.Test.YtekbfgjlkmldgaaDoorQPrint
namespace Go.Proofs.YtekbfgjlkmldgaaDoor.Q
open Go.RowKit
section
variable (s : ByteArray) (n : Nat)
/-- At the place n, k bytes (0: none) are the byte b's writing. -/
def At (k : Nat) (b : UInt8) : Prop := rk (s.data.toList.drop n) = k ∧ rb (s.data.toList.drop n) = b
theorem at_bare (h : n < s.size) (hb : bare s[n]) : At s n 1 s[n] := by
  unfold At; rw [drop_at s n h]; simp [rk, rb, hb]
theorem at_no (h : n < s.size) (hb : ¬ bare s[n]) (h92 : ¬ s[n].toNat = 92) : At s n 0 0 := by
  unfold At; rw [drop_at s n h]; simp [rk, rb, hb, h92]
theorem no92 {c : UInt8} (h92 : c.toNat = 92) : ¬ bare c := fun h => h.2.2.2 h92
theorem at_short (h : n < s.size) (h92 : s[n].toNat = 92) (h1 : ¬ n + 1 < s.size) : At s n 0 0 := by
  have hb := no92 h92
  have e1 : s.data.toList.drop (n + 1) = [] := List.drop_of_length_le (by rw [size_len]; omega)
  unfold At; rw [drop_at s n h, e1]; simp [rk, rb, hb, h92]
theorem at_same (h : n < s.size) (h92 : s[n].toNat = 92) (h1 : n + 1 < s.size) (hd : s[n + 1].toNat = 34 ∨ s[n + 1].toNat = 92) : At s n 2 s[n + 1] := by
  have hb := no92 h92
  unfold At; rw [drop_at s n h, drop_at s (n + 1) h1]
  rcases hd with hd | hd <;> simp [rk, rb, hb, h92, hd]
theorem at_line (h : n < s.size) (h92 : s[n].toNat = 92) (h1 : n + 1 < s.size) (hd : s[n + 1].toNat = 110) : At s n 2 10 := by
  have hb := no92 h92
  unfold At; rw [drop_at s n h, drop_at s (n + 1) h1]; simp [rk, rb, hb, h92, hd]
theorem at_tab (h : n < s.size) (h92 : s[n].toNat = 92) (h1 : n + 1 < s.size) (hd : s[n + 1].toNat = 116) : At s n 2 9 := by
  have hb := no92 h92
  unfold At; rw [drop_at s n h, drop_at s (n + 1) h1]; simp [rk, rb, hb, h92, hd]
theorem at_none (h : n < s.size) (h92 : s[n].toNat = 92) (h1 : n + 1 < s.size) (a34 : ¬ s[n + 1].toNat = 34) (a92 : ¬ s[n + 1].toNat = 92) (a110 : ¬ s[n + 1].toNat = 110) (a116 : ¬ s[n + 1].toNat = 116) (a120 : ¬ s[n + 1].toNat = 120) : At s n 0 0 := by
  have hb := no92 h92
  unfold At; rw [drop_at s n h, drop_at s (n + 1) h1]; simp [rk, rb, hb, h92, a34, a92, a110, a116, a120]
theorem at_xshort (h : n < s.size) (h92 : s[n].toNat = 92) (h1 : n + 1 < s.size) (a120 : s[n + 1].toNat = 120) (h3 : ¬ n + 3 < s.size) : At s n 0 0 := by
  have hb := no92 h92
  have hl : (s.data.toList.drop (n + 1 + 1)).length ≤ 1 := by rw [List.length_drop, size_len]; omega
  unfold At; rw [drop_at s n h, drop_at s (n + 1) h1]
  rcases hq : s.data.toList.drop (n + 1 + 1) with _ | ⟨a, _ | ⟨b, r⟩⟩
  · simp [rk, rb, hb, h92, a120]
  · simp [rk, rb, hb, h92, a120]
  · rw [hq] at hl; simp at hl
theorem at_bad1 (h : n < s.size) (h92 : s[n].toNat = 92) (h1 : n + 1 < s.size) (a120 : s[n + 1].toNat = 120) (h2 : n + 2 < s.size) (h3 : n + 3 < s.size) (x : ¬ (0 : Int) ≤ hx s[n + 2]) : At s n 0 0 := by
  have hb := no92 h92
  unfold At; rw [drop_at s n h, drop_at s (n + 1) h1, drop_at s (n + 2) h2, drop_at s (n + 3) h3]; simp [rk, rb, hb, h92, a120, x]
theorem at_bad2 (h : n < s.size) (h92 : s[n].toNat = 92) (h1 : n + 1 < s.size) (a120 : s[n + 1].toNat = 120) (h2 : n + 2 < s.size) (h3 : n + 3 < s.size) (x : ¬ (0 : Int) ≤ hx s[n + 3]) : At s n 0 0 := by
  have hb := no92 h92
  unfold At; rw [drop_at s n h, drop_at s (n + 1) h1, drop_at s (n + 2) h2, drop_at s (n + 3) h3]; simp [rk, rb, hb, h92, a120, x]
theorem at_good (h : n < s.size) (h92 : s[n].toNat = 92) (h1 : n + 1 < s.size) (a120 : s[n + 1].toNat = 120) (h2 : n + 2 < s.size) (h3 : n + 3 < s.size) (x : (0 : Int) ≤ hx s[n + 2]) (y : (0 : Int) ≤ hx s[n + 3]) :
    At s n 4 (UInt8.ofNat ((hx s[n + 2]).toNat * 16 + (hx s[n + 3]).toNat)) := by
  have hb := no92 h92
  unfold At; rw [drop_at s n h, drop_at s (n + 1) h1, drop_at s (n + 2) h2, drop_at s (n + 3) h3]; simp [rk, rb, hb, h92, a120, x, y]
variable {s n} {o : Option (List UInt8 × Nat)} {acc : List UInt8}
/-- The state of a reading: the next byte that is read stands at n. -/
def Going (s : ByteArray) (o : Option (List UInt8 × Nat)) (n : Nat) (acc : List UInt8) : Prop := tkAt s.data.toList n acc = o
theorem Going.end_ (h : Going s o n acc) (hn : s.size ≤ n) : o = none := by rw [← show tkAt s.data.toList n acc = o from h]; exact at_end (by rw [size_len]; exact hn)
theorem Going.quote (h : Going s o n acc) (hn : n < s.size) (h34 : s[n].toNat = 34) : o = some (acc, n + 1) := by rw [← show tkAt s.data.toList n acc = o from h]; exact at_quote (drop_at s n hn) h34
theorem Going.bad (h : Going s o n acc) (hn : n < s.size) (h34 : ¬ s[n].toNat = 34) {b : UInt8} (ha : At s n 0 b) : o = none := by rw [← show tkAt s.data.toList n acc = o from h]; exact at_bad (drop_at s n hn) h34 ha.1
theorem Going.step (h : Going s o n acc) (hn : n < s.size) (h34 : ¬ s[n].toNat = 34) {k : Nat} {b : UInt8} (ha : At s n k b) (hk : k ≠ 0) : Going s o (n + k) (acc ++ [b]) := by
  have h1 := at_step (acc := acc) (drop_at s n hn) h34 (by rw [ha.1]; exact hk)
  rw [ha.1, ha.2] at h1
  unfold Going
  rw [← h1]; exact h
end
end Go.Proofs.YtekbfgjlkmldgaaDoor.Q
