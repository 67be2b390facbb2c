/- The program's own writing: of every byte, and of every text of at most 10000 bytes, it returns the writing; what lay below is as it was. -/
import Derived.Test.YtekbfgjlkmldgaaDoorQBase
import Derived.Test.YtekbfgjlkmldgaaDoorQMath
namespace Go.Proofs.YtekbfgjlkmldgaaDoor.Q
open Go.RowKit
theorem sb_any (c : UInt8) (w : World) : Calls Tryd.prog 63 #[.int .u8 (c.toNat : Int)] w fun e w' => e = .returned (.bool (decide (bare c))) ∧ w = w' := by
  by_cases h : bare c
  · obtain ⟨h1, h2, h3, h4⟩ := h
    have H : Hid (decide (bare c) = true) := decide_eq_true ⟨h1, h2, h3, h4⟩
    have h3' : ((c.toNat : Int) != 34) = true := by rw [bne_iff_ne]; omega
    have h4' : ((c.toNat : Int) != 92) = true := by rw [bne_iff_ne]; omega
    have h1' : (32 : Int) ≤ c.toNat := by omega
    have h2' : (c.toNat : Int) ≤ 126 := by omega
    clear h1 h2 h3 h4
    go_enter Tryd.func63, Tryd.ntmps63
    go_wp2
    go_ret
    exact ⟨by rw [H.out]; rfl, rfl⟩
  · have H : Hid (decide (bare c) = false) := decide_eq_false h
    by_cases h1 : 32 ≤ c.toNat
    · by_cases h2 : c.toNat ≤ 126
      · have h1' : (32 : Int) ≤ c.toNat := by omega
        have h2' : (c.toNat : Int) ≤ 126 := by omega
        by_cases h3 : c.toNat = 34
        · have h3' : ((c.toNat : Int) != 34) = false := by simp [h3]
          clear h3 h
          go_enter Tryd.func63, Tryd.ntmps63
          go_wp2
          go_ret
          exact ⟨by rw [H.out]; rfl, rfl⟩
        · have h3' : ((c.toNat : Int) != 34) = true := by rw [bne_iff_ne]; omega
          have h4 : c.toNat = 92 := Decidable.byContradiction fun h4 => h ⟨h1, h2, h3, h4⟩
          have h4' : ((c.toNat : Int) != 92) = false := by simp [h4]
          clear h3 h4 h
          go_enter Tryd.func63, Tryd.ntmps63
          go_wp2
          go_ret
          exact ⟨by rw [H.out]; rfl, rfl⟩
      · have h1' : (32 : Int) ≤ c.toNat := by omega
        have h2' : ¬ (c.toNat : Int) ≤ 126 := by omega
        clear h
        go_enter Tryd.func63, Tryd.ntmps63
        go_wp2
        go_ret
        exact ⟨by rw [H.out]; rfl, rfl⟩
    · have h1' : ¬ (32 : Int) ≤ c.toNat := by omega
      clear h
      go_enter Tryd.func63, Tryd.ntmps63
      go_wp2
      go_ret
      exact ⟨by rw [H.out]; rfl, rfl⟩
theorem sb_yes {c : UInt8} (h : Hid (bare c)) (w : World) : Calls Tryd.prog 63 #[.int .u8 (c.toNat : Int)] w fun e w' => e = .returned (.bool true) ∧ w = w' := by
  have := sb_any c w
  rwa [decide_eq_true h.out] at this
theorem sb_no {c : UInt8} (h : Hid (¬ bare c)) (w : World) : Calls Tryd.prog 63 #[.int .u8 (c.toNat : Int)] w fun e w' => e = .returned (.bool false) ∧ w = w' := by
  have := sb_any c w
  rwa [decide_eq_false h.out] at this
/-- What a call that writes leaves: the row, longer by the writing. -/
def WrPost (B : Nat) (l : List UInt8) (w : World) (e : Ending) (w' : World) : Prop := ∃ v, e = .returned v ∧ Row B w' v l ∧ Below B w w'
theorem eqb {c : UInt8} {n : Nat} (h : c.toNat = n) : ((c.toNat : Int) == (n : Int)) = true := by simp [h]
theorem neb {c : UInt8} {n : Nat} (h : ¬ c.toNat = n) : ((c.toNat : Int) == (n : Int)) = false := by rw [beq_eq_false_iff_ne]; omega
section
variable {B : Nat} {v : Value} {l : List UInt8} (w : World)
variable (c : UInt8)
abbrev digs : ByteArray := { data := #[48, 49, 50, 51, 52, 53, 54, 55, 56, 57, 97, 98, 99, 100, 101, 102] }
theorem idx_hex (k : IntKind) (hk : k = .u8 ∨ k = .i64) : ∀ (n : Nat) (_ : n < 16) (W : World), (Instr.index 9 (.string digs) (.int k (n : Int))).run Tryd.prog W = .ok (.int .u8 ((hexd n).toNat : Int)) W := by
  rcases hk with rfl | rfl
  · intro n hn W
    match n, hn with
    | 0, _ => rfl
    | 1, _ => rfl
    | 2, _ => rfl
    | 3, _ => rfl
    | 4, _ => rfl
    | 5, _ => rfl
    | 6, _ => rfl
    | 7, _ => rfl
    | 8, _ => rfl
    | 9, _ => rfl
    | 10, _ => rfl
    | 11, _ => rfl
    | 12, _ => rfl
    | 13, _ => rfl
    | 14, _ => rfl
    | 15, _ => rfl
    | n + 16, h => omega
  · intro n hn W
    match n, hn with
    | 0, _ => rfl
    | 1, _ => rfl
    | 2, _ => rfl
    | 3, _ => rfl
    | 4, _ => rfl
    | 5, _ => rfl
    | 6, _ => rfl
    | 7, _ => rfl
    | 8, _ => rfl
    | 9, _ => rfl
    | 10, _ => rfl
    | 11, _ => rfl
    | 12, _ => rfl
    | 13, _ => rfl
    | 14, _ => rfl
    | 15, _ => rfl
    | n + 16, h => omega
theorem and15 : ∀ n : Nat, n < 256 → bits .and .u8 (n : Int) 15 = ((n % 16 : Nat) : Int) := by decide +kernel
end
theorem wr_take (s : ByteArray) (k : Nat) (h : k < s.size) : 34 :: wrt (s.data.toList.take (k + 1)) = (34 :: wrt (s.data.toList.take k)) ++ wr1 s[k] := by
  rw [take_snoc s k h, wr_snoc]; rfl
/-- The row behind k bytes. -/
def Wrote (B : Nat) (s : ByteArray) (k : Nat) (w : World) (v : Value) : Prop := Row B w v (34 :: wrt (s.data.toList.take k))
end Go.Proofs.YtekbfgjlkmldgaaDoor.Q
