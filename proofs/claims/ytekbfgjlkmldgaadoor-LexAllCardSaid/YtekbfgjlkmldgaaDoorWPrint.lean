/- Print: a number's digits, with ~ ahead if it is below 0; and the chapter's examples. -/
import Derived.Test.YtekbfgjlkmldgaaDoorWFmt
import Derived.Test.YtekbfgjlkmldgaaDoorWPrims
import Derived.Lib.Strings
import Derived.WalkSpells
namespace Go.Proofs.YtekbfgjlkmldgaaDoor.W
open Go.RowKit
/-- The text of a number. -/
def wtext (n : Int) : List UInt8 := if n < 0 then 126 :: Lib.decDigits n.natAbs else Lib.decDigits n.natAbs
theorem print_pos {B : Nat} (n : Int) (h0 : ¬ n < 0) (h1 : n ≤ 9223372036854775807) (w : World) (hp : Pow B w) (hB : B ≤ w.heap.size) :
    Calls Tryd.prog 56 #[.int .i64 n] w fun e w' => e = .returned (.string ⟨(wtext n).toArray⟩) ∧ Below B w w' := by
  have e : wtext n = Lib.itoa n := by
    obtain ⟨u, rfl⟩ : ∃ u : Nat, n = u := ⟨n.toNat, by omega⟩
    rw [Lib.itoa_nonneg, wtext, if_neg h0]; rfl
  rw [e]; clear e
  have hc := fmt_any n (by omega) h1 w hp hB
  go_enter Tryd.func56, Tryd.ntmps56
  go_wp2_with (go_at_call 62; refine hc.mono ?_; rintro e w' ⟨rfl, hb⟩)
  go_ret
  exact ⟨rfl, hb⟩
theorem decDigits_le (u : Nat) (hu : u < 18446744073709551616) : 1 ≤ (Lib.decDigits u).length ∧ (Lib.decDigits u).length ≤ 20 := by
  rw [Lib.decDigits_length]
  have h := Lib.nDigits_pos u
  refine ⟨h, ?_⟩
  by_cases h0 : u = 0
  · subst h0; rw [Lib.nDigits_small (by omega)]; omega
  · have := Lib.numDigits_eq u (by omega) hu
    split at this <;> omega
theorem ret_str {s t : ByteArray} (h : s = t) : Ending.returned (.string s) = Ending.returned (.string t) := by rw [h]
theorem tilde_cut (l : List UInt8) (c : UInt8) : ((⟨#[126]⟩ : ByteArray) ++ (⟨(c :: l).toArray⟩ : ByteArray).extract 1 (l.length + 1)) = ⟨(126 :: l).toArray⟩ := by
  apply ByteArray.ext
  rw [ByteArray.data_append, ByteArray.data_extract]
  apply Array.toList_inj.1
  simp
theorem print_neg {B : Nat} (n : Int) (h0 : n < 0) (h1 : -9223372036854775808 ≤ n) (w : World) (hp : Pow B w) (hB : B ≤ w.heap.size) :
    Calls Tryd.prog 56 #[.int .i64 n] w fun e w' => e = .returned (.string ⟨(wtext n).toArray⟩) ∧ Below B w w' := by
  have e : Lib.itoa n = 45 :: Lib.decDigits n.natAbs := by
    obtain ⟨u, rfl⟩ : ∃ u : Nat, n = -(u : Int) := ⟨n.natAbs, by omega⟩
    rw [Lib.itoa_neg _ (by omega)]; simp
  have hc := fmt_any n h1 (by omega) w hp hB
  rw [e] at hc; clear e
  have hl := decDigits_le n.natAbs (by omega)
  obtain ⟨hl0, hl1⟩ := hl
  go_enter Tryd.func56, Tryd.ntmps56
  go_wp2_with (go_at_call 62; refine hc.mono ?_; rintro e w' ⟨rfl, hb⟩)
  go_ret
  exact ⟨ret_str (by rw [wtext, if_pos h0]; exact tilde_cut _ _), hb⟩
theorem print_any {B : Nat} (n : Int) (h0 : -9223372036854775808 ≤ n) (h1 : n ≤ 9223372036854775807) (w : World) (hp : Pow B w) (hB : B ≤ w.heap.size) :
    Calls Tryd.prog 56 #[.int .i64 n] w fun e w' => e = .returned (.string ⟨(wtext n).toArray⟩) ∧ Below B w w' := by
  by_cases h : n < 0
  · exact print_neg n h h0 w hp hB
  · exact print_pos n h h1 w hp hB
theorem wtext12 : wtext (-12) = [126, 49, 50] := by
  rw [wtext, if_pos (by omega), show (-12 : Int).natAbs = 12 by decide, Lib.decDigits_two (by omega) (by omega)]; rfl
theorem print12 {B : Nat} (w : World) (hp : Pow B w) (hB : B ≤ w.heap.size) :
    Calls Tryd.prog 56 #[.int .i64 (-12)] w fun e w' => e = .returned (.string ⟨#[126, 49, 50]⟩) ∧ Below B w w' := by
  have h := print_any (-12) (by omega) (by omega) w hp hB
  rw [wtext12] at h
  exact h
theorem mul_ends : wrap64 (4611686018427387904 * 4) = 0 := by simp only [wrap64]; omega
theorem mul_far (w : World) :
    Calls Tryd.prog 55 #[.int .i64 4611686018427387904, .int .i64 4] w fun e w' => e = .returned (.int .i64 0) ∧ w = w' := by
  have h := mul_any 4611686018427387904 4 w
  rw [mul_ends] at h
  exact h
end Go.Proofs.YtekbfgjlkmldgaaDoor.W
