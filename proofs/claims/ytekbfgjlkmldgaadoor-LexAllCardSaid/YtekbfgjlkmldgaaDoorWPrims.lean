/- The contracts of the calls on whole numbers of package wrap and of the document's answer: each returns the number that it should, and the world is as it was. -/
import Derived.Test.YtekbfgjlkmldgaaDoorRows
import Derived.WalkKit
import Derived.ProofKit
import Derived.OpenShut
import Derived.Outline
namespace Go.Proofs.YtekbfgjlkmldgaaDoor.W
open Go.RowKit

theorem add_any (a b : Int) (w : World) :
    Calls Tryd.prog 54 #[.int .i64 a, .int .i64 b] w fun e w' => e = .returned (.int .i64 (wrap64 (a + b))) ∧ w = w' := by
  go_enter Tryd.func54, Tryd.ntmps54
  go_wp2
  go_ret
  exact ⟨rfl, rfl⟩
theorem mul_any (a b : Int) (w : World) :
    Calls Tryd.prog 55 #[.int .i64 a, .int .i64 b] w fun e w' => e = .returned (.int .i64 (wrap64 (a * b))) ∧ w = w' := by
  go_enter Tryd.func55, Tryd.ntmps55
  go_wp2
  go_ret
  exact ⟨rfl, rfl⟩
/-! The document's answer, primitive by primitive. -/
theorem ret2_int {k : IntKind} {a b : Int} {v : Value} (h : a = b) : Ending.returned (.tuple #[.int k a, v]) = Ending.returned (.tuple #[.int k b, v]) := by rw [h]
theorem u_id (x : Int) : wrap64 (IntKind.u64.wrap x) = wrap64 x := by
  simp only [wrap64, IntKind.wrap_u64]; omega
theorem u_neg (x : Int) : wrap64 (IntKind.u64.wrap (-IntKind.u64.wrap (-x))) = wrap64 x := by
  simp only [wrap64, IntKind.wrap_u64]; omega
theorem u_pos (a b : Int) (h : 0 ≤ a) : wrap64 (a / b) = wrap64 (a.tdiv b) := by
  rw [Int.tdiv_eq_ediv_of_nonneg h]
theorem u_add (a b : Int) : wrap64 (IntKind.u64.wrap (IntKind.u64.wrap a + IntKind.u64.wrap b)) = wrap64 (a + b) := by
  simp only [wrap64, IntKind.wrap_u64]; omega
theorem u_sub (a b : Int) : wrap64 (IntKind.u64.wrap (IntKind.u64.wrap a - IntKind.u64.wrap b)) = wrap64 (a - b) := by
  simp only [wrap64, IntKind.wrap_u64]; omega
theorem u_any (a b : Int) (h : a % 18446744073709551616 = b % 18446744073709551616) : wrap64 (IntKind.u64.wrap a) = wrap64 b := by
  simp only [wrap64, IntKind.wrap_u64]; omega
theorem u_mul (a b : Int) : wrap64 (IntKind.u64.wrap (IntKind.u64.wrap a * IntKind.u64.wrap b)) = wrap64 (a * b) := by
  refine u_any _ _ ?_
  rw [IntKind.wrap_u64, IntKind.wrap_u64, ← Int.mul_emod]
end Go.Proofs.YtekbfgjlkmldgaaDoor.W
