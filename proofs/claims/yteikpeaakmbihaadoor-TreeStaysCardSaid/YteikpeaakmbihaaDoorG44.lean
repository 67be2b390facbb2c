/- Joined by program: RAmong. -/
import Derived.Test.YteikpeaakmbihaaDoorG00
import Derived.IntWalk
/- Among: a place of so many. -/
namespace Go.Proofs.YteikpeaakmbihaaDoor.T
open Go.RowKit
set_option maxRecDepth 100000 in
set_option maxHeartbeats 2000000 in
theorem among_any (i : Int) (n : Nat) (h1 : 1 ≤ n) (h6 : n ≤ 600) (w : World) : Calls Tryd.prog 29 #[.int .i64 i, .int .i64 (n : Int)] w fun e w' => (∃ r : Nat, e = .returned (.int .i64 (r : Int)) ∧ r < n) ∧ w = w' := by
  have hn : decide ((n : Int) < 1) = false := by simp; omega
  go_enter Tryd.func29, Tryd.ntmps29
  go_wp2
  have hu : 0 ≤ IntKind.u64.wrap i := by
    simp only [IntKind.wrap]
    have hb : (2 : Int) ^ IntKind.u64.bits = 18446744073709551616 := by decide
    rw [hb]
    split
    · rename_i h
      exact absurd h (by simp [IntKind.signed])
    · omega
  have e1 : (IntKind.u64.wrap i).tmod (n : Int) = IntKind.u64.wrap i % (n : Int) := Int.tmod_eq_emod_of_nonneg hu
  have b1 := Int.emod_nonneg (IntKind.u64.wrap i) (show (n : Int) ≠ 0 by omega)
  have b2 := Int.emod_lt_of_pos (IntKind.u64.wrap i) (show (0 : Int) < (n : Int) by omega)
  have e2 : wrap64 ((IntKind.u64.wrap i).tmod (n : Int)) = (((IntKind.u64.wrap i % (n : Int)).toNat : Nat) : Int) := by
    rw [e1]
    rw [IntWalk.wrap64_in _ (by omega)]
    omega
  go_ret
  exact ⟨⟨(IntKind.u64.wrap i % (n : Int)).toNat, by rw [e2]; rfl, by omega⟩, rfl⟩
end Go.Proofs.YteikpeaakmbihaaDoor.T
