/- Joined by program. -/
import Derived.Test.YtjakeidbajkdcaaGreatDoorG10
import Derived.RangeFuncNested
import Derived.RangeFuncBound
import Derived.RangeFuncCalls
import Derived.RangeFuncLeaves
import Derived.Shelf.Abstract
import Derived.Shelf.RegionOpen
import Derived.WalkKit
import Derived.OwnWalkIn
import Derived.TacticsInMore
import Derived.LoopNIn
import Derived.LoopIn
namespace Go.Proofs.YtjakeidbajkdcaaGreatDoor.T
open Go.RowKit Go.Shelf
attribute [local go_sem] Oper.semAt_some
def Kq (n0 bs bn : Nat) (A C : World) : Prop := Below n0 A C /\ ∀ (b : Nat) (cs : Array Value) (t : TypeId) (fr : Nat × Nat), b ≠ bs -> b ≠ bn -> t ≠ 37 -> A.heap[b]? = some (.cells cs t fr) -> C.heap[b]? = some (.cells cs t fr)
theorem Kq.refl (n0 bs bn : Nat) (A : World) : Kq n0 bs bn A A := ⟨br _ _, fun _ _ _ _ _ _ _ h => h⟩
theorem Kq.trans {n0 bs bn : Nat} {X Y Z : World} (h : Kq n0 bs bn X Y) (k : Kq n0 bs bn Y Z) : Kq n0 bs bn X Z := ⟨h.1.trans k.1, fun b cs t fr h1 h2 h3 h4 => k.2 b cs t fr h1 h2 h3 (h.2 b cs t fr h1 h2 h3 h4)⟩
def fin (L : Nat) (ms : List Nat) : List (Fin L) := ms.filterMap fun m => if h : m < L then some ⟨m, h⟩ else none
end Go.Proofs.YtjakeidbajkdcaaGreatDoor.T
