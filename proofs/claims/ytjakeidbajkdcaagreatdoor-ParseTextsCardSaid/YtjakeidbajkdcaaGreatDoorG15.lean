/- Joined by program. -/
import Derived.Test.YtjakeidbajkdcaaGreatDoorG13
import Derived.Test.YtjakeidbajkdcaaGreatDoorG14
namespace Go.Proofs.YtjakeidbajkdcaaGreatDoor.T
open Go.RowKit Go.Shelf
theorem zfa {B : Nat} {w w1 w2 : World} (h : Below B w w1) (k : Below w1.heap.size w1 w2) (hB : B <= w.heap.size) : Below B w w2 := h.trans (k.mono (ltr hB h.size))
theorem zdn {W W' : World} {b : Nat} {x : Obj} (h : W.heap[b]? = some x) (k : Below W.heap.size W W') : W'.heap[b]? = some x := (k.block b (age.1 h).1).trans h
end Go.Proofs.YtjakeidbajkdcaaGreatDoor.T
