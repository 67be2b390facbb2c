/- Joined by program: PWorks. -/
import Derived.Test.YtjakeidbajkdcaaGreatDoorG13
import Derived.Test.YtjakeidbajkdcaaGreatDoorG14
/- The law's example: works. -/
namespace Go.Proofs.YtjakeidbajkdcaaGreatDoor.T
open Go.RowKit Go.Shelf
theorem below_next {B : Nat} {w w1 w2 : World} (h : Below B w w1) (k : Below w1.heap.size w1 w2) (hB : B ≤ w.heap.size) : Below B w w2 := h.trans (k.mono (Nat.le_trans hB h.size))
theorem blk_next {W W' : World} {b : Nat} {x : Obj} (h : W.heap[b]? = some x) (k : Below W.heap.size W W') : W'.heap[b]? = some x := (k.block b (Array.getElem?_eq_some_iff.1 h).1).trans h
end Go.Proofs.YtjakeidbajkdcaaGreatDoor.T
