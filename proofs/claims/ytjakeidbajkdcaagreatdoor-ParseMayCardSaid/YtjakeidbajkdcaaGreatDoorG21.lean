/- Joined by program: RWith. -/
import Derived.Test.YtjakeidbajkdcaaGreatDoorG01
import Derived.Test.YtjakeidbajkdcaaGreatDoorG02
import Derived.Test.YtjakeidbajkdcaaGreatDoorG20
import Derived.Test.YtjakeidbajkdcaaGreatDoorCards
import Derived.Test.YtjakeidbajkdcaaGreatDoorTie
import Derived.SizedLaws
import Derived.ChangeMaps5
import Derived.Carry
/- with, the document's: a node with other children. -/
namespace Go.Proofs.YtjakeidbajkdcaaGreatDoor.T
open Go.RowKit Go.Shelf
set_option maxHeartbeats 2000000 in
theorem put9 {W : World} {b : Nat} {cs : Array Value} (hs : cs.size = 9) (h : W.heap[b]? = some (.cells cs 37 (0, 0))) (c0 c1 c2 c3 c4 c5 c6 c7 c8 : Value) :
    (((((((((W.setCell ⟨b, 0, none⟩ c0).setCell ⟨b, 1, none⟩ c1).setCell ⟨b, 2, none⟩ c2).setCell ⟨b, 3, none⟩ c3).setCell ⟨b, 4, none⟩ c4).setCell ⟨b, 5, none⟩ c5).setCell ⟨b, 6, none⟩ c6).setCell ⟨b, 7, none⟩ c7).setCell ⟨b, 8, none⟩ c8).heap[b]? = some (.cells #[c0, c1, c2, c3, c4, c5, c6, c7, c8] 37 (0, 0)) := by
  obtain ⟨cs⟩ := cs
  match cs, hs with
  | [a0, a1, a2, a3, a4, a5, a6, a7, a8], _ =>
    have g0 : (W.setCell ⟨b, 0, none⟩ c0).heap[b]? = some (.cells #[c0, a1, a2, a3, a4, a5, a6, a7, a8] 37 (0, 0)) := blk_put (j := 0) (v := c0) h
    have g1 : ((W.setCell ⟨b, 0, none⟩ c0).setCell ⟨b, 1, none⟩ c1).heap[b]? = some (.cells #[c0, c1, a2, a3, a4, a5, a6, a7, a8] 37 (0, 0)) := blk_put (j := 1) (v := c1) g0
    have g2 : (((W.setCell ⟨b, 0, none⟩ c0).setCell ⟨b, 1, none⟩ c1).setCell ⟨b, 2, none⟩ c2).heap[b]? = some (.cells #[c0, c1, c2, a3, a4, a5, a6, a7, a8] 37 (0, 0)) := blk_put (j := 2) (v := c2) g1
    have g3 : ((((W.setCell ⟨b, 0, none⟩ c0).setCell ⟨b, 1, none⟩ c1).setCell ⟨b, 2, none⟩ c2).setCell ⟨b, 3, none⟩ c3).heap[b]? = some (.cells #[c0, c1, c2, c3, a4, a5, a6, a7, a8] 37 (0, 0)) := blk_put (j := 3) (v := c3) g2
    have g4 : (((((W.setCell ⟨b, 0, none⟩ c0).setCell ⟨b, 1, none⟩ c1).setCell ⟨b, 2, none⟩ c2).setCell ⟨b, 3, none⟩ c3).setCell ⟨b, 4, none⟩ c4).heap[b]? = some (.cells #[c0, c1, c2, c3, c4, a5, a6, a7, a8] 37 (0, 0)) := blk_put (j := 4) (v := c4) g3
    have g5 : ((((((W.setCell ⟨b, 0, none⟩ c0).setCell ⟨b, 1, none⟩ c1).setCell ⟨b, 2, none⟩ c2).setCell ⟨b, 3, none⟩ c3).setCell ⟨b, 4, none⟩ c4).setCell ⟨b, 5, none⟩ c5).heap[b]? = some (.cells #[c0, c1, c2, c3, c4, c5, a6, a7, a8] 37 (0, 0)) := blk_put (j := 5) (v := c5) g4
    have g6 : (((((((W.setCell ⟨b, 0, none⟩ c0).setCell ⟨b, 1, none⟩ c1).setCell ⟨b, 2, none⟩ c2).setCell ⟨b, 3, none⟩ c3).setCell ⟨b, 4, none⟩ c4).setCell ⟨b, 5, none⟩ c5).setCell ⟨b, 6, none⟩ c6).heap[b]? = some (.cells #[c0, c1, c2, c3, c4, c5, c6, a7, a8] 37 (0, 0)) := blk_put (j := 6) (v := c6) g5
    have g7 : ((((((((W.setCell ⟨b, 0, none⟩ c0).setCell ⟨b, 1, none⟩ c1).setCell ⟨b, 2, none⟩ c2).setCell ⟨b, 3, none⟩ c3).setCell ⟨b, 4, none⟩ c4).setCell ⟨b, 5, none⟩ c5).setCell ⟨b, 6, none⟩ c6).setCell ⟨b, 7, none⟩ c7).heap[b]? = some (.cells #[c0, c1, c2, c3, c4, c5, c6, c7, a8] 37 (0, 0)) := blk_put (j := 7) (v := c7) g6
    have g8 : (((((((((W.setCell ⟨b, 0, none⟩ c0).setCell ⟨b, 1, none⟩ c1).setCell ⟨b, 2, none⟩ c2).setCell ⟨b, 3, none⟩ c3).setCell ⟨b, 4, none⟩ c4).setCell ⟨b, 5, none⟩ c5).setCell ⟨b, 6, none⟩ c6).setCell ⟨b, 7, none⟩ c7).setCell ⟨b, 8, none⟩ c8).heap[b]? = some (.cells #[c0, c1, c2, c3, c4, c5, c6, c7, c8] 37 (0, 0)) := blk_put (j := 8) (v := c8) g7
    exact g8
end Go.Proofs.YtjakeidbajkdcaaGreatDoor.T
