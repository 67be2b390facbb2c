/- Joined by program: PSubA, PSub, PNorm, RWith. -/
import Derived.Test.YtjakeidbajkdcaaGreatDoorG11
import Derived.Test.YtjakeidbajkdcaaGreatDoorG00
import Derived.Test.YtjakeidbajkdcaaGreatDoorG12
import Derived.Test.YtjakeidbajkdcaaGreatDoorG02
import Derived.Maps.AppendAt
/- Sub, the program's: words. -/
namespace Go.Proofs.YtjakeidbajkdcaaGreatDoor.T
open Go.RowKit Go.Shelf
attribute [local go_sem] Oper.semAt_some
/-- append, as a thing of its own, which the walk leaves standing. -/
def heldAppend (ats : Array TypeId) (ty : TypeId) (args : Array Value) : Sem Value := Builtin.append_ ats ty args
theorem builtin_held (ats : Array TypeId) (ty : TypeId) (cs : Array Bool) (args : Array Value) : builtin .append ats ty cs args = (do pure (.value (← heldAppend ats ty args))) := rfl
attribute [local go_sem ↓ 2000] builtin_held
theorem ownN_nil (B : Nat) (W : World) : OwnN B W (.slice none 0 0) [] := ⟨World.ownsRow_nil _ _ _ _, fun x hx => by simp at hx⟩
/-- What the places told so far have made. -/
def made (l : List Nd) (L : Nat) (pre : List (Fin L)) : List Nd × List Int := (pre.map Fin.val).foldl (stp l) ([], List.replicate L 0)
/-- Whole numbers lie at the beginning of a block of cells. -/
def KRow (W : World) (g : Nat) (U : List Int) : Prop := ∃ cur : Array Value, W.heap[g]? = some (.cells cur 3 (0, 0)) ∧ ∀ (j : Nat) (z : Int), U[j]? = some z → cur[j]? = some (.int .i64 z)
theorem KRow.of {B g c : Nat} {W : World} {U : List Int} (h : Ints B W (.slice (some ⟨g, 0, none⟩) U.length c) U) : KRow W g U := by
  have hc := ints_cells h
  rcases h.2 with ⟨h, _⟩ | ⟨g', cap', cur, h, _, hh, _⟩
  · cases h
  · cases h
    exact ⟨cur, hh, fun j z hz => by rw [← hc j z hz, Blk_cell hh]⟩
theorem KRow.row {W : World} {g : Nat} {U : List Int} (h : KRow W g U) : Row0 W g U := fun j z hz => by
  obtain ⟨cur, h1, h2⟩ := h
  rw [Blk_cell h1]; exact h2 j z hz
theorem KRow.frozen {W : World} {g : Nat} {U : List Int} (h : KRow W g U) (j : Nat) : W.frozen? ⟨g, j, none⟩ = false := by
  obtain ⟨cur, h1, h2⟩ := h
  exact Blk_frozen h1 j
theorem KRow.set {W : World} {g j : Nat} {U : List Int} (h : KRow W g U) (hj : j < U.length) (z : Int) : KRow (W.setCell ⟨g, j, none⟩ (.int .i64 z)) g (U.set j z) := by
  obtain ⟨cur, h1, h2⟩ := h
  refine ⟨_, blk_put h1, fun k y hk => ?_⟩
  have h3 := h2 j (U[j]) (List.getElem?_eq_getElem hj)
  have hjc : j < cur.size := (Array.getElem?_eq_some_iff.1 h3).1
  by_cases e : j = k
  · subst e
    rw [List.getElem?_set_self hj] at hk
    injection hk with hk
    rw [Array.getElem?_setIfInBounds_self_of_lt hjc, hk]
  · rw [List.getElem?_set_ne e] at hk
    rw [Array.getElem?_setIfInBounds_ne e]
    exact h2 k y hk
theorem KRow.heap {W W' : World} {g : Nat} {U : List Int} (h : KRow W g U) (he : W'.heap[g]? = W.heap[g]?) : KRow W' g U := by
  obtain ⟨cur, h1, h2⟩ := h
  exact ⟨cur, he.trans h1, h2⟩
theorem row_heap {W W' : World} {B e size n : Nat} {v : Value} {xs : List Value} (h : W.ownsRow B e size v n xs) (hh : ∀ g, B ≤ g → g < W.heap.size → W'.heap[g]? = W.heap[g]?) : W'.ownsRow B e size v n xs := by
  refine ⟨h.1, ?_⟩
  rcases h.2 with h | ⟨g, cap, cur, h1, h2, h3, h4⟩
  · exact .inl h
  · exact .inr ⟨g, cap, cur, h1, h2, (hh g h2 (Array.getElem?_eq_some_iff.1 h3).1).trans h3, h4⟩
theorem ownN_heap {W W' : World} {B : Nat} {v : Value} {ps : List (Nd × Value)} (h : OwnN B W v ps) (hh : ∀ g, B ≤ g → g < W.heap.size → W'.heap[g]? = W.heap[g]?) : OwnN B W' v ps := ⟨row_heap h.1 hh, fun x hx => row_heap (h.2 x hx) hh⟩
theorem own27 {W : World} {B n : Nat} {v : Value} {xs : List Value} (h : W.ownsRow B 37 9 v n xs) : ∀ r, v.ownBlock = some r → B ≤ r ∧ ∃ cur, W.heap[r]? = some (.cells cur 37 (0, 0)) := fun r hr => by
  rcases h.2 with ⟨rfl, _⟩ | ⟨g, cap, cur, rfl, h2, h3, _⟩
  · cases hr
  · cases hr; exact ⟨h2, cur, h3⟩
end Go.Proofs.YtjakeidbajkdcaaGreatDoor.T
/- Sub, the program's. -/
namespace Go.Proofs.YtjakeidbajkdcaaGreatDoor.T
open Go.RowKit Go.Shelf
attribute [local go_sem] Oper.semAt_some
theorem nextAt {W : World} {o x : Obj} {k : Nat} (h : W.heap[k]? = some x) : (W.alloc o).heap[k]? = some x := (Below.heap_alloc W o k (Array.getElem?_eq_some_iff.1 h).1).trans h
theorem newAt {W : World} {o : Obj} {n : Nat} (h : W.heap.size = n) : (W.alloc o).heap[n]? = some o := h ▸ World.alloc_heap_new W o
end Go.Proofs.YtjakeidbajkdcaaGreatDoor.T
/- Sub of what may not be; Norm, the program's. -/
namespace Go.Proofs.YtjakeidbajkdcaaGreatDoor.T
open Go.RowKit Go.Shelf
theorem own_slice {B : Nat} {W : World} {v : Value} {ps : List (Nd × Value)} (h : OwnN B W v ps) : ∃ A c, v = .slice A ps.length c := by
  rcases h.1.2 with ⟨rfl, h0⟩ | ⟨g, cap, cur, rfl, _⟩
  · exact ⟨none, 0, by rw [h0]⟩
  · exact ⟨_, _, rfl⟩
end Go.Proofs.YtjakeidbajkdcaaGreatDoor.T
/- with, the document's: a node with other children. -/
namespace Go.Proofs.YtjakeidbajkdcaaGreatDoor.T
open Go.RowKit Go.Shelf
set_option maxHeartbeats 2000000 in
theorem put9 {W : World} {b : Nat} {cs : Array Value} (hs : cs.size = 9) (h : W.heap[b]? = some (.cells cs 37 (0, 0))) (c0 c1 c2 c3 c4 c5 c6 c7 c8 : Value) :
    (((((((((W.setCell ⟨b, 0, none⟩ c0).setCell ⟨b, 1, none⟩ c1).setCell ⟨b, 2, none⟩ c2).setCell ⟨b, 3, none⟩ c3).setCell ⟨b, 4, none⟩ c4).setCell ⟨b, 5, none⟩ c5).setCell ⟨b, 6, none⟩ c6).setCell ⟨b, 7, none⟩ c7).setCell ⟨b, 8, none⟩ c8).heap[b]? = some (.cells #[c0, c1, c2, c3, c4, c5, c6, c7, c8] 37 (0, 0)) := by
  obtain ⟨cs⟩ := cs
  match cs, hs with
  | [a0, a1, a2, a3, a4, a5, a6, a7, a8], _ =>
    have g0 : (W.setCell ⟨b, 0, none⟩ c0).heap[b]? = some (.cells #[c0, a1, a2, a3, a4, a5, a6, a7, a8] 37 (0, 0)) := blk_put (j := 0) (v := c0) h
    have g1 : ((W.setCell ⟨b, 0, none⟩ c0).setCell ⟨b, 1, none⟩ c1).heap[b]? = some (.cells #[c0, c1, a2, a3, a4, a5, a6, a7, a8] 37 (0, 0)) := blk_put (j := 1) (v := c1) g0
    have g2 : (((W.setCell ⟨b, 0, none⟩ c0).setCell ⟨b, 1, none⟩ c1).setCell ⟨b, 2, none⟩ c2).heap[b]? = some (.cells #[c0, c1, c2, a3, a4, a5, a6, a7, a8] 37 (0, 0)) := blk_put (j := 2) (v := c2) g1
    have g3 : ((((W.setCell ⟨b, 0, none⟩ c0).setCell ⟨b, 1, none⟩ c1).setCell ⟨b, 2, none⟩ c2).setCell ⟨b, 3, none⟩ c3).heap[b]? = some (.cells #[c0, c1, c2, c3, a4, a5, a6, a7, a8] 37 (0, 0)) := blk_put (j := 3) (v := c3) g2
    have g4 : (((((W.setCell ⟨b, 0, none⟩ c0).setCell ⟨b, 1, none⟩ c1).setCell ⟨b, 2, none⟩ c2).setCell ⟨b, 3, none⟩ c3).setCell ⟨b, 4, none⟩ c4).heap[b]? = some (.cells #[c0, c1, c2, c3, c4, a5, a6, a7, a8] 37 (0, 0)) := blk_put (j := 4) (v := c4) g3
    have g5 : ((((((W.setCell ⟨b, 0, none⟩ c0).setCell ⟨b, 1, none⟩ c1).setCell ⟨b, 2, none⟩ c2).setCell ⟨b, 3, none⟩ c3).setCell ⟨b, 4, none⟩ c4).setCell ⟨b, 5, none⟩ c5).heap[b]? = some (.cells #[c0, c1, c2, c3, c4, c5, a6, a7, a8] 37 (0, 0)) := blk_put (j := 5) (v := c5) g4
    have g6 : (((((((W.setCell ⟨b, 0, none⟩ c0).setCell ⟨b, 1, none⟩ c1).setCell ⟨b, 2, none⟩ c2).setCell ⟨b, 3, none⟩ c3).setCell ⟨b, 4, none⟩ c4).setCell ⟨b, 5, none⟩ c5).setCell ⟨b, 6, none⟩ c6).heap[b]? = some (.cells #[c0, c1, c2, c3, c4, c5, c6, a7, a8] 37 (0, 0)) := blk_put (j := 6) (v := c6) g5
    have g7 : ((((((((W.setCell ⟨b, 0, none⟩ c0).setCell ⟨b, 1, none⟩ c1).setCell ⟨b, 2, none⟩ c2).setCell ⟨b, 3, none⟩ c3).setCell ⟨b, 4, none⟩ c4).setCell ⟨b, 5, none⟩ c5).setCell ⟨b, 6, none⟩ c6).setCell ⟨b, 7, none⟩ c7).heap[b]? = some (.cells #[c0, c1, c2, c3, c4, c5, c6, c7, a8] 37 (0, 0)) := blk_put (j := 7) (v := c7) g6
    have g8 : (((((((((W.setCell ⟨b, 0, none⟩ c0).setCell ⟨b, 1, none⟩ c1).setCell ⟨b, 2, none⟩ c2).setCell ⟨b, 3, none⟩ c3).setCell ⟨b, 4, none⟩ c4).setCell ⟨b, 5, none⟩ c5).setCell ⟨b, 6, none⟩ c6).setCell ⟨b, 7, none⟩ c7).setCell ⟨b, 8, none⟩ c8).heap[b]? = some (.cells #[c0, c1, c2, c3, c4, c5, c6, c7, c8] 37 (0, 0)) := blk_put (j := 8) (v := c8) g7
    exact g8
end Go.Proofs.YtjakeidbajkdcaaGreatDoor.T
