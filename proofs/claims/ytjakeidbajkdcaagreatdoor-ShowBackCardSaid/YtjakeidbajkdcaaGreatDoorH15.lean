/- Joined by program. -/
import Derived.Test.YtjakeidbajkdcaaGreatDoorH13
import Derived.Test.YtjakeidbajkdcaaGreatDoorH14
namespace Go.Proofs.YtjakeidbajkdcaaGreatDoor.T
open Go.RowKit Go.Shelf
theorem wk_parts (y : Nd) (ks : List Int) : (wk y ks).l.length <= y.l.length := by
  unfold wk
  simp only
  split
  · unfold relab; rw [List.length_zipWith]; omega
  · simp
theorem stp_from (l : List Nd) (ps : List Nat) : ∀ s : List Nd × List Int, ∀ x ∈ (ps.foldl (stp l) s).1, x ∈ s.1 ∨ ∃ y ∈ l, ∃ ks, x = wk y ks := by
  induction ps with
  | nil => intro s x hx; exact .inl hx
  | cons p ps ih =>
    intro s x hx
    rcases ih _ x hx with h | h
    · unfold stp at h
      split at h
      · exact .inl h
      · rename_i y hy
        rcases List.mem_append.1 h with h | h
        · exact .inl h
        · exact .inr ⟨y, List.mem_of_getElem? hy, _, by simpa using h⟩
    · exact .inr h
theorem nrm_few {l : List Nd} (hS : ∀ x ∈ l, Small x) : (nrm l).length <= 600 /\ ∀ x ∈ nrm l, x.l.length <= 1000000 := by
  unfold nrm
  split
  · rename_i h
    obtain ⟨h1, h6⟩ := may_big h
    have hf := (may_zero h).2.1
    have hk : kidsOk l := hf.2.1
    have hn : (allKids l).Nodup := hf.2.2.1.1
    have hi : l.length - 1 < l.length := by omega
    rw [<- (stp_post hk hn _ hi ([], List.replicate l.length 0) (by simp)).1]
    refine ⟨?_, fun x hx => ?_⟩
    · have := (stp_len l (post l (l.length - 1)) ([], List.replicate l.length 0)).1
      have := post_len hk hn hi
      simp at *
      omega
    · rcases stp_from l _ _ x hx with h | ⟨y, hy, ks, rfl⟩
      · simp at h
      · have := (hS y hy).2.2.1
        have := wk_parts y ks; omega
  · exact ⟨by simp, fun x hx => by simp at hx⟩
noncomputable def tsm (l m : List Nd) : Bool := decide (may l = 0) && (decide (may m = 0) && ln (nrm l) (nrm m))
open Go.RowKit Go.Shelf
theorem below_next {B : Nat} {w w1 w2 : World} (h : Below B w w1) (k : Below w1.heap.size w1 w2) (hB : B <= w.heap.size) : Below B w w2 := h.trans (k.mono (Nat.le_trans hB h.size))
theorem blk_next {W W' : World} {b : Nat} {x : Obj} (h : W.heap[b]? = some x) (k : Below W.heap.size W W') : W'.heap[b]? = some x := (k.block b (Array.getElem?_eq_some_iff.1 h).1).trans h
end Go.Proofs.YtjakeidbajkdcaaGreatDoor.T
