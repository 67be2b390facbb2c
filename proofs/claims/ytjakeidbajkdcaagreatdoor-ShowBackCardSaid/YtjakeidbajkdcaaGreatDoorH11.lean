/- Joined by program. -/
import Derived.Test.YtjakeidbajkdcaaGreatDoorH10
import Derived.RangeFuncNested
import Derived.RangeFuncBound
import Derived.RangeFuncCalls
import Derived.RangeFuncLeaves
import Derived.Shelf.Abstract
import Derived.Shelf.RegionOpen
import Derived.WalkKit
import Derived.OwnWalkIn
import Derived.TacticsInMore
import Derived.LoopNIn
import Derived.LoopIn
namespace Go.Proofs.YtjakeidbajkdcaaGreatDoor.T
open Go.RowKit Go.Shelf
attribute [local go_sem] Oper.semAt_some
def Kq (n0 bs bn : Nat) (A C : World) : Prop := Below n0 A C /\ ∀ (b : Nat) (cs : Array Value) (t : TypeId) (fr : Nat × Nat), b ≠ bs -> b ≠ bn -> t ≠ 37 -> A.heap[b]? = some (.cells cs t fr) -> C.heap[b]? = some (.cells cs t fr)
theorem Kq.refl (n0 bs bn : Nat) (A : World) : Kq n0 bs bn A A := ⟨Below.refl _ _, fun _ _ _ _ _ _ _ h => h⟩
theorem Kq.trans {n0 bs bn : Nat} {X Y Z : World} (h : Kq n0 bs bn X Y) (k : Kq n0 bs bn Y Z) : Kq n0 bs bn X Z := ⟨h.1.trans k.1, fun b cs t fr h1 h2 h3 h4 => k.2 b cs t fr h1 h2 h3 (h.2 b cs t fr h1 h2 h3 h4)⟩
def fin (L : Nat) (ms : List Nat) : List (Fin L) := ms.filterMap fun m => if h : m < L then some ⟨m, h⟩ else none
open Go.RowKit
def Row1 (W : World) (g o : Nat) (U : List Int) : Prop := ∀ j z, U[j]? = some z -> W.cell? ⟨g, o + j, none⟩ = some (.int .i64 z)
theorem Row1.below {B : Nat} {W W' : World} {g o : Nat} {U : List Int} (h : Row1 W g o U) (hb : Below B W W') (hg : g < B) : Row1 W' g o U := fun j z hz => (hb.cell (p := ⟨g, _, none⟩) hg).trans (h j z hz)
open Go.RowKit
theorem set_far (W : World) (b j k : Nat) (v : Value) (h : k ≠ b) : (W.setCell ⟨b, j, none⟩ v).heap[k]? = W.heap[k]? := by
  show (W.heap.modify b _)[k]? = _
  rw [Array.getElem?_modify, if_neg (fun e => h e.symm)]
theorem cells9 {W : World} {b : Nat} {c0 c1 c2 c3 c4 c5 c6 c7 c8 : Value} (h : W.heap[b]? = some (.cells #[c0, c1, c2, c3, c4, c5, c6, c7, c8] 37 (0, 0))) :
    W.cell? ⟨b, 0, none⟩ = some c0 /\ W.cell? ⟨b, 1, none⟩ = some c1 /\ W.cell? ⟨b, 2, none⟩ = some c2 /\ W.cell? ⟨b, 3, none⟩ = some c3 /\ W.cell? ⟨b, 4, none⟩ = some c4 /\ W.cell? ⟨b, 5, none⟩ = some c5 /\ W.cell? ⟨b, 6, none⟩ = some c6 /\ W.cell? ⟨b, 7, none⟩ = some c7 /\ W.cell? ⟨b, 8, none⟩ = some c8 /\ ∀ j, W.frozen? ⟨b, j, none⟩ = false :=
  ⟨(Blk_cell h 0).trans rfl, (Blk_cell h 1).trans rfl, (Blk_cell h 2).trans rfl, (Blk_cell h 3).trans rfl, (Blk_cell h 4).trans rfl, (Blk_cell h 5).trans rfl, (Blk_cell h 6).trans rfl, (Blk_cell h 7).trans rfl, (Blk_cell h 8).trans rfl, fun j => Blk_frozen h j⟩
open Go.RowKit
def Clonable (x : Nd) : Prop := x.nm.size <= 281474976710656 /\ x.s.size <= 281474976710656 /\ x.l.length <= 1000000 /\ ∀ f ∈ x.l, f.nm.size <= 281474976710656 /\ f.vr.size <= 281474976710656
open Go.RowKit
theorem nodup_of_count {α : Type} [DecidableEq α] (l : List α) (h : ∀ a, l.count a <= 1) : l.Nodup := by
  induction l with
  | nil => simp
  | cons a l ih =>
    rw [List.nodup_cons]
    constructor
    · intro ha
      have h1 := h a
      rw [List.count_cons_self] at h1
      have := List.count_pos_iff.2 ha
      omega
    · refine ih fun b => ?_
      have := h b
      rw [List.count_cons] at this
      split at this <;> omega
theorem count_of_nodup {α : Type} [DecidableEq α] (l : List α) (h : l.Nodup) (a : α) (ha : a ∈ l) : l.count a = 1 := by
  induction l with
  | nil => simp at ha
  | cons b l ih =>
    rw [List.nodup_cons] at h
    by_cases e : a = b
    · subst e
      rw [List.count_cons_self, List.count_eq_zero.2 h.1]
    · rw [List.count_cons_of_ne (Ne.symm e)]
      exact ih h.2 (by simpa [e] using ha)
def CRow (L : Nat) (S : List Int) (C : List Int) : Prop := C.length = L /\ ∀ j : Nat, j < L -> C[j]? = some ((S.count (j : Int) : Nat) : Int)
theorem CRow.start (L : Nat) : CRow L [] (List.replicate L 0) := ⟨by simp, fun j hj => by simp [hj]⟩
theorem CRow.step {L : Nat} {S C : List Int} (h : CRow L S C) {k : Nat} (_hk : k < L) : CRow L (S ++ [(k : Int)]) (C.set k ((S.count (k : Int) + 1 : Nat) : Int)) := by
  refine ⟨by simp [h.1], fun j hj => ?_⟩
  by_cases e : k = j
  · subst e
    rw [List.getElem?_set_self (by rw [h.1]; exact hj), List.count_append]
    simp
  · rw [List.getElem?_set_ne e, h.2 j hj, List.count_append]
    have : ([(k : Int)] : List Int).count (j : Int) = 0 := by
      rw [List.count_eq_zero]
      simp
      omega
    rw [this]; simp
theorem CRow.once {l : List Nd} {C : List Int} (h : CRow l.length (allKids l) C) (hk : kidsOk l) : (∀ j : Nat, j + 1 < l.length -> C[j]? = some 1) ↔ onceOk l := by
  constructor
  · intro h1
    have hc : ∀ j : Nat, j + 1 < l.length -> (allKids l).count (j : Int) = 1 := fun j hj => by
      have e := (h.2 j (by omega)).symm.trans (h1 j hj)
      injection e with e
      omega
    refine ⟨nodup_of_count _ fun a => ?_, fun j hj => ?_⟩
    · by_cases ha : a ∈ allKids l
      · obtain ⟨i, x, hx, hm⟩ := mem_allKids.1 ha
        have h2 := hk i x hx a hm
        have h3 := lt_of_some hx
        obtain ⟨q, rfl⟩ := Int.eq_ofNat_of_zero_le h2.1
        rw [hc q (by omega)]
        exact Nat.le_refl _
      · rw [List.count_eq_zero.2 ha]; omega
    · exact List.count_pos_iff.1 (by rw [hc j hj]; omega)
  · intro h1 j hj
    rw [h.2 j (by omega), count_of_nodup _ h1.1 _ (h1.2 j hj)]
    rfl
end Go.Proofs.YtjakeidbajkdcaaGreatDoor.T
