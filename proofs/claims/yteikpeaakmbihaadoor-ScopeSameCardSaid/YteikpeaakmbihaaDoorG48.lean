/- Joined by program: LNormsA. -/
import Derived.Test.YteikpeaakmbihaaDoorG47
import Derived.Test.YteikpeaakmbihaaDoorG34
import Derived.Test.YteikpeaakmbihaaDoorG32
import Derived.Deep.CutRange
import Derived.Deep.DeepCutAuto
/- TreeNorms: what it calls, in the words of its walk. -/
namespace Go.Proofs.YteikpeaakmbihaaDoor.T
open Go.RowKit Go.Shelf
theorem sn_self (x : Nd) : sn x x = true := by
  have h : lf x.l x.l = true := by
    unfold lf
    rw [les_yes (fun j f g h1 h2 => by rw [h1] at h2; cases h2; simp [fe]) rfl]
    simp
  simp [sn, h]
theorem ln_self (l : List Nd) : ln l l = true := by
  unfold ln
  rw [lns_yes (fun j x y h1 h2 => by rw [h1] at h2; cases h2; exact sn_self x) rfl]
  simp
/-- What Parents answers. -/
def PR (l : List Nd) (W : World) (v : Value) : Prop := (may l ≠ 0 ∧ v = .slice none 0 0) ∨ (may l = 0 ∧ ∃ (U : List Int) (g cg : Nat), v = .slice (some ⟨g, 0, none⟩) l.length cg ∧ Rw W g U ∧ U.length = l.length ∧ U[l.length - 1]? = some (-1) ∧ ∀ (i : Nat) (x : Nd) (k : Int), l[i]? = some x → k ∈ kids x → U[k.toNat]? = some (i : Int))
theorem PR.next {l : List Nd} {W W' : World} {v : Value} (h : PR l W v) (hb : Below W.heap.size W W') : PR l W' v := by
  rcases h with h | ⟨h0, U, g, cg, h1, h2, h3⟩
  · exact .inl h
  · exact .inr ⟨h0, U, g, cg, h1, h2.next hb, h3⟩
theorem parents_law (l : List Nd) (A : Option Addr) (c : Nat) (w : World) (hK : Kws w.heap.size w) (hN : Nodes w.heap.size w (.slice A l.length c) l) (HS : ∀ x ∈ l, Small x) :
    Calls Tryd.prog 21 #[.agg #[.slice A l.length c]] w fun e w' => ∃ v, e = .returned v ∧ PR l w' v ∧ Below w.heap.size w w' := by
  by_cases hm : may l = 0
  · refine (parents_ok l _ c A rfl w hK hN HS hm).mono ?_
    rintro e w' ⟨U, g, cg, rfl, h1, h2, h3, h4, hb⟩
    exact ⟨_, rfl, .inr ⟨hm, U, g, cg, rfl, h1, h2, h3, h4⟩, hb⟩
  · refine (parents_bad l _ w hK hN HS hm).mono ?_
    rintro e w' ⟨rfl, hb⟩
    exact ⟨_, rfl, .inl ⟨hm, rfl⟩, hb⟩
/-- A box with an Expr in it. -/
def Bx (W : World) (p : Nat) (A : Option Addr) (k : Nat) (N : List Nd) : Prop := W.heap[p]? = some (.cells #[.slice A N.length k] 24 (0, 0)) ∧ Nodes W.heap.size W (.slice A N.length k) N
section
variable {w W W' : World} {p : Nat} {A : Option Addr} {k : Nat} {N : List Nd}
theorem Bx.next (h : Bx W p A k N) (hb : Below W.heap.size W W') : Bx W' p A k N := ⟨blk_next h.1 hb, nodes_next h.2 hb⟩
theorem Bx.c (h : Bx W p A k N) : W.cell? ⟨p, 0, none⟩ = some (.slice A N.length k) := (Blk_cell h.1 0).trans rfl
theorem Bx.new (h : Nodes W.heap.size W (.slice A N.length k) N) : Bx (W.alloc (.cells #[.slice A N.length k] 24)) W.heap.size A k N := ⟨newAt rfl, nodes_next h ((Below.refl _ W).alloc (Nat.le_refl _) _)⟩
end
/-- Two trees in boxes, of the call's own. -/
theorem two_boxes {w W2 : World} {o1 o2 : Value} {ps1 ps2 : List (Nd × Value)} {A C : Option Addr} {ka kc : Nat} {la lc : List Nd} (hb : Below w.heap.size w W2) (h1 : OwnN (w.heap.size + 2) W2 (.slice A la.length ka) ps1) (h2 : OwnN (w.heap.size + 2) W2 (.slice C lc.length kc) ps2) (e1 : ps1.map Prod.fst = la) (e2 : ps2.map Prod.fst = lc)
    (x1 : W2.heap[w.heap.size]? = some (.cells #[o1] 24 (0, 0))) (x2 : W2.heap[w.heap.size + 1]? = some (.cells #[o2] 24 (0, 0))) :
    BSt w ((W2.setCell ⟨w.heap.size, 0, none⟩ (.slice A la.length ka)).setCell ⟨w.heap.size + 1, 0, none⟩ (.slice C lc.length kc)) A ka la.length la C kc lc.length lc := by
  have hh : ∀ g, w.heap.size + 2 ≤ g → g < W2.heap.size → ((W2.setCell ⟨w.heap.size, 0, none⟩ (.slice A la.length ka)).setCell ⟨w.heap.size + 1, 0, none⟩ (.slice C lc.length kc)).heap[g]? = W2.heap[g]? := fun g hg _ => by
    rw [set_far _ _ _ _ _ (by omega), set_far _ _ _ _ _ (by omega)]
  have n1 := own_nodes (ownN_heap h1 hh)
  have n2 := own_nodes (ownN_heap h2 hh)
  rw [e1] at n1
  rw [e2] at n2
  refine ⟨(hb.setCell (p := ⟨w.heap.size, 0, none⟩) (Nat.le_refl _) _).setCell (p := ⟨w.heap.size + 1, 0, none⟩) (by show w.heap.size ≤ w.heap.size + 1; omega) _, n1, n2, ?_, ?_⟩
  · rw [set_far _ _ _ _ _ (by omega)]; exact blk_put (j := 0) (v := .slice A la.length ka) x1
  · exact blk_put (j := 0) (v := .slice C lc.length kc) ((set_far _ _ _ _ _ (by omega)).trans x2)
/-- What stays through the law's walk, behind the calls. -/
def ESt (w W : World) (A : Option Addr) (ka : Nat) (la : List Nd) (C : Option Addr) (kc : Nat) (lb : List Nd) (px : Nat) (Ax : Option Addr) (kx : Nat) (N1 : List Nd) (py : Nat) (Ay : Option Addr) (ky : Nat) (N2 : List Nd) (pv : Value) : Prop :=
  BSt w W A ka la.length la C kc lb.length lb ∧ Bx W px Ax kx N1 ∧ Bx W py Ay ky N2 ∧ PR la W pv
section
variable {w W W' : World} {A C Ax Ay : Option Addr} {ka kc px kx py ky : Nat} {la lb N1 N2 : List Nd} {pv : Value}
theorem ESt.next (h : ESt w W A ka la C kc lb px Ax kx N1 py Ay ky N2 pv) (hb : Below W.heap.size W W') : ESt w W' A ka la C kc lb px Ax kx N1 py Ay ky N2 pv := ⟨h.1.next hb, h.2.1.next hb, h.2.2.1.next hb, h.2.2.2.next hb⟩
theorem ESt.drew (h : ESt w W A ka la C kc lb px Ax kx N1 py Ay ky N2 pv) : ESt w W.drew A ka la C kc lb px Ax kx N1 py Ay ky N2 pv := h.next (Below.refl _ _).drew
end
end Go.Proofs.YteikpeaakmbihaaDoor.T
