/- Joined by program: LStaysA. -/
import Derived.Test.YteikpeaakmbihaaDoorG42
import Derived.Test.YteikpeaakmbihaaDoorG37
import Derived.Test.YteikpeaakmbihaaDoorG43
import Derived.Test.YteikpeaakmbihaaDoorG44
/- TreeStays: what stays through its walk. -/
namespace Go.Proofs.YteikpeaakmbihaaDoor.T
open Go.RowKit Go.Shelf
/-- A tree of the call's own in its box. -/
def ASt (w W : World) (A : Option Addr) (k : Nat) (la : List Nd) : Prop :=
  (∃ ps : List (Nd × Value), ps.map Prod.fst = la ∧ OwnN (w.heap.size + 1) W (.slice A la.length k) ps) ∧ W.heap[w.heap.size]? = some (.cells #[.slice A la.length k] 24 (0, 0)) ∧ Below w.heap.size w W
section
variable {w W W' : World} {A : Option Addr} {k q gk ck : Nat} {la : List Nd} {K : List Int} {es : List (List Nd × Value)} {v v2 u : Value} {e : List Nd}
theorem ASt.size (h : ASt w W A k la) : w.heap.size + 1 ≤ W.heap.size := (Array.getElem?_eq_some_iff.1 h.2.1).1
theorem ASt.next (h : ASt w W A k la) (hb : Below W.heap.size W W') : ASt w W' A k la := by
  obtain ⟨⟨ps, h1, h2⟩, h3, h4⟩ := h
  exact ⟨⟨ps, h1, ownN_grow h2 (grown_of hb)⟩, blk_next h3 hb, below_next h4 hb (Nat.le_refl _)⟩
theorem ASt.drew (h : ASt w W A k la) : ASt w W.drew A k la := h.next (Below.refl _ _).drew
theorem ASt.c (h : ASt w W A k la) : W.cell? ⟨w.heap.size, 0, none⟩ = some (.slice A la.length k) := (Blk_cell h.2.1 0).trans rfl
theorem ASt.nodes (h : ASt w W A k la) : Nodes W.heap.size W (.slice A la.length k) la := by
  obtain ⟨⟨ps, h1, h2⟩, _⟩ := h
  have := own_nodes h2
  rwa [h1] at this
/-- The tree in its box. -/
theorem ASt.put {v2 : Value} {ps : List (Nd × Value)} {o : Value} (hb : Below w.heap.size w W) (h : OwnN (w.heap.size + 1) W (.slice A la.length k) ps) (he : ps.map Prod.fst = la) (hx : W.heap[w.heap.size]? = some (.cells #[o] 24 (0, 0))) (hv : v2 = .slice A la.length k) :
    ASt w (W.setCell ⟨w.heap.size, 0, none⟩ v2) A k la := by
  subst hv
  refine ⟨⟨ps, he, ownN_heap h fun g hg _ => set_far _ _ _ _ _ (by omega)⟩, blk_put (j := 0) hx, hb.setCell (p := ⟨w.heap.size, 0, none⟩) (Nat.le_refl _) _⟩
/-- In the loop: the children's places, the trees so far. -/
def ZSt (w W : World) (A : Option Addr) (k : Nat) (la : List Nd) (gk ck : Nat) (K : List Int) (es : List (List Nd × Value)) (v : Value) (q : Nat) : Prop :=
  ASt w W A k la ∧ Ints (w.heap.size + 1) W (.slice (some ⟨gk, 0, none⟩) K.length ck) K ∧ W.ownsRow (w.heap.size + 1) 24 1 v q (es.map Prod.snd) ∧ es.length = q ∧ ∀ p ∈ es, Tr w W p.1 p.2
theorem ZSt.next (h : ZSt w W A k la gk ck K es v q) (hb : Below W.heap.size W W') : ZSt w W' A k la gk ck K es v q := by
  obtain ⟨a0, a1, a2, a3, a4⟩ := h
  have hg := grown_of hb
  exact ⟨a0.next hb, World.ownsRow.kept a1 hg (ne_none _), a2.kept hg (ne_none _), a3, fun p hp => (a4 p hp).next hb⟩
theorem ZSt.drew (h : ZSt w W A k la gk ck K es v q) : ZSt w W.drew A k la gk ck K es v q := h.next (Below.refl _ _).drew
theorem ZSt.push {o : Obj} (h : ZSt w W A k la gk ck K es v q) (ht : Tr w W e u) (h1 : W'.ownsRow (w.heap.size + 1) 24 1 v2 (q + 1) (es.map Prod.snd ++ [u])) (h2 : (W.alloc o).grownBy W' v.ownBlock) : ZSt w W' A k la gk ck K (es ++ [(e, u)]) v2 (q + 1) := by
  have hal := (Below.refl W.heap.size W).alloc (Nat.le_refl _) o
  have h' := h.next hal
  have ht' := ht.next hal
  obtain ⟨⟨⟨ps, p1, p2⟩, p3, p4⟩, a1, a2, a3, a4⟩ := h'
  have hs : w.heap.size < (W.alloc o).heap.size := (Array.getElem?_eq_some_iff.1 p3).1
  have hbl : ∀ k, k < w.heap.size + 1 → W'.heap[k]? = (W.alloc o).heap[k]? := fun k hk => h2.block k (by omega) (fun e => by have := (a2.lt k e.symm).1; omega)
  have key : ∀ e u, Tr w (W.alloc o) e u → Tr w W' e u := fun e u ht => by
    rcases ht with ht | ⟨ps, rfl, ht⟩
    · exact .inl ht
    · exact .inr ⟨ps, rfl, ht.1.kept h2 (rows_ne ht.1 a2 (by decide)), fun y hy => World.ownsRow.kept (ht.2 y hy) h2 (rows_ne (ht.2 y hy) a2 (by decide))⟩
  refine ⟨⟨⟨ps, p1, p2.1.kept h2 (rows_ne p2.1 a2 (by decide)), fun y hy => World.ownsRow.kept (p2.2 y hy) h2 (rows_ne (p2.2 y hy) a2 (by decide))⟩, (hbl _ (by omega)).trans p3, ⟨h2.os.trans p4.os, h2.tape.trans p4.tape, h2.output.trans p4.output, by have := h2.size; have := p4.size; omega, fun k hk => (hbl k (by omega)).trans (p4.block k hk)⟩⟩, World.ownsRow.kept a1 h2 (rows_ne a1 a2 (by decide)), by rw [List.map_append]; exact h1, by rw [List.length_append, a3]; rfl, fun p hp => ?_⟩
  rcases List.mem_append.1 hp with hp | hp
  · exact key _ _ (a4 p hp)
  · obtain rfl : p = (e, u) := by simpa using hp
    exact key _ _ ht'
theorem ZSt.row (h : ZSt w W A k la gk ck K es v q) : Rw W gk K := by
  have h1 := h.2.1
  refine ⟨fun j z hz => ?_, (h1.lt gk rfl).2⟩
  have := World.ownsRow.cells h1 (g := gk) rfl j (.int .i64 z) (by rw [List.getElem?_map, hz]; rfl)
  rwa [Addr.add_lit, Nat.zero_add] at this
theorem ZSt.exprs (h : ZSt w W A k la gk ck K es v q) : Exprs W.heap.size W v (es.map Prod.fst) := exprs_of h.2.2.1 h.2.2.2.1 fun p hp => (h.2.2.2.2 p hp).nodes h.1.2.2
/-- The loop begins. -/
theorem ZSt.new (h : ASt w W A k la) (h1 : Ints (w.heap.size + 1) W (.slice (some ⟨gk, 0, none⟩) K.length ck) K) : ∀ W' v, W'.ownsRow (w.heap.size + 1) 24 1 v 0 [] → Below W.heap.size W W' → ZSt w W' A k la gk ck K [] v 0 := fun W' v hr hb =>
  ⟨h.next hb, World.ownsRow.kept h1 (grown_of hb) (ne_none _), hr, rfl, fun p hp => by simp at hp⟩
/-- A tree that was taken, in a box. -/
def Got (w W : World) (A : Option Addr) (k : Nat) (la : List Nd) (gk ck : Nat) (K : List Int) (es : List (List Nd × Value)) (v : Value) (q : Nat) (e : List Nd) (p : Nat) (u : Value) : Prop :=
  ZSt w W A k la gk ck K es v q ∧ Tr w W e u ∧ W.heap[p]? = some (.cells #[u] 24 (0, 0))
theorem ZSt.got_a {W5 : World} {ps : List (Nd × Value)} {n : Nat} (h : ZSt w W A k la gk ck K es v q) (hb : Below W.heap.size W W5) (hn : W5.heap.size = n) (ho : OwnN W.heap.size W5 u ps) (he : ps.map Prod.fst = e) : Got w (W5.alloc (.cells #[u] 24)) A k la gk ck K es v q e n u := by
  subst hn
  refine ⟨h.next (hb.alloc hb.size _), .inr ⟨ps, he, ?_⟩, newAt rfl⟩
  exact ownN_grow (ownN_low ho (h.1.size)) (grown_of ((Below.refl _ W5).alloc (Nat.le_refl _) _))
theorem ZSt.got_b {W5 : World} {ps : List (Nd × Value)} {n : Nat} {z : Value} (h : ZSt w W A k la gk ck K es v q) (hb : Below W.heap.size W W5) (hn : W.heap.size = n) (ho : OwnN (n + 1) W5 u ps) (he : ps.map Prod.fst = e) (hz : W5.heap[n]? = some (.cells #[z] 24 (0, 0))) : Got w (W5.setCell ⟨n, 0, none⟩ u) A k la gk ck K es v q e n u := by
  subst hn
  refine ⟨h.next (hb.setCell (p := ⟨W.heap.size, 0, none⟩) (Nat.le_refl _) _), .inr ⟨ps, he, ?_⟩, blk_put (j := 0) hz⟩
  have := h.1.size
  exact ownN_low (ownN_heap ho fun g hg _ => set_far _ _ _ _ _ (by omega)) (by omega)
end
end Go.Proofs.YteikpeaakmbihaaDoor.T
