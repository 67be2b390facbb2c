/- Joined by program: LJoinsA. -/
import Derived.Test.YteikpeaakmbihaaDoorG40
import Derived.Test.YteikpeaakmbihaaDoorG41
/- TreeJoins: what stays through its walk. -/
namespace Go.Proofs.YteikpeaakmbihaaDoor.T
open Go.RowKit Go.Shelf
/-- A tree that came in, or one of the call's own. -/
def Tr (w W : World) (e : List Nd) (v : Value) : Prop := Nodes w.heap.size w v e ∨ ∃ ps, ps.map Prod.fst = e ∧ OwnN (w.heap.size + 1) W v ps
/-- Where TreeJoins stands. -/
def KSt (w W : World) (x : Nd) (F : Value) (es : List (List Nd × Value)) (v : Value) (q : Nat) : Prop :=
  W.heap[w.heap.size]? = some (.cells (ndArr x F) 27 (0, 0)) ∧ OwnF (w.heap.size + 1) W F x.l ∧ W.ownsRow (w.heap.size + 1) 24 1 v q (es.map Prod.snd) ∧ es.length = q ∧ (∀ p ∈ es, Tr w W p.1 p.2) ∧ Below w.heap.size w W
section
variable {w W W' : World} {x : Nd} {F v u v2 : Value} {es : List (List Nd × Value)} {e : List Nd} {q : Nat}
theorem Tr.nodes (h : Tr w W e v) (hb : Below w.heap.size w W) : Nodes W.heap.size W v e := by
  rcases h with h | ⟨ps, rfl, h⟩
  · exact (h.below hb).mono hb.size
  · exact own_nodes h
theorem Tr.next (h : Tr w W e v) (hb : Below W.heap.size W W') : Tr w W' e v := by
  rcases h with h | ⟨ps, rfl, h⟩
  · exact .inl h
  · exact .inr ⟨ps, rfl, ownN_grow h (grown_of hb)⟩
theorem Tr.slice (h : Tr w W e v) : ∃ A c, v = .slice A e.length c := by
  rcases h with ⟨A, c, rfl, _⟩ | ⟨ps, rfl, h⟩
  · exact ⟨A, c, rfl⟩
  · obtain ⟨A, c, rfl⟩ := own_slice h
    exact ⟨A, c, by rw [List.length_map]⟩
theorem KSt.size (h : KSt w W x F es v q) : w.heap.size + 1 ≤ W.heap.size := (Array.getElem?_eq_some_iff.1 h.1).1
theorem KSt.next (h : KSt w W x F es v q) (hb : Below W.heap.size W W') : KSt w W' x F es v q := by
  obtain ⟨a0, a1, a2, a3, a4, a5⟩ := h
  have hg := grown_of hb
  exact ⟨blk_next a0 hb, World.ownsRow.kept a1 hg (ne_none _), a2.kept hg (ne_none _), a3, fun p hp => (a4 p hp).next hb, below_next a5 hb (Nat.le_refl _)⟩
theorem KSt.drew (h : KSt w W x F es v q) : KSt w W.drew x F es v q := h.next (Below.refl _ _).drew
theorem KSt.flds (h : KSt w W x F es v q) : Flds W.heap.size W F x.l := ownF_flds h.2.1
/-- Behind a growth of one row of trees. -/
theorem KSt.grow {B n : Nat} {xs : List Value} {t : Value} (h : KSt w W x F es v q) (hr : W.ownsRow B 24 1 t n xs) (hB : w.heap.size + 1 ≤ B) (hg : W.grownBy W' t.ownBlock) :
    W'.heap[w.heap.size]? = some (.cells (ndArr x F) 27 (0, 0)) ∧ OwnF (w.heap.size + 1) W' F x.l ∧ (∀ e u, Tr w W e u → Tr w W' e u) ∧ Below w.heap.size w W' := by
  obtain ⟨a0, a1, a2, a3, a4, a5⟩ := h
  have hs : w.heap.size < W.heap.size := (Array.getElem?_eq_some_iff.1 a0).1
  have hbl : ∀ k, k < w.heap.size + 1 → W'.heap[k]? = W.heap[k]? := fun k hk => hg.block k (by omega) (fun e => by have := (hr.lt k e.symm).1; omega)
  refine ⟨(hbl _ (by omega)).trans a0, World.ownsRow.kept a1 hg (rows_ne a1 hr (by decide)), fun e u ht => ?_, ⟨hg.os.trans a5.os, hg.tape.trans a5.tape, hg.output.trans a5.output, by have := hg.size; have := a5.size; omega, fun k hk => (hbl k (by omega)).trans (a5.block k hk)⟩⟩
  rcases ht with ht | ⟨ps, rfl, ht⟩
  · exact .inl ht
  · exact .inr ⟨ps, rfl, ht.1.kept hg (rows_ne ht.1 hr (by decide)), fun y hy => World.ownsRow.kept (ht.2 y hy) hg (rows_ne (ht.2 y hy) hr (by decide))⟩
theorem KSt.push {o : Obj} (h : KSt w W x F es v q) (ht : Tr w W e u) (h1 : W'.ownsRow (w.heap.size + 1) 24 1 v2 (q + 1) (es.map Prod.snd ++ [u])) (h2 : (W.alloc o).grownBy W' v.ownBlock) : KSt w W' x F (es ++ [(e, u)]) v2 (q + 1) := by
  have hal := (Below.refl W.heap.size W).alloc (Nat.le_refl _) o
  have h' := h.next hal
  obtain ⟨b0, b1, b2, b3⟩ := h'.grow h'.2.2.1 (Nat.le_refl _) h2
  refine ⟨b0, b1, by rw [List.map_append]; exact h1, by rw [List.length_append, h.2.2.2.1]; rfl, fun p hp => ?_, b3⟩
  rcases List.mem_append.1 hp with hp | hp
  · exact b2 _ _ (h'.2.2.2.2.1 p hp)
  · obtain rfl : p = (e, u) := by simpa using hp
    exact b2 _ _ (ht.next hal)
theorem exprs_of {B : Nat} (h : W.ownsRow B 24 1 v q (es.map Prod.snd)) (hq : es.length = q) (ht : ∀ p ∈ es, Nodes W.heap.size W p.2 p.1) : Exprs W.heap.size W v (es.map Prod.fst) := by
  have hc := fun g (hg : v.ownBlock = some g) => World.ownsRow.cells h (g := g) hg
  rcases h.2 with ⟨rfl, h0⟩ | ⟨g, cap, cur, rfl, _, hh, hle, hmx, _⟩
  · obtain rfl : es = [] := List.eq_nil_of_length_eq_zero (by omega)
    subst h0
    exact ⟨none, 0, rfl, by simp, fun _ => rfl, fun h => by simp at h⟩
  · refine ⟨some ⟨g, 0, none⟩, cap, by rw [List.length_map, hq], by rw [List.length_map, hq]; exact hle, (fun h => by cases h), fun _ => ⟨g, 0, rfl, (Array.getElem?_eq_some_iff.1 hh).1, fun j e he => ?_⟩⟩
    rw [List.getElem?_map] at he
    obtain ⟨p, hp, rfl⟩ := Option.map_eq_some_iff.1 he
    have hn := ht p (List.mem_of_getElem? hp)
    have hn' := hn
    obtain ⟨Ae, ce, e1, _⟩ := hn
    refine ⟨Ae, ce, ?_, by rw [← e1]; exact hn'⟩
    rw [← e1, Nat.zero_add]
    have hcj := hc g rfl j p.2 (by rw [List.getElem?_map, hp]; rfl)
    rw [Addr.add_lit, Nat.zero_add] at hcj
    exact hcj
theorem KSt.exprs (h : KSt w W x F es v q) : Exprs W.heap.size W v (es.map Prod.fst) := exprs_of h.2.2.1 h.2.2.2.1 fun p hp => (h.2.2.2.2.1 p hp).nodes h.2.2.2.2.2
end
/-- A node whose parts are the first twenty. -/
def cutj (x : Nd) : Nd := { x with l := x.l.take 20 }
/-- The tree of one int. -/
def int1 : Nd := ⟨1, 0, 0, 0, 0, ⟨#[]⟩, ⟨#[]⟩, [], 0⟩
theorem rB_parts {k a b c n pos : Int} {nE nB tB sE : Bool} {sL L : Nat} {lab : Bool} (h : rB k a b c n pos nE nB tB sE sL L lab = true) : (k ≠ 11 ∧ k ≠ 14 → L = 0) ∧ (k = 11 ∨ k = 14 → lab = true) := by
  unfold rB at h
  simp only [Bool.and_eq_true, Bool.or_eq_true, Bool.not_eq_true', Bool.or_eq_false_iff, decide_eq_false_iff_not, decide_eq_true_eq] at h
  refine ⟨fun hk => ?_, fun hk => ?_⟩
  · have := h.1.1.1.1.2.2; omega
  · rcases h.2 with h | h
    · omega
    · exact h
/-- A node of a tree has few parts. -/
theorem right_few {x : Nd} (h : rightB x = true) : x.l.length ≤ 30 := by
  obtain ⟨h1, h2⟩ := rB_parts h
  by_cases hk : x.kind = 11 ∨ x.kind = 14
  · have := h2 hk
    simp only [labB, Bool.and_eq_true, decide_eq_true_eq] at this
    exact this.2.1.1
  · rw [h1 (by omega)]; omega
theorem may_parts {l : List Nd} (h : may l = 0) : ∀ x ∈ l, x.l.length ≤ 30 := fun x hx => right_few ((may_zero h).2.1.1 x hx)
theorem exprInfo : (Tryd.prog.info? 24).map (fun i => (i.zero, i.size, i.bytes)) = some (some (.agg #[.slice none 0 0]), 1, 24) := by kernel_rfl
/-- Behind the copy of the node's parts, its store into the node's box, and the row's beginning. -/
theorem joins_mid {w w3 : World} {m g c : Nat} {x y : Nd} {FD : List Fld} {fv : Value} (hm : FD.length = m) (hown : w3.ownsRow (w.heap.size + 1) 75 3 (.slice (some ⟨g, 0, none⟩) m c) m (fCells FD))
    (hgrow : ((w.alloc (.cells (ndArr x fv) 27)).alloc (.cells #[] 75)).grownBy w3 (some (w.heap.size + 1))) (hxy : ∀ v, ndArr x v = ndArr y v) (hy : y.l = FD) :
    w3.heap[w.heap.size]? = some (.cells (ndArr x fv) 27 (0, 0)) ∧ KSt w ((w3.setCell ⟨w.heap.size, 7, none⟩ (.slice (some ⟨g, 0, none⟩) m c)).alloc (.cells #[] 24)) y (.slice (some ⟨g, 0, none⟩) m c) [] (.slice (some ⟨w3.heap.size, 0, none⟩) 0 0) 0 := by
  have hsz := hgrow.size
  simp only [World.size_alloc] at hsz
  have hk : ∀ g, g < w.heap.size + 1 → w3.heap[g]? = (w.alloc (.cells (ndArr x fv) 27)).heap[g]? := fun g hg => by
    rw [hgrow.block g (by simp; omega) (by simp; omega)]
    exact Below.heap_alloc _ _ _ (by simp; omega)
  have k3 : w3.heap[w.heap.size]? = some (.cells (ndArr x fv) 27 (0, 0)) := (hk _ (by omega)).trans (newAt rfl)
  have hlt := (Array.getElem?_eq_some_iff.1 k3).1
  refine ⟨k3, ?_⟩
  obtain ⟨W, hW⟩ : ∃ W, w3.setCell ⟨w.heap.size, 7, none⟩ (.slice (some ⟨g, 0, none⟩) m c) = W := ⟨_, rfl⟩
  have hs : W.heap.size = w3.heap.size := by rw [← hW]; simp
  have h0 : W.heap[w.heap.size]? = some (.cells (ndArr y (.slice (some ⟨g, 0, none⟩) m c)) 27 (0, 0)) := by rw [← hW, ← hxy]; exact blk_set k3
  have h1 : OwnF (w.heap.size + 1) W (.slice (some ⟨g, 0, none⟩) m c) y.l := by
    rw [hy, ← hW]
    subst hm
    exact hown.kept (grown_set w3 _ 7 _) (by
      rcases hown.2 with ⟨h, _⟩ | ⟨g', cap, cur, h, hb, _⟩
      · cases h
      · cases h; exact .inr (by simp [Value.ownBlock]; omega))
  have h2 : Below w.heap.size w W := by
    rw [← hW]
    have hb : Below w.heap.size w w3 := ⟨hgrow.os, hgrow.tape, hgrow.output, by omega, fun k hlt => (hk k (by omega)).trans (Below.heap_alloc w _ k hlt)⟩
    exact hb.setCell (p := ⟨w.heap.size, 7, none⟩) (Nat.le_refl _) _
  have h3 := World.ownsRow_made (base := w.heap.size + 1) (e := 24) (size := 1) W #[] 0 (by omega) (by decide) rfl
  rw [hs] at h3
  rw [hW]
  exact ⟨nextAt h0, World.ownsRow.alloc h1 _, h3, rfl, fun p hp => by simp at hp, h2.alloc h2.size _⟩
theorem int_own {W : World} {B g : Nat} (h : W.heap[g]? = some (.cells (ndArr int1 (.slice none 0 0)) 27 (0, 0))) (hg : B ≤ g) : OwnN B W (.slice (some ⟨g, 0, none⟩) 1 1) [(int1, .slice none 0 0)] := by
  refine ⟨⟨rfl, .inr ⟨g, 1, _, rfl, hg, h, by decide, by decide, rfl, rfl⟩⟩, fun x hx => ?_⟩
  obtain rfl : x = (int1, .slice none 0 0) := by simpa using hx
  exact World.ownsRow_nil _ _ _ _
/-- The box that holds a tree. -/
def XSt (w W : World) (x : Nd) (F : Value) (es : List (List Nd × Value)) (v : Value) (q : Nat) (e : List Nd) (u : Value) (b : Nat) : Prop := KSt w W x F es v q ∧ Tr w W e u ∧ W.heap[b]? = some (.cells #[u] 24 (0, 0))
theorem XSt.next {w W W' : World} {x : Nd} {F v u : Value} {es : List (List Nd × Value)} {e : List Nd} {q b : Nat} (h : XSt w W x F es v q e u b) (hb : Below W.heap.size W W') : XSt w W' x F es v q e u b := ⟨h.1.next hb, h.2.1.next hb, blk_next h.2.2 hb⟩
theorem XSt.nodes {w W : World} {x : Nd} {F v u : Value} {es : List (List Nd × Value)} {e : List Nd} {q b : Nat} (h : XSt w W x F es v q e u b) : Nodes W.heap.size W u e := h.2.1.nodes h.1.2.2.2.2.2
theorem XSt.c {w W : World} {x : Nd} {F v u : Value} {es : List (List Nd × Value)} {e : List Nd} {q b : Nat} (h : XSt w W x F es v q e u b) : W.cell? ⟨b, 0, none⟩ = some u := (Blk_cell h.2.2 0).trans rfl
/-- A box with the tree of one int. -/
theorem XSt.int {w W : World} {x : Nd} {F v : Value} {es : List (List Nd × Value)} {q : Nat} (h : KSt w W x F es v q) :
    XSt w ((W.alloc (.cells (ndArr int1 (.slice none 0 0)) 27)).alloc (.cells #[.slice (some ⟨W.heap.size, 0, none⟩) 1 1] 24)) x F es v q [int1] (.slice (some ⟨W.heap.size, 0, none⟩) 1 1) (W.heap.size + 1) :=
  ⟨h.next (((Below.refl _ W).alloc (Nat.le_refl _) _).alloc (by simp) _), .inr ⟨_, rfl, int_own (g := W.heap.size) (nextAt (newAt rfl)) h.size⟩, newAt (by simp)⟩
theorem int_low {W : World} {p : Addr} {v : Value} (h : W.cell? p = some v) (hp : p.block < W.heap.size) : ((W.alloc (.cells (ndArr int1 (.slice none 0 0)) 27)).alloc (.cells #[.slice (some ⟨W.heap.size, 0, none⟩) 1 1] 24)).cell? p = some v :=
  ((((Below.refl _ W).alloc (Nat.le_refl _) (.cells (ndArr int1 (.slice none 0 0)) 27)).alloc (by simp) (.cells #[.slice (some ⟨W.heap.size, 0, none⟩) 1 1] 24)).cell hp).trans h
/-- A box with a tree that came in. -/
theorem XSt.got {w W : World} {x : Nd} {F v u : Value} {es : List (List Nd × Value)} {e : List Nd} {q : Nat} (h : KSt w W x F es v q) (ht : Nodes w.heap.size w u e) :
    XSt w ((W.alloc (.cells (ndArr int1 (.slice none 0 0)) 27)).alloc (.cells #[u] 24)) x F es v q e u (W.heap.size + 1) :=
  ⟨h.next (((Below.refl _ W).alloc (Nat.le_refl _) _).alloc (by simp) _), .inl ht, newAt (by simp)⟩
/-- Behind a copy of the row. -/
theorem KSt.copy {w W W' : World} {x : Nd} {F v v2 : Value} {es : List (List Nd × Value)} {q : Nat} {o : Obj} (h : KSt w W x F es v q) (hg : (W.alloc o).grownBy W' (some W.heap.size)) (hr : W'.ownsRow W.heap.size 24 1 v2 (0 + q) ([] ++ es.map Prod.snd)) : KSt w W' x F es v q ∧ Exprs W'.heap.size W' v2 (es.map Prod.fst) := by
  have hsz := hg.size
  simp only [World.size_alloc] at hsz
  have hb : Below W.heap.size W W' := ⟨hg.os, hg.tape, hg.output, by omega, fun k hlt => (hg.block k (by simp; omega) (by simp; omega)).trans (Below.heap_alloc W o k hlt)⟩
  have h' := h.next hb
  rw [Nat.zero_add, List.nil_append] at hr
  exact ⟨h', exprs_of hr h.2.2.2.1 fun p hp => (h'.2.2.2.2.1 p hp).nodes h'.2.2.2.2.2⟩
theorem KSt.cells {w W : World} {x : Nd} {F : Value} {es : List (List Nd × Value)} {g k q : Nat} (h : KSt w W x F es (.slice (some ⟨g, 0, none⟩) q k) q) (o : Obj) : ∀ j u, (es.map Prod.snd)[j]? = some u → (W.alloc o).cell? ((⟨g, 0, none⟩ : Addr).add j) = some u :=
  World.ownsRow.cells (h.2.2.1.alloc o) (g := g) rfl
theorem KSt.one {w W : World} {x : Nd} {F v : Value} {es : List (List Nd × Value)} {q : Nat} (h : KSt w W x F es v q) : ∀ u ∈ es.map Prod.snd, u.oneCell' = true := fun u hu => by
  obtain ⟨p, hp, rfl⟩ := List.mem_map.1 hu
  obtain ⟨A, c, e⟩ := (h.2.2.2.2.1 p hp).slice
  rw [e]; rfl
theorem made24 (W : World) : (W.alloc (.cells #[] 24)).ownsRow W.heap.size 24 1 (.slice (some ⟨W.heap.size, 0, none⟩) 0 0) 0 [] := World.ownsRow_made (base := W.heap.size) (e := 24) (size := 1) W #[] 0 (Nat.le_refl _) (by decide) rfl
end Go.Proofs.YteikpeaakmbihaaDoor.T
