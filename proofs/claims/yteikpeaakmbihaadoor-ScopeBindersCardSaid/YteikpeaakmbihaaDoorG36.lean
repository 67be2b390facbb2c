/- Joined by program: LMaysA, LMaysH. -/
import Derived.Test.YteikpeaakmbihaaDoorG34
import Derived.Test.YteikpeaakmbihaaDoorG02
import Derived.Test.YteikpeaakmbihaaDoorG35
import Derived.Test.YteikpeaakmbihaaDoorG22
import Derived.Test.YteikpeaakmbihaaDoorG24
/- TreeMays: what it calls, in the words of its walk. -/
namespace Go.Proofs.YteikpeaakmbihaaDoor.T
open Go.RowKit Go.Shelf
theorem cut_cut (x : Nd) : cut (cut x) = cut x := by
  simp only [cut, List.take_take, Nat.min_self]
theorem few_few (l : List Nd) : few (few l) = few l := by
  unfold few
  rw [← List.map_take, List.take_take, Nat.min_self, List.map_map]
  congr 1
  funext x
  exact cut_cut x
theorem few_len (l : List Nd) : (few l).length ≤ 700 := by
  unfold few; rw [List.length_map, List.length_take]; omega
/-- What is kept of each node is small. -/
theorem fit_cut {x : Nd} (h : Fit x) : Small (cut x) ∧ Clonable (cut x) := by
  obtain ⟨h1, h2, h3, h4⟩ := h
  have e : reachBytes = 140737488351232 := rfl
  rw [e] at h1 h2
  have h5 : (cut x).l.length ≤ 60 := by simp only [cut, List.length_take]; omega
  have h6 : ∀ f ∈ (cut x).l, f.nm.size ≤ 140737488351232 ∧ f.vr.size ≤ 140737488351232 := fun f hf => h4 f (List.mem_of_mem_take hf)
  refine ⟨⟨?_, ?_, by omega, fun f hf => ?_⟩, ⟨?_, ?_, by omega, fun f hf => ?_⟩⟩
  · show x.nm.size ≤ _; omega
  · show x.s.size ≤ _; omega
  · have := h6 f hf; omega
  · show x.nm.size ≤ _; omega
  · show x.s.size ≤ _; omega
  · have := h6 f hf; omega
theorem fit_few {l : List Nd} (h : ∀ x ∈ l, Fit x) : ∀ x ∈ few l, Small x ∧ Clonable x := fun x hx => by
  obtain ⟨y, hy, rfl⟩ := List.mem_map.1 hx
  exact fit_cut (h y (List.mem_of_mem_take hy))
/-- Few, in a law's words. -/
theorem few_nodes (l m : List Nd) (L : Nat) (hm : few l = m) (hL : m.length = L) (vl : Value) (w : World) (hv : Nodes w.heap.size w vl l) :
    Calls Tryd.prog 10 #[.agg #[vl]] w fun e w' => ∃ A c, e = .returned (.agg #[.slice A L c]) ∧ Nodes w'.heap.size w' (.slice A L c) m ∧ Below w.heap.size w w' := by
  refine (few_any vl l w hv).mono ?_
  rintro e w' ⟨v, ps, rfl, hps, hown, hb⟩
  obtain ⟨A, c, rfl⟩ := own_slice hown
  have hl : ps.length = L := by rw [← hL, ← hm, ← hps, List.length_map]
  have hn := own_nodes hown
  rw [hps, hm] at hn
  rw [hl] at hn ⊢
  exact ⟨A, c, rfl, hn, hb⟩
/-- Depth, the document's, at the last node. -/
theorem rdepth_root (l : List Nd) (A : Option Addr) (c : Nat) (hm : may l = 0) (w : World) (hN : Nodes w.heap.size w (.slice A l.length c) l) (HS : ∀ x ∈ l, Small x) :
    Calls Tryd.prog 12 #[.agg #[.slice A l.length c], .int .i64 ((l.length : Int) - 1)] w fun e w' => e = .returned (.int .i64 (deepOf l)) ∧ Below w.heap.size w w' := by
  obtain ⟨h1, h6⟩ := may_big hm
  obtain ⟨A', c', e, hc, _, hq⟩ := hN
  cases e
  obtain ⟨b, o, rfl, hb, hn⟩ := hq (by omega)
  have h := rdepth_any l l.length c b o (Lib.hid rfl) (by omega) (Lib.hid (may_zero hm).2.1.2.1) (Lib.hid fun x hx => (HS x hx).2.2.1) (l.length - 1) (by omega) w hb hn
  rw [show ((l.length - 1 : Nat) : Int) = (l.length : Int) - 1 by omega] at h
  unfold deepOf root
  rw [if_pos hm]
  exact h
/-- A row of whole numbers that lies in a world. -/
def Rw (W : World) (g : Nat) (K : List Int) : Prop := Row0 W g K ∧ g < W.heap.size
theorem Rw.of {B g c : Nat} {W : World} {K : List Int} (h : Ints B W (.slice (some ⟨g, 0, none⟩) K.length c) K) : Rw W g K := ⟨ints_cells h, (World.ownsRow.lt h g rfl).2⟩
theorem Rw.next {W W' : World} {g : Nat} {K : List Int} (h : Rw W g K) (hb : Below W.heap.size W W') : Rw W' g K :=
  ⟨fun j z hz => (hb.cell (p := ⟨g, j, none⟩) h.2).trans (h.1 j z hz), Nat.lt_of_lt_of_le h.2 hb.size⟩
theorem Rw.drew {W : World} {g : Nat} {K : List Int} (h : Rw W g K) : Rw W.drew g K := ⟨Row0.drew h.1, h.2⟩
/-- SameInts of two rows that are the same. -/
theorem sameInts_self (C : List Int) (n ga gc ca cc : Nat) (w : World) (hn : C.length = n) (hC : n ≤ 10000000) (hA : Rw w ga C) (hB : Rw w gc C) :
    Calls Tryd.prog 15 #[.slice (some ⟨ga, 0, none⟩) n ca, .slice (some ⟨gc, 0, none⟩) n cc] w fun e w' => e = .returned (.bool true) ∧ Below w.heap.size w w' := by
  subst hn
  have h := sameInts_any C C ga gc ca cc w hC hC (Lib.hid hA.1) (Lib.hid hB.1)
  rwa [show (C == C) = true by simp] at h
/-- Kids, in a law's words. -/
theorem kids_law {f : Nat} {x : Nd} {K : List Int} {n : Nat} {W : World} {v : Value} (h : Calls Tryd.prog f #[.agg (ndArr x v)] W (KidsPost K W.heap.size W)) (hn : K.length = n) :
    Calls Tryd.prog f #[.agg #[.int .i64 x.kind, .int .i64 x.a, .int .i64 x.b, .int .i64 x.c, .int .i64 x.n, .string x.nm, .string x.s, v, .int .i64 x.pos]] W fun e W' => ∃ g c, e = .returned (.slice (some ⟨g, 0, none⟩) n c) ∧ Rw W' g K ∧ Below W.heap.size W W' := by
  subst hn
  refine Calls.mono h ?_
  rintro e W' ⟨g, c, rfl, hi, hb⟩
  exact ⟨g, c, rfl, Rw.of hi, hb⟩
/-- What stays through the law's walk: what lay below, the tree's nodes, both boxes, the node's parts. -/
def MSt (w W : World) (A : Option Addr) (k L : Nat) (ml : List Nd) (x : Nd) (v : Value) : Prop :=
  Below w.heap.size w W ∧ Nodes W.heap.size W (.slice A L k) ml ∧ W.heap[w.heap.size]? = some (.cells #[.slice A L k] 24 (0, 0)) ∧ W.heap[w.heap.size + 1]? = some (.cells (ndArr x v) 27 (0, 0)) ∧ Flds W.heap.size W v (cut x).l
theorem MSt.next {w W W' : World} {A : Option Addr} {k L : Nat} {ml : List Nd} {x : Nd} {v : Value} (h : MSt w W A k L ml x v) (hb : Below W.heap.size W W') : MSt w W' A k L ml x v :=
  ⟨below_next h.1 hb (Nat.le_refl _), (h.2.1.below hb).mono hb.size, blk_next h.2.2.1 hb, blk_next h.2.2.2.1 hb, (h.2.2.2.2.below hb).mono hb.size⟩
theorem MSt.drew {w W : World} {A : Option Addr} {k L : Nat} {ml : List Nd} {x : Nd} {v : Value} (h : MSt w W A k L ml x v) : MSt w W.drew A k L ml x v := h.next (Below.refl _ _).drew
theorem MSt.c2 {w W : World} {A : Option Addr} {k L : Nat} {ml : List Nd} {x : Nd} {v : Value} (h : MSt w W A k L ml x v) : W.cell? ⟨w.heap.size, 0, none⟩ = some (.slice A L k) := (Blk_cell h.2.2.1 0).trans rfl
end Go.Proofs.YteikpeaakmbihaaDoor.T
/- TreeMays: laws of its walk. -/
namespace Go.Proofs.YteikpeaakmbihaaDoor.T
open Go.RowKit Go.Shelf
/-- append to an empty row of the call's own, of a slice that may be none. -/
theorem wpList_append_opt {P : Program} {w : World} {ops : Array Oper} {rest : List Oper} {o : Oper} {a : Act} {Q : Exit → Act → World → Prop} (hgd : o.guard = none) (s x : Operand) (t : TypeId)
    (ho : o.op = .call { callee := .builtin .append, args := #[s, x], argTypes := #[t, t] })
    (base : Nat) (e : TypeId) (i : TypeInfo) (z : Value) (size bytes : Nat) (ht : P.underlying t = some (.slice e)) (hi : P.info? e = some i) (hz : i.zero = some z)
    (hsize : i.size = size) (hby : i.bytes = bytes) (hzs : z.cells.size = size) (hsz : 0 < size)
    (g c0 : Nat) (hs : a.eval s = .slice (some ⟨g, 0, none⟩) 0 c0) (hown : w.ownsRow base e size (.slice (some ⟨g, 0, none⟩) 0 c0) 0 [])
    (FA : Option Addr) (m c : Nat) (news : List Value) (hx : a.eval x = .slice FA m c) (hnil : FA = none → m = 0 ∧ c = 0) (hl : news.length = m * size) (hnews : ∀ ad, FA = some ad → ∀ j u, news[j]? = some u → w.cell? (ad.add j) = some u) (h1 : ∀ u ∈ news, u.oneCell' = true)
    (h63 : m ≤ maxLen) (hbytes : m * bytes ≤ 140737488355328) (hbase : base ≤ w.heap.size)
    (h : ∀ g' c' w', w'.ownsRow base e size (.slice (some ⟨g', 0, none⟩) m c') m news → w.grownBy w' (some g) → wpList P ops Q rest (a.put o.dst (.slice (some ⟨g', 0, none⟩) m c')) w') : wpList P ops Q (o :: rest) a w := by
  cases FA with
  | none =>
    obtain ⟨rfl, rfl⟩ := hnil rfl
    obtain rfl : news = [] := List.eq_nil_of_length_eq_zero (by omega)
    exact wpList_append_own_none hgd s x t ho base e i size ht hi _ 0 [] hs hown hx (h g c0 w hown (World.grownBy.refl _ _))
  | some ad =>
    refine wpList_append_own _ hgd s x t ho base e i z size bytes ht hi hz hsize hby hzs hsz _ 0 [] hs hown ad m c news hx hl (hnews ad rfl) h1 (by omega) (by rw [Nat.zero_add]; exact hbytes) hbase ?_
    intro v' w' hown' hg hn
    simp only [Nat.zero_add, List.nil_append] at hown'
    obtain ⟨g', c', rfl, _, _⟩ := row_some hown' (fun e => by have := (hn.1 e).1; cases this)
    exact h g' c' w' hown' hg
theorem own_slice_len {B L : Nat} {W : World} {v : Value} {ps : List (Nd × Value)} {l m : List Nd} (h : OwnN B W v ps) (hps : ps.map Prod.fst = l) (hm : l = m) (hL : m.length = L) : ∃ A c, v = .slice A L c := by
  obtain ⟨A, c, h⟩ := own_slice h
  refine ⟨A, c, ?_⟩
  rw [h, ← hL, ← hm, ← hps, List.length_map]
/-- Behind the copy of the one node's parts, and its store into the node's box. -/
theorem mays_mid {w w1 w3 : World} {m sz : Nat} (hs : w1.heap.size = sz) {x : Nd} {FD : List Fld} {u fv v v1 : Value} {ps : List (Nd × Value)} (hB : Below w.heap.size w w1) (h2 : w1.heap[w.heap.size]? = some (.cells #[u] 24 (0, 0))) (h3 : w1.heap[w.heap.size + 1]? = some (.cells (ndArr x fv) 27 (0, 0))) (hm : FD.length = m)
    (ho : OwnN (w.heap.size + 2) w1 v ps) (hown : w3.ownsRow sz 75 3 v1 m (fCells FD)) (hgrow : (w1.alloc (.cells #[] 75)).grownBy w3 (some sz)) :
    w3.heap[w.heap.size + 1]? = some (.cells (ndArr x fv) 27 (0, 0)) ∧ (w3.setCell ⟨w.heap.size + 1, 7, none⟩ v1).heap[w.heap.size + 1]? = some (.cells (ndArr x v1) 27 (0, 0)) ∧ (w3.setCell ⟨w.heap.size + 1, 7, none⟩ v1).heap[w.heap.size]? = some (.cells #[u] 24 (0, 0)) ∧
      OwnF (w.heap.size + 2) (w3.setCell ⟨w.heap.size + 1, 7, none⟩ v1) v1 FD ∧ OwnN (w.heap.size + 2) (w3.setCell ⟨w.heap.size + 1, 7, none⟩ v1) v ps ∧ Below w.heap.size w (w3.setCell ⟨w.heap.size + 1, 7, none⟩ v1) := by
  subst hs
  have l2 := (Array.getElem?_eq_some_iff.1 h2).1
  have l3 := (Array.getElem?_eq_some_iff.1 h3).1
  have hsz := hgrow.size
  rw [World.size_alloc] at hsz
  have hk : ∀ g, g < w1.heap.size → w3.heap[g]? = w1.heap[g]? := fun g hg => by
    rw [hgrow.block g (by rw [World.size_alloc]; omega) (by simp; omega)]
    exact Below.heap_alloc _ _ _ hg
  have k3 := (hk _ l3).trans h3
  refine ⟨k3, blk_set k3, ?_, ?_, ?_, ?_⟩
  · rw [set_far _ _ _ _ _ (by omega)]; exact (hk _ l2).trans h2
  · subst hm
    exact row_mono (hown.kept (grown_set w3 _ 7 v1) (by
      rcases hown.2 with ⟨rfl, _⟩ | ⟨g, cap, cur, rfl, hb, _⟩
      · exact .inl rfl
      · exact .inr (by simp [Value.ownBlock]; omega))) (by omega)
  · exact ownN_heap ho fun g hg hl => by rw [set_far _ _ _ _ _ (by omega)]; exact hk g hl
  · refine (hB.trans ⟨hgrow.os, hgrow.tape, hgrow.output, by omega, fun k hlt => hk k (by have := hB.size; omega)⟩).setCell (p := ⟨w.heap.size + 1, 7, none⟩) (by show w.heap.size ≤ w.heap.size + 1; omega) _
theorem flds_src {w w1 : World} {FA : Option Addr} {n q : Nat} {x : Nd} {FD : List Fld} (hb : Below w.heap.size w w1) (hpos : 0 < n → ∃ b o, FA = some (⟨b, o, none⟩ : Addr) ∧ b < w.heap.size ∧ FldsAt w b o x.l) (hn : x.l.length = n) (hq : x.l.take q = FD) (o1 : Obj) :
    ∀ ad, FA = some ad → ∀ j u, (fCells FD)[j]? = some u → (w1.alloc o1).cell? (ad.add j) = some u := fun ad had j u hu => by
  have h0 : 0 < n := by
    rcases Nat.eq_zero_or_pos n with h | h
    · rw [h] at hn
      rw [← hq, List.eq_nil_of_length_eq_zero hn] at hu
      simp [fCells] at hu
    · exact h
  obtain ⟨b, o, e, hlt, hf⟩ := hpos h0
  rw [had] at e; cases e
  subst hq
  have h := fCells_of (hf.below hb hlt) q j u hu
  rw [Addr.add_lit] at h ⊢
  have e1 := ((Below.refl w1.heap.size w1).alloc (Nat.le_refl _) o1).cell (p := ⟨b, o + j, none⟩) (by show b < w1.heap.size; have := hb.size; omega)
  rw [e1]; exact h
end Go.Proofs.YteikpeaakmbihaaDoor.T
