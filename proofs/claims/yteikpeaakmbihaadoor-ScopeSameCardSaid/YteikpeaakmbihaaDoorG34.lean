/- Joined by program: LMaysA, LMaysH, RSame, PParents, PSubLaw. -/
import Derived.Test.YteikpeaakmbihaaDoorG32
import Derived.Test.YteikpeaakmbihaaDoorG02
import Derived.Test.YteikpeaakmbihaaDoorG33
import Derived.Test.YteikpeaakmbihaaDoorG22
import Derived.Test.YteikpeaakmbihaaDoorG20
import Derived.Test.YteikpeaakmbihaaDoorG31
import Derived.Test.YteikpeaakmbihaaDoorG28
/- TreeMays: what it calls, in the words of its walk. -/
namespace Go.Proofs.YteikpeaakmbihaaDoor.T
open Go.RowKit Go.Shelf
theorem cut_cut (x : Nd) : cut (cut x) = cut x := by
  simp only [cut, List.take_take, Nat.min_self]
theorem few_few (l : List Nd) : few (few l) = few l := by
  unfold few
  rw [← List.map_take, List.take_take, Nat.min_self, List.map_map]
  congr 1
  funext x
  exact cut_cut x
theorem few_len (l : List Nd) : (few l).length ≤ 700 := by
  unfold few; rw [List.length_map, List.length_take]; omega
/-- What is kept of each node is small. -/
theorem fit_cut {x : Nd} (h : Fit x) : Small (cut x) ∧ Clonable (cut x) := by
  obtain ⟨h1, h2, h3, h4⟩ := h
  have e : reachBytes = 140737488351232 := rfl
  rw [e] at h1 h2
  have h5 : (cut x).l.length ≤ 60 := by simp only [cut, List.length_take]; omega
  have h6 : ∀ f ∈ (cut x).l, f.nm.size ≤ 140737488351232 ∧ f.vr.size ≤ 140737488351232 := fun f hf => h4 f (List.mem_of_mem_take hf)
  refine ⟨⟨?_, ?_, by omega, fun f hf => ?_⟩, ⟨?_, ?_, by omega, fun f hf => ?_⟩⟩
  · show x.nm.size ≤ _; omega
  · show x.s.size ≤ _; omega
  · have := h6 f hf; omega
  · show x.nm.size ≤ _; omega
  · show x.s.size ≤ _; omega
  · have := h6 f hf; omega
theorem fit_few {l : List Nd} (h : ∀ x ∈ l, Fit x) : ∀ x ∈ few l, Small x ∧ Clonable x := fun x hx => by
  obtain ⟨y, hy, rfl⟩ := List.mem_map.1 hx
  exact fit_cut (h y (List.mem_of_mem_take hy))
/-- Few, in a law's words. -/
theorem few_nodes (l m : List Nd) (L : Nat) (hm : few l = m) (hL : m.length = L) (vl : Value) (w : World) (hv : Nodes w.heap.size w vl l) :
    Calls Tryd.prog 10 #[.agg #[vl]] w fun e w' => ∃ A c, e = .returned (.agg #[.slice A L c]) ∧ Nodes w'.heap.size w' (.slice A L c) m ∧ Below w.heap.size w w' := by
  refine (few_any vl l w hv).mono ?_
  rintro e w' ⟨v, ps, rfl, hps, hown, hb⟩
  obtain ⟨A, c, rfl⟩ := own_slice hown
  have hl : ps.length = L := by rw [← hL, ← hm, ← hps, List.length_map]
  have hn := own_nodes hown
  rw [hps, hm] at hn
  rw [hl] at hn ⊢
  exact ⟨A, c, rfl, hn, hb⟩
/-- Depth, the document's, at the last node. -/
theorem rdepth_root (l : List Nd) (A : Option Addr) (c : Nat) (hm : may l = 0) (w : World) (hN : Nodes w.heap.size w (.slice A l.length c) l) (HS : ∀ x ∈ l, Small x) :
    Calls Tryd.prog 12 #[.agg #[.slice A l.length c], .int .i64 ((l.length : Int) - 1)] w fun e w' => e = .returned (.int .i64 (deepOf l)) ∧ Below w.heap.size w w' := by
  obtain ⟨h1, h6⟩ := may_big hm
  obtain ⟨A', c', e, hc, _, hq⟩ := hN
  cases e
  obtain ⟨b, o, rfl, hb, hn⟩ := hq (by omega)
  have h := rdepth_any l l.length c b o (Lib.hid rfl) (by omega) (Lib.hid (may_zero hm).2.1.2.1) (Lib.hid fun x hx => (HS x hx).2.2.1) (l.length - 1) (by omega) w hb hn
  rw [show ((l.length - 1 : Nat) : Int) = (l.length : Int) - 1 by omega] at h
  unfold deepOf root
  rw [if_pos hm]
  exact h
/-- A row of whole numbers that lies in a world. -/
def Rw (W : World) (g : Nat) (K : List Int) : Prop := Row0 W g K ∧ g < W.heap.size
theorem Rw.of {B g c : Nat} {W : World} {K : List Int} (h : Ints B W (.slice (some ⟨g, 0, none⟩) K.length c) K) : Rw W g K := ⟨ints_cells h, (World.ownsRow.lt h g rfl).2⟩
theorem Rw.next {W W' : World} {g : Nat} {K : List Int} (h : Rw W g K) (hb : Below W.heap.size W W') : Rw W' g K :=
  ⟨fun j z hz => (hb.cell (p := ⟨g, j, none⟩) h.2).trans (h.1 j z hz), Nat.lt_of_lt_of_le h.2 hb.size⟩
theorem Rw.drew {W : World} {g : Nat} {K : List Int} (h : Rw W g K) : Rw W.drew g K := ⟨Row0.drew h.1, h.2⟩
/-- SameInts of two rows that are the same. -/
theorem sameInts_self (C : List Int) (n ga gc ca cc : Nat) (w : World) (hn : C.length = n) (hC : n ≤ 10000000) (hA : Rw w ga C) (hB : Rw w gc C) :
    Calls Tryd.prog 15 #[.slice (some ⟨ga, 0, none⟩) n ca, .slice (some ⟨gc, 0, none⟩) n cc] w fun e w' => e = .returned (.bool true) ∧ Below w.heap.size w w' := by
  subst hn
  have h := sameInts_any C C ga gc ca cc w hC hC (Lib.hid hA.1) (Lib.hid hB.1)
  rwa [show (C == C) = true by simp] at h
/-- Kids, in a law's words. -/
theorem kids_law {f : Nat} {x : Nd} {K : List Int} {n : Nat} {W : World} {v : Value} (h : Calls Tryd.prog f #[.agg (ndArr x v)] W (KidsPost K W.heap.size W)) (hn : K.length = n) :
    Calls Tryd.prog f #[.agg #[.int .i64 x.kind, .int .i64 x.a, .int .i64 x.b, .int .i64 x.c, .int .i64 x.n, .string x.nm, .string x.s, v, .int .i64 x.pos]] W fun e W' => ∃ g c, e = .returned (.slice (some ⟨g, 0, none⟩) n c) ∧ Rw W' g K ∧ Below W.heap.size W W' := by
  subst hn
  refine Calls.mono h ?_
  rintro e W' ⟨g, c, rfl, hi, hb⟩
  exact ⟨g, c, rfl, Rw.of hi, hb⟩
/-- What stays through the law's walk: what lay below, the tree's nodes, both boxes, the node's parts. -/
def MSt (w W : World) (A : Option Addr) (k L : Nat) (ml : List Nd) (x : Nd) (v : Value) : Prop :=
  Below w.heap.size w W ∧ Nodes W.heap.size W (.slice A L k) ml ∧ W.heap[w.heap.size]? = some (.cells #[.slice A L k] 24 (0, 0)) ∧ W.heap[w.heap.size + 1]? = some (.cells (ndArr x v) 27 (0, 0)) ∧ Flds W.heap.size W v (cut x).l
theorem MSt.next {w W W' : World} {A : Option Addr} {k L : Nat} {ml : List Nd} {x : Nd} {v : Value} (h : MSt w W A k L ml x v) (hb : Below W.heap.size W W') : MSt w W' A k L ml x v :=
  ⟨below_next h.1 hb (Nat.le_refl _), (h.2.1.below hb).mono hb.size, blk_next h.2.2.1 hb, blk_next h.2.2.2.1 hb, (h.2.2.2.2.below hb).mono hb.size⟩
theorem MSt.drew {w W : World} {A : Option Addr} {k L : Nat} {ml : List Nd} {x : Nd} {v : Value} (h : MSt w W A k L ml x v) : MSt w W.drew A k L ml x v := h.next (Below.refl _ _).drew
theorem MSt.c2 {w W : World} {A : Option Addr} {k L : Nat} {ml : List Nd} {x : Nd} {v : Value} (h : MSt w W A k L ml x v) : W.cell? ⟨w.heap.size, 0, none⟩ = some (.slice A L k) := (Blk_cell h.2.2.1 0).trans rfl
end Go.Proofs.YteikpeaakmbihaaDoor.T
/- TreeMays: laws of its walk. -/
namespace Go.Proofs.YteikpeaakmbihaaDoor.T
open Go.RowKit Go.Shelf
/-- append to an empty row of the call's own, of a slice that may be none. -/
theorem wpList_append_opt {P : Program} {w : World} {ops : Array Oper} {rest : List Oper} {o : Oper} {a : Act} {Q : Exit → Act → World → Prop} (hgd : o.guard = none) (s x : Operand) (t : TypeId)
    (ho : o.op = .call { callee := .builtin .append, args := #[s, x], argTypes := #[t, t] })
    (base : Nat) (e : TypeId) (i : TypeInfo) (z : Value) (size bytes : Nat) (ht : P.underlying t = some (.slice e)) (hi : P.info? e = some i) (hz : i.zero = some z)
    (hsize : i.size = size) (hby : i.bytes = bytes) (hzs : z.cells.size = size) (hsz : 0 < size)
    (g c0 : Nat) (hs : a.eval s = .slice (some ⟨g, 0, none⟩) 0 c0) (hown : w.ownsRow base e size (.slice (some ⟨g, 0, none⟩) 0 c0) 0 [])
    (FA : Option Addr) (m c : Nat) (news : List Value) (hx : a.eval x = .slice FA m c) (hnil : FA = none → m = 0 ∧ c = 0) (hl : news.length = m * size) (hnews : ∀ ad, FA = some ad → ∀ j u, news[j]? = some u → w.cell? (ad.add j) = some u) (h1 : ∀ u ∈ news, u.oneCell' = true)
    (h63 : m ≤ maxLen) (hbytes : m * bytes ≤ 140737488355328) (hbase : base ≤ w.heap.size)
    (h : ∀ g' c' w', w'.ownsRow base e size (.slice (some ⟨g', 0, none⟩) m c') m news → w.grownBy w' (some g) → wpList P ops Q rest (a.put o.dst (.slice (some ⟨g', 0, none⟩) m c')) w') : wpList P ops Q (o :: rest) a w := by
  cases FA with
  | none =>
    obtain ⟨rfl, rfl⟩ := hnil rfl
    obtain rfl : news = [] := List.eq_nil_of_length_eq_zero (by omega)
    exact wpList_append_own_none hgd s x t ho base e i size ht hi _ 0 [] hs hown hx (h g c0 w hown (World.grownBy.refl _ _))
  | some ad =>
    refine wpList_append_own _ hgd s x t ho base e i z size bytes ht hi hz hsize hby hzs hsz _ 0 [] hs hown ad m c news hx hl (hnews ad rfl) h1 (by omega) (by rw [Nat.zero_add]; exact hbytes) hbase ?_
    intro v' w' hown' hg hn
    simp only [Nat.zero_add, List.nil_append] at hown'
    obtain ⟨g', c', rfl, _, _⟩ := row_some hown' (fun e => by have := (hn.1 e).1; cases this)
    exact h g' c' w' hown' hg
theorem own_slice_len {B L : Nat} {W : World} {v : Value} {ps : List (Nd × Value)} {l m : List Nd} (h : OwnN B W v ps) (hps : ps.map Prod.fst = l) (hm : l = m) (hL : m.length = L) : ∃ A c, v = .slice A L c := by
  obtain ⟨A, c, h⟩ := own_slice h
  refine ⟨A, c, ?_⟩
  rw [h, ← hL, ← hm, ← hps, List.length_map]
/-- Behind the copy of the one node's parts, and its store into the node's box. -/
theorem mays_mid {w w1 w3 : World} {m sz : Nat} (hs : w1.heap.size = sz) {x : Nd} {FD : List Fld} {u fv v v1 : Value} {ps : List (Nd × Value)} (hB : Below w.heap.size w w1) (h2 : w1.heap[w.heap.size]? = some (.cells #[u] 24 (0, 0))) (h3 : w1.heap[w.heap.size + 1]? = some (.cells (ndArr x fv) 27 (0, 0))) (hm : FD.length = m)
    (ho : OwnN (w.heap.size + 2) w1 v ps) (hown : w3.ownsRow sz 75 3 v1 m (fCells FD)) (hgrow : (w1.alloc (.cells #[] 75)).grownBy w3 (some sz)) :
    w3.heap[w.heap.size + 1]? = some (.cells (ndArr x fv) 27 (0, 0)) ∧ (w3.setCell ⟨w.heap.size + 1, 7, none⟩ v1).heap[w.heap.size + 1]? = some (.cells (ndArr x v1) 27 (0, 0)) ∧ (w3.setCell ⟨w.heap.size + 1, 7, none⟩ v1).heap[w.heap.size]? = some (.cells #[u] 24 (0, 0)) ∧
      OwnF (w.heap.size + 2) (w3.setCell ⟨w.heap.size + 1, 7, none⟩ v1) v1 FD ∧ OwnN (w.heap.size + 2) (w3.setCell ⟨w.heap.size + 1, 7, none⟩ v1) v ps ∧ Below w.heap.size w (w3.setCell ⟨w.heap.size + 1, 7, none⟩ v1) := by
  subst hs
  have l2 := (Array.getElem?_eq_some_iff.1 h2).1
  have l3 := (Array.getElem?_eq_some_iff.1 h3).1
  have hsz := hgrow.size
  rw [World.size_alloc] at hsz
  have hk : ∀ g, g < w1.heap.size → w3.heap[g]? = w1.heap[g]? := fun g hg => by
    rw [hgrow.block g (by rw [World.size_alloc]; omega) (by simp; omega)]
    exact Below.heap_alloc _ _ _ hg
  have k3 := (hk _ l3).trans h3
  refine ⟨k3, blk_set k3, ?_, ?_, ?_, ?_⟩
  · rw [set_far _ _ _ _ _ (by omega)]; exact (hk _ l2).trans h2
  · subst hm
    exact row_mono (hown.kept (grown_set w3 _ 7 v1) (by
      rcases hown.2 with ⟨rfl, _⟩ | ⟨g, cap, cur, rfl, hb, _⟩
      · exact .inl rfl
      · exact .inr (by simp [Value.ownBlock]; omega))) (by omega)
  · exact ownN_heap ho fun g hg hl => by rw [set_far _ _ _ _ _ (by omega)]; exact hk g hl
  · refine (hB.trans ⟨hgrow.os, hgrow.tape, hgrow.output, by omega, fun k hlt => hk k (by have := hB.size; omega)⟩).setCell (p := ⟨w.heap.size + 1, 7, none⟩) (by show w.heap.size ≤ w.heap.size + 1; omega) _
theorem flds_src {w w1 : World} {FA : Option Addr} {n q : Nat} {x : Nd} {FD : List Fld} (hb : Below w.heap.size w w1) (hpos : 0 < n → ∃ b o, FA = some (⟨b, o, none⟩ : Addr) ∧ b < w.heap.size ∧ FldsAt w b o x.l) (hn : x.l.length = n) (hq : x.l.take q = FD) (o1 : Obj) :
    ∀ ad, FA = some ad → ∀ j u, (fCells FD)[j]? = some u → (w1.alloc o1).cell? (ad.add j) = some u := fun ad had j u hu => by
  have h0 : 0 < n := by
    rcases Nat.eq_zero_or_pos n with h | h
    · rw [h] at hn
      rw [← hq, List.eq_nil_of_length_eq_zero hn] at hu
      simp [fCells] at hu
    · exact h
  obtain ⟨b, o, e, hlt, hf⟩ := hpos h0
  rw [had] at e; cases e
  subst hq
  have h := fCells_of (hf.below hb hlt) q j u hu
  rw [Addr.add_lit] at h ⊢
  have e1 := ((Below.refl w1.heap.size w1).alloc (Nat.le_refl _) o1).cell (p := ⟨b, o + j, none⟩) (by show b < w1.heap.size; have := hb.size; omega)
  rw [e1]; exact h
end Go.Proofs.YteikpeaakmbihaaDoor.T
/- SameNode, the document's: are two nodes the same, but for Pos? -/
namespace Go.Proofs.YteikpeaakmbihaaDoor.T
open Go.RowKit
theorem ne_f {x y : Int} (h : (x == y) = false) : (x != y) = true := by simp [bne, h]
theorem ne_t {x y : Int} (h : (x == y) = true) : (x != y) = false := by simp [bne, h]
theorem nb_f {x y : List UInt8} (h : (x == y) = false) : (x != y) = true := by simp [bne, h]
theorem nb_t {x y : List UInt8} (h : (x == y) = true) : (x != y) = false := by simp [bne, h]
set_option maxRecDepth 100000 in
set_option maxHeartbeats 8000000 in
theorem rsn_len (k a b c n pos k' a' b' c' n' pos' : Int) (nm s nm' s' : ByteArray) (_l _l' : List Fld) (A C : Option Addr) (L M c1 c2 : Nat) (w : World) (h0 : (k == k') = true) (h1 : (a == a') = true) (h2 : (b == b') = true) (h3 : (c == c') = true) (h4 : (n == n') = true) (h5 : (nm.toList == nm'.toList) = true) (h6 : (s.toList == s'.toList) = true) (hne : ¬ L = M) :
    Calls Tryd.prog 51 #[.agg #[.int .i64 k, .int .i64 a, .int .i64 b, .int .i64 c, .int .i64 n, .string nm, .string s, .slice A L c1, .int .i64 pos], .agg #[.int .i64 k', .int .i64 a', .int .i64 b', .int .i64 c', .int .i64 n', .string nm', .string s', .slice C M c2, .int .i64 pos']] w fun e w' => e = .returned (.bool false) ∧ Below w.heap.size w w' := by
  have hb : ((L : Int) != (M : Int)) = true := by simpa using (by omega : ¬ (L : Int) = (M : Int))
  have g0 := ne_t h0
  have g1 := ne_t h1
  have g2 := ne_t h2
  have g3 := ne_t h3
  have g4 := ne_t h4
  have g5 := nb_t h5
  have g6 := nb_t h6
  have HB2 : Hid (Below w.heap.size w ((w.alloc (.cells #[.int .i64 k, .int .i64 a, .int .i64 b, .int .i64 c, .int .i64 n, .string nm, .string s, .slice A L c1, .int .i64 pos] 27)).alloc (.cells #[.int .i64 k', .int .i64 a', .int .i64 b', .int .i64 c', .int .i64 n', .string nm', .string s', .slice C M c2, .int .i64 pos'] 27))) := Lib.hid (((Below.refl _ w).alloc (Nat.le_refl _) _).alloc (by simp) _)
  go_enter Tryd.func51, Tryd.ntmps51
  go_wp2
  go_ret
  exact ⟨rfl, HB2.out⟩
set_option maxRecDepth 100000 in
set_option maxHeartbeats 8000000 in
theorem rsn_pos (k a b c n pos k' a' b' c' n' pos' : Int) (nm s nm' s' : ByteArray) (l l' : List Fld) (A C : Option Addr) (L c1 c2 : Nat) (w : World) (h0 : (k == k') = true) (h1 : (a == a') = true) (h2 : (b == b') = true) (h3 : (c == c') = true) (h4 : (n == n') = true) (h5 : (nm.toList == nm'.toList) = true) (h6 : (s.toList == s'.toList) = true)
    (HL : Hid (l.length = L)) (HM : Hid (l'.length = L)) (hL : L ≤ 1000000) (HP : Hid (0 < L → ∃ b1 o1 b2 o2, A = some (⟨b1, o1, none⟩ : Addr) ∧ C = some (⟨b2, o2, none⟩ : Addr) ∧ b1 < w.heap.size ∧ b2 < w.heap.size ∧ FldsAt w b1 o1 l ∧ FldsAt w b2 o2 l')) :
    Calls Tryd.prog 51 #[.agg #[.int .i64 k, .int .i64 a, .int .i64 b, .int .i64 c, .int .i64 n, .string nm, .string s, .slice A L c1, .int .i64 pos], .agg #[.int .i64 k', .int .i64 a', .int .i64 b', .int .i64 c', .int .i64 n', .string nm', .string s', .slice C L c2, .int .i64 pos']] w fun e w' => e = .returned (.bool (les l l')) ∧ Below w.heap.size w w' := by
  have g0 := ne_t h0
  have g1 := ne_t h1
  have g2 := ne_t h2
  have g3 := ne_t h3
  have g4 := ne_t h4
  have g5 := nb_t h5
  have g6 := nb_t h6
  obtain ⟨W2, hW2⟩ : ∃ W2, ((w.alloc (.cells #[.int .i64 k, .int .i64 a, .int .i64 b, .int .i64 c, .int .i64 n, .string nm, .string s, .slice A L c1, .int .i64 pos] 27)).alloc (.cells #[.int .i64 k', .int .i64 a', .int .i64 b', .int .i64 c', .int .i64 n', .string nm', .string s', .slice C L c2, .int .i64 pos'] 27)) = W2 := ⟨_, rfl⟩
  have HB2 : Hid (Below w.heap.size w W2) := Lib.hid (by rw [← hW2]; exact ((Below.refl _ w).alloc (Nat.le_refl _) _).alloc (by simp) _)
  have HX0 : Hid (W2.heap[w.heap.size]? = some (.cells #[.int .i64 k, .int .i64 a, .int .i64 b, .int .i64 c, .int .i64 n, .string nm, .string s, .slice A L c1, .int .i64 pos] 27 (0, 0))) := Lib.hid (by rw [← hW2]; exact nextAt (newAt rfl))
  have HY0 : Hid (W2.heap[w.heap.size + 1]? = some (.cells #[.int .i64 k', .int .i64 a', .int .i64 b', .int .i64 c', .int .i64 n', .string nm', .string s', .slice C L c2, .int .i64 pos'] 27 (0, 0))) := Lib.hid (by rw [← hW2]; exact newAt (by simp))
  have HW2 := Lib.hid hW2
  clear hW2
  go_enter Tryd.func51, Tryd.ntmps51
  go_wp2
  go_loopw [5] (fun i wr => ∃ q : Nat, i = .int .i64 (q : Int) ∧ q ≤ L ∧ Hid (∀ (j : Nat) (f g : Fld), j < q → l[j]? = some f → l'[j]? = some g → fe f g = true) ∧ Hid (Below w.heap.size w wr ∧ wr.heap = W2.heap)) (fun i _ => L - (intOf i).toNat)
  case atStart => exact ⟨0, rfl, Nat.zero_le _, Lib.hid (fun j f g h => absurd h (by omega)), Lib.hid (by rw [HW2.out]; exact ⟨HB2.out, rfl⟩)⟩
  case round =>
    obtain ⟨q, rfl, hq, HA, HB⟩ := hrel
    have hx0 : wr.heap[w.heap.size]? = some (.cells #[.int .i64 k, .int .i64 a, .int .i64 b, .int .i64 c, .int .i64 n, .string nm, .string s, .slice A L c1, .int .i64 pos] 27 (0, 0)) := by rw [HB.out.2]; exact HX0.out
    have hy0 : wr.heap[w.heap.size + 1]? = some (.cells #[.int .i64 k', .int .i64 a', .int .i64 b', .int .i64 c', .int .i64 n', .string nm', .string s', .slice C L c2, .int .i64 pos'] 27 (0, 0)) := by rw [HB.out.2]; exact HY0.out
    have cx : wr.cell? ⟨w.heap.size, 7, none⟩ = some (.slice A L c1) := (Blk_cell hx0 7).trans rfl
    have cy : wr.cell? ⟨w.heap.size + 1, 7, none⟩ = some (.slice C L c2) := (Blk_cell hy0 7).trans rfl
    clear hx0 hy0
    by_cases hlt : q < L
    · obtain ⟨b1, o1, b2, o2, rfl, rfl, hb1, hb2, hf1, hf2⟩ := HP.out (by omega)
      obtain ⟨f, hf⟩ : ∃ f, l[q]? = some f := ⟨_, List.getElem?_eq_getElem (by rw [HL.out]; exact hlt)⟩
      obtain ⟨g, hg⟩ : ∃ g, l'[q]? = some g := ⟨_, List.getElem?_eq_getElem (by rw [HM.out]; exact hlt)⟩
      obtain ⟨z0, z1, z2⟩ := (hf1.below HB.out.1 hb1) q f hf
      obtain ⟨y0, y1, y2⟩ := (hf2.below HB.out.1 hb2) q g hg
      have HX := Lib.hid hf
      have HY := Lib.hid hg
      clear hf hg hf1 hf2
      by_cases a1 : f.nm.toList = g.nm.toList
      · by_cases a2 : f.vr.toList = g.vr.toList
        · by_cases a3 : f.pl = g.pl
          · have HY1 : Hid (fe f g = true) := Lib.hid (by simp [fe, a1, a2, a3])
            have HN : Hid (∀ (j : Nat) (f g : Fld), j < q + 1 → l[j]? = some f → l'[j]? = some g → fe f g = true) := Lib.hid (by
              intro j f' g' hj hf' hg'
              by_cases e : j = q
              · subst e
                rw [HX.out] at hf'; rw [HY.out] at hg'
                injection hf' with hf'; injection hg' with hg'
                subst hf' hg'; exact HY1.out
              · exact HA.out j f' g' (by omega) hf' hg')
            go_wp2_with fail
            go_region
            all_goals
              go_wp2
              go_roundw
              case rel => exact ⟨q + 1, by go_num, by omega, HN, Lib.hid ⟨HB.out.1.drew, HB.out.2⟩⟩
              case measure => simp [intOf]; omega
          · have HY1 : Hid (les l l' = false) := Lib.hid (les_no HX.out HY.out (by simp [fe, a3]))
            go_wp2_with fail
            go_region
            all_goals
              go_wp2
              go_ret
              exact ⟨ret_b HY1.out.symm, HB.out.1.drew⟩
        · have HY1 : Hid (les l l' = false) := Lib.hid (les_no HX.out HY.out (by simp [fe, a2]))
          go_wp2_with fail
          go_region
          all_goals
            go_wp2
            go_ret
            exact ⟨ret_b HY1.out.symm, HB.out.1.drew⟩
      · have HY1 : Hid (les l l' = false) := Lib.hid (les_no HX.out HY.out (by simp [fe, a1]))
        go_wp2_with fail
        go_region
        all_goals
          go_wp2
          go_ret
          exact ⟨ret_b HY1.out.symm, HB.out.1.drew⟩
    · obtain rfl : q = L := by omega
      have HR : Hid (les l l' = true) := Lib.hid (les_yes (fun j f g h1 h2 => HA.out j f g (by have := lt_of_some h1; rw [HL.out] at this; exact this) h1 h2) (by rw [HL.out, HM.out]))
      go_wp2
      go_ret
      exact ⟨ret_b HR.out.symm, HB.out.1⟩
set_option maxRecDepth 100000 in
set_option maxHeartbeats 8000000 in
theorem rsn_any (x y : Nd) (v u : Value) (w : World) (hv : Flds w.heap.size w v x.l) (hu : Flds w.heap.size w u y.l) (hL : x.l.length ≤ 1000000) :
    Calls Tryd.prog 51 #[.agg (ndArr x v), .agg (ndArr y u)] w fun e w' => e = .returned (.bool (sn x y)) ∧ Below w.heap.size w w' := by
  obtain ⟨A, c1, rfl, _, _, hq⟩ := hv
  obtain ⟨C, c2, rfl, _, _, hr⟩ := hu
  obtain ⟨k, a, b, c, n, nm, s, l, pos⟩ := x
  obtain ⟨k', a', b', c', n', nm', s', l', pos'⟩ := y
  unfold ndArr
  simp only [sn] at hq hr hL ⊢
  have HB2 : Hid (Below w.heap.size w ((w.alloc (.cells #[.int .i64 k, .int .i64 a, .int .i64 b, .int .i64 c, .int .i64 n, .string nm, .string s, .slice A l.length c1, .int .i64 pos] 27)).alloc (.cells #[.int .i64 k', .int .i64 a', .int .i64 b', .int .i64 c', .int .i64 n', .string nm', .string s', .slice C l'.length c2, .int .i64 pos'] 27))) := Lib.hid (((Below.refl _ w).alloc (Nat.le_refl _) _).alloc (by simp) _)
  cases h0 : (k == k') with
  | false =>
    have g0 := ne_f h0
    clear hq hr hL
    go_enter Tryd.func51, Tryd.ntmps51
    go_wp2
    go_ret
    exact ⟨ret_b (by simp), HB2.out⟩
  | true =>
    have g0 := ne_t h0
    cases h1 : (a == a') with
    | false =>
      have g1 := ne_f h1
      clear hq hr hL
      go_enter Tryd.func51, Tryd.ntmps51
      go_wp2
      go_ret
      exact ⟨ret_b (by simp), HB2.out⟩
    | true =>
      have g1 := ne_t h1
      cases h2 : (b == b') with
      | false =>
        have g2 := ne_f h2
        clear hq hr hL
        go_enter Tryd.func51, Tryd.ntmps51
        go_wp2
        go_ret
        exact ⟨ret_b (by simp), HB2.out⟩
      | true =>
        have g2 := ne_t h2
        cases h3 : (c == c') with
        | false =>
          have g3 := ne_f h3
          clear hq hr hL
          go_enter Tryd.func51, Tryd.ntmps51
          go_wp2
          go_ret
          exact ⟨ret_b (by simp), HB2.out⟩
        | true =>
          have g3 := ne_t h3
          cases h4 : (n == n') with
          | false =>
            have g4 := ne_f h4
            clear hq hr hL
            go_enter Tryd.func51, Tryd.ntmps51
            go_wp2
            go_ret
            exact ⟨ret_b (by simp), HB2.out⟩
          | true =>
            have g4 := ne_t h4
            cases h5 : (nm.toList == nm'.toList) with
            | false =>
              have g5 := nb_f h5
              clear hq hr hL
              go_enter Tryd.func51, Tryd.ntmps51
              go_wp2
              go_ret
              exact ⟨ret_b (by simp), HB2.out⟩
            | true =>
              have g5 := nb_t h5
              cases h6 : (s.toList == s'.toList) with
              | false =>
                have g6 := nb_f h6
                clear hq hr hL
                go_enter Tryd.func51, Tryd.ntmps51
                go_wp2
                go_ret
                exact ⟨ret_b (by simp), HB2.out⟩
              | true =>
                have g6 := nb_t h6
                by_cases he : l.length = l'.length
                · have e1 : lf l l' = les l l' := by rw [lf, he]; simp
                  simp only [Bool.true_and, e1]
                  rw [← he]
                  refine rsn_pos k a b c n pos k' a' b' c' n' pos' nm s nm' s' l l' A C l.length c1 c2 w h0 h1 h2 h3 h4 h5 h6 (Lib.hid rfl) (Lib.hid he.symm) hL (Lib.hid fun h => ?_)
                  obtain ⟨b1, o1, rfl, hb1, hf1⟩ := hq h
                  obtain ⟨b2, o2, rfl, hb2, hf2⟩ := hr (by omega)
                  exact ⟨b1, o1, b2, o2, rfl, rfl, hb1, hb2, hf1, hf2⟩
                · have e1 : lf l l' = false := by rw [lf]; simp [he]
                  simp only [Bool.true_and, e1]
                  exact rsn_len k a b c n pos k' a' b' c' n' pos' nm s nm' s' l l' A C _ _ c1 c2 w h0 h1 h2 h3 h4 h5 h6 he
end Go.Proofs.YteikpeaakmbihaaDoor.T
/- Parents, the program's. -/
namespace Go.Proofs.YteikpeaakmbihaaDoor.T
open Go.RowKit Go.Shelf
set_option maxRecDepth 100000 in
set_option maxHeartbeats 4000000 in
theorem parents_bad (l : List Nd) (v : Value) (w : World) (hK : Kws w.heap.size w) (hN : Nodes w.heap.size w v l) (HS : ∀ x ∈ l, Small x) (hm : may l ≠ 0) :
    Calls Tryd.prog 21 #[.agg #[v]] w fun e w' => e = .returned (.slice none 0 0) ∧ Below w.heap.size w w' := by
  obtain ⟨A, c, rfl, hx⟩ := hN
  have hb1 : Below w.heap.size w (w.alloc (.cells #[.slice A l.length c] 24)) := (Below.refl _ w).alloc (Nat.le_refl _) _
  have HM := Lib.hid (may_any l (.slice A l.length c) (w.alloc (.cells #[.slice A l.length c] 24)) (Kws_mono (hK.on hb1) hb1.size) (((show Nodes w.heap.size w (.slice A l.length c) l from ⟨A, c, rfl, hx⟩).below hb1).mono hb1.size) HS)
  obtain ⟨m, hme⟩ : ∃ m, may l = m := ⟨_, rfl⟩
  rw [hme] at HM hm
  have hne : (m != 0) = true := by simpa using hm
  have HB1 := Lib.hid hb1
  clear hb1 hx hme hm
  go_enter Tryd.func21, Tryd.ntmps21
  go_wp2_with (go_at_call 13; refine HM.out.mono ?_; rintro e w1 ⟨rfl, hb⟩; have HB := Lib.hid hb; clear hb)
  go_ret
  exact ⟨rfl, HB1.out.trans (HB.out.mono (by simp))⟩
set_option maxRecDepth 100000 in
set_option maxHeartbeats 4000000 in
theorem parents_ok (l : List Nd) (L c : Nat) (A : Option Addr) (hL : l.length = L) (w : World) (hK : Kws w.heap.size w) (hN : Nodes w.heap.size w (.slice A L c) l) (HS : ∀ x ∈ l, Small x) (hm : may l = 0) :
    Calls Tryd.prog 21 #[.agg #[.slice A L c]] w fun e w' => ∃ (U : List Int) (g cg : Nat), e = .returned (.slice (some ⟨g, 0, none⟩) L cg) ∧ Rw w' g U ∧ U.length = L ∧ U[L - 1]? = some (-1) ∧ (∀ (i : Nat) (x : Nd) (k : Int), l[i]? = some x → k ∈ kids x → U[k.toNat]? = some (i : Int)) ∧ Below w.heap.size w w' := by
  obtain ⟨h1, h6⟩ := may_big hm
  have hf := (may_zero hm).2.1
  have hk : kidsOk l := hf.2.1
  have hn : onceOk l := hf.2.2.1
  subst hL
  have hb1 : Below w.heap.size w (w.alloc (.cells #[.slice A l.length c] 24)) := (Below.refl _ w).alloc (Nat.le_refl _) _
  have hN1 := (hN.below hb1).mono hb1.size
  have HM := Lib.hid (may_any l (.slice A l.length c) (w.alloc (.cells #[.slice A l.length c] 24)) (Kws_mono (hK.on hb1) hb1.size) hN1 HS)
  rw [hm] at HM
  obtain ⟨A', c', e, hc, _, hq⟩ := hN
  cases e
  obtain ⟨b, o, rfl, hb, hnd⟩ := hq (by omega)
  have HP : Hid (∀ w1, Below w.heap.size w w1 → Calls Tryd.prog 48 #[.agg #[.slice (some ⟨b, o, none⟩) l.length c]] w1 fun e w' => ∃ (U : List Int) (g cg : Nat), e = .returned (.tuple #[.slice (some ⟨g, 0, none⟩) l.length cg, .bool true]) ∧ Rw w' g U ∧ U.length = l.length ∧ U[l.length - 1]? = some (-1) ∧ (∀ (i : Nat) (x : Nd) (k : Int), l[i]? = some x → k ∈ kids x → U[k.toNat]? = some (i : Int)) ∧ Below w1.heap.size w1 w') := Lib.hid fun w1 hb1 => by
    refine (par_any l l.length c b o (Lib.hid rfl) (by omega) (by omega) w1 (by have := hb1.size; omega) (Lib.hid ((NdsAt.below hnd hb1 hb).mono hb1.size)) (Lib.hid fun x hx => (HS x hx).2.2.1)).mono ?_
    rintro e w' ⟨v, t, rfl, ht, hU, hbe⟩
    have htt : t = true := ht.2 ⟨hk, hn⟩
    subst htt
    obtain ⟨U, g, cg, rfl, hi, hu⟩ := hU rfl
    have hul : U.length = l.length := hu.1
    exact ⟨U, g, cg, by rw [hul], Rw.of hi, hul, hu.root hk (by omega), fun i x k hx hkx => hu.par hx hkx, hbe⟩
  have HB1 := Lib.hid hb1
  have cb : ∀ w1, Below (w.alloc (.cells #[.slice (some ⟨b, o, none⟩) l.length c] 24)).heap.size (w.alloc (.cells #[.slice (some ⟨b, o, none⟩) l.length c] 24)) w1 → w1.cell? ⟨w.heap.size, 0, none⟩ = some (.slice (some ⟨b, o, none⟩) l.length c) := fun w1 h => (Blk_cell (blk_next (newAt rfl) h) 0).trans rfl
  have HCB := Lib.hid cb
  clear hb1 hnd hq hN1 hf hk hn cb hm
  go_enter Tryd.func21, Tryd.ntmps21
  go_wp2_with (first
    | (go_at_call 48; refine (HP.out _ HB2.out).mono ?_; rintro e w2 ⟨U, g, cg, rfl, hr, hul, hrt, hpar, hb2⟩; have HE := Lib.hid (And.intro hr (And.intro hul (And.intro hrt (And.intro hpar (below_next HB2.out hb2 (Nat.le_refl _)))))); clear hr hul hrt hpar hb2)
    | (go_at_call 13; refine HM.out.mono ?_; rintro e w1 ⟨rfl, hb⟩; have HB2 := Lib.hid (below_next HB1.out hb (by simp)); have c1 := HCB.out w1 hb; clear hb))
  go_ret
  exact ⟨U, g, cg, rfl, HE.out⟩
end Go.Proofs.YteikpeaakmbihaaDoor.T
/- Sub and Norm, the program's, in a law's words. -/
namespace Go.Proofs.YteikpeaakmbihaaDoor.T
open Go.RowKit Go.Shelf
set_option maxRecDepth 100000 in
set_option maxHeartbeats 4000000 in
theorem sub_out (l : List Nd) (v : Value) (w : World) (hK : Kws w.heap.size w) (hN : Nodes w.heap.size w v l) (HS : ∀ x ∈ l, Small x) (i : Int) (hm : may l = 0) (hi : i < 0 ∨ (l.length : Int) ≤ i) :
    Calls Tryd.prog 20 #[.agg #[v], .int .i64 i] w (SubPost 3 [] w) := by
  have hl6 := (may_big hm).2
  obtain ⟨A, c, rfl, hx⟩ := hN
  obtain ⟨w2, hw2⟩ : ∃ w2, (w.alloc (.cells #[.slice A l.length c] 24)).alloc (.cells #[.slice none 0 0] 24) = w2 := ⟨_, rfl⟩
  have HB2 : Hid (Below w.heap.size w w2) := Lib.hid (by rw [← hw2]; exact ((Below.refl _ w).alloc (Nat.le_refl _) _).alloc (by simp) _)
  have hs2 : w2.heap.size = w.heap.size + 2 := by rw [← hw2]; simp
  have HM := Lib.hid (may_any l (.slice A l.length c) w2 (Kws_mono (hK.on HB2.out) HB2.out.size) ((show Nodes w.heap.size w (.slice A l.length c) l from ⟨A, c, rfl, hx⟩).below HB2.out |>.mono HB2.out.size) HS)
  rw [hm] at HM
  have hc2 : w2.heap[w.heap.size + 1]? = some (.cells #[.slice none 0 0] 24) := by rw [← hw2]; exact newAt (by simp)
  have hc3 : w2.heap[w.heap.size]? = some (.cells #[.slice A l.length c] 24) := by rw [← hw2]; exact nextAt (newAt rfl)
  rw [← hw2] at HM HB2 hc2 hc3
  have HC2 := Lib.hid hc2
  have HC3 := Lib.hid hc3
  obtain ⟨L, hL⟩ : ∃ L, l.length = L := ⟨_, rfl⟩
  rw [hL] at hi hl6 HM HB2 HC2 HC3 ⊢
  clear hw2 hs2 hc2 hc3 hx hK hm hL HS
  have key : ∀ (b1 b2 : Bool), decide (i < 0) = b1 → decide ((L : Int) ≤ i) = b2 → (b1 = true ∨ b2 = true) → Calls Tryd.prog 20 #[.agg #[.slice A L c], .int .i64 i] w (SubPost 3 [] w) := by
    intro b1 b2 h1 h2 h12
    cases b1 with
    | true =>
      clear h12
      go_enter Tryd.func20, Tryd.ntmps20
      go_wp2_with (go_at_call 13; refine HM.out.mono ?_; rintro e w1 ⟨rfl, hb1⟩; have HB1 := Lib.hid hb1; have hx1 := ((hb1.block (w.heap.size + 1) (by simp)).trans HC2.out); have f1 := Blk_frozen hx1 0; have c1 : w1.cell? ⟨w.heap.size + 1, 0, none⟩ = some (.slice none 0 0) := (Blk_cell hx1 0).trans rfl; have HX1 := Lib.hid hx1; have c3 : w1.cell? ⟨w.heap.size, 0, none⟩ = some (.slice A L c) := (Blk_cell ((hb1.block w.heap.size (by simp; omega)).trans HC3.out) 0).trans rfl; clear hb1 hx1)
      have hx := blk_put (j := 0) (v := .slice none 0 0) HX1.out
      refine bodyPost_ret (v := .tuple #[.agg #[.slice none 0 0], .int .i64 3]) (res17 _ _ (w.heap.size + 1) none 0 0 3 rfl rfl ((Blk_cell hx 0).trans rfl)) rfl ⟨.slice none 0 0, [], rfl, rfl, ownN_nil _ _, ?_⟩
      exact (HB2.out.trans (HB1.out.mono (by simp; omega))).setCell (p := ⟨w.heap.size + 1, 0, none⟩) (by show w.heap.size ≤ w.heap.size + 1; omega) _
    | false =>
      obtain rfl : b2 = true := by simpa using h12
      clear h12
      go_enter Tryd.func20, Tryd.ntmps20
      go_wp2_with (go_at_call 13; refine HM.out.mono ?_; rintro e w1 ⟨rfl, hb1⟩; have HB1 := Lib.hid hb1; have hx1 := ((hb1.block (w.heap.size + 1) (by simp)).trans HC2.out); have f1 := Blk_frozen hx1 0; have c1 : w1.cell? ⟨w.heap.size + 1, 0, none⟩ = some (.slice none 0 0) := (Blk_cell hx1 0).trans rfl; have HX1 := Lib.hid hx1; have c3 : w1.cell? ⟨w.heap.size, 0, none⟩ = some (.slice A L c) := (Blk_cell ((hb1.block w.heap.size (by simp; omega)).trans HC3.out) 0).trans rfl; clear hb1 hx1)
      have hx := blk_put (j := 0) (v := .slice none 0 0) HX1.out
      refine bodyPost_ret (v := .tuple #[.agg #[.slice none 0 0], .int .i64 3]) (res17 _ _ (w.heap.size + 1) none 0 0 3 rfl rfl ((Blk_cell hx 0).trans rfl)) rfl ⟨.slice none 0 0, [], rfl, rfl, ownN_nil _ _, ?_⟩
      exact (HB2.out.trans (HB1.out.mono (by simp; omega))).setCell (p := ⟨w.heap.size + 1, 0, none⟩) (by show w.heap.size ≤ w.heap.size + 1; omega) _
  exact key _ _ rfl rfl (by rcases hi with h | h; exact .inl (by simpa using h); exact .inr (by simpa using h))
/-- Sub's nodes; and its error. -/
noncomputable def subN (l : List Nd) (i : Int) : List Nd := if may l = 0 ∧ 0 ≤ i ∧ i < (l.length : Int) then cp l i.toNat [] else []
noncomputable def subE (l : List Nd) (i : Int) : Int := if may l = 0 then (if 0 ≤ i ∧ i < (l.length : Int) then 0 else 3) else may l
theorem SubPost.law {E : Int} {N : List Nd} {w : World} {f : Nat} {args : Array Value} {n : Nat} (hn : N.length = n) (h : Calls Tryd.prog f args w (SubPost E N w)) : Calls Tryd.prog f args w fun e w' => ∃ A c, e = .returned (.tuple #[.agg #[.slice A n c], .int .i64 E]) ∧ Nodes w'.heap.size w' (.slice A n c) N ∧ Below w.heap.size w w' := by
  refine Calls.mono h ?_
  rintro e w' ⟨v, ps, rfl, hp, ho, hb⟩
  obtain ⟨A, c, rfl⟩ := own_slice ho
  have hl : ps.length = n := by rw [← hn, ← hp, List.length_map]
  have h2 := own_nodes ho
  rw [hp] at h2
  rw [hl] at h2 ⊢
  exact ⟨A, c, rfl, h2, hb⟩
theorem sub_law (l : List Nd) (A : Option Addr) (c : Nat) (w : World) (hK : Kws w.heap.size w) (hN : Nodes w.heap.size w (.slice A l.length c) l) (HS : ∀ x ∈ l, Small x ∧ Clonable x) (i : Int) :
    Calls Tryd.prog 20 #[.agg #[.slice A l.length c], .int .i64 i] w (SubPost (subE l i) (subN l i) w) := by
  unfold subE subN
  by_cases hm : may l = 0
  · by_cases hi : 0 ≤ i ∧ i < (l.length : Int)
    · rw [if_pos hm, if_pos hi, if_pos ⟨hm, hi⟩]
      obtain ⟨h1, h6⟩ := may_big hm
      obtain ⟨_, _, e, hc, _, hq⟩ := hN
      cases e
      obtain ⟨b, o, rfl, hb, hn⟩ := hq (by omega)
      have h := callsIn_wide.1 (sub_in 3 (Nat.le_refl 3) l l.length c b o (Lib.hid rfl) h6 hm w hK hb (Lib.hid hn) (Lib.hid fun x hx => (HS x hx).1) (Lib.hid fun x hx => (HS x hx).2) i.toNat (by omega) hc)
      rwa [show ((i.toNat : Nat) : Int) = i by omega] at h
    · rw [if_pos hm, if_neg hi, if_neg (fun h => hi h.2)]
      exact sub_out l _ w hK hN (fun x hx => (HS x hx).1) i hm (by omega)
  · rw [if_neg hm, if_neg (fun h => hm h.1)]
    exact sub_bad l _ w hK hN (fun x hx => (HS x hx).1) i _ rfl hm
end Go.Proofs.YteikpeaakmbihaaDoor.T
