/- Joined by program: LMaysA, LMaysH, LMaysB, LMaysC, LMaysD. -/
import Derived.Test.YteikpeaakmbihaaDoorG30
import Derived.Test.YteikpeaakmbihaaDoorG02
import Derived.Test.YteikpeaakmbihaaDoorG31
import Derived.Test.YteikpeaakmbihaaDoorG20
/- TreeMays: what it calls, in the words of its walk. -/
namespace Go.Proofs.YteikpeaakmbihaaDoor.T
open Go.RowKit Go.Shelf
theorem cut_cut (x : Nd) : cut (cut x) = cut x := by
  simp only [cut, List.take_take, Nat.min_self]
theorem few_few (l : List Nd) : few (few l) = few l := by
  unfold few
  rw [← List.map_take, List.take_take, Nat.min_self, List.map_map]
  congr 1
  funext x
  exact cut_cut x
theorem few_len (l : List Nd) : (few l).length ≤ 700 := by
  unfold few; rw [List.length_map, List.length_take]; omega
/-- What is kept of each node is small. -/
theorem fit_cut {x : Nd} (h : Fit x) : Small (cut x) ∧ Clonable (cut x) := by
  obtain ⟨h1, h2, h3, h4⟩ := h
  have e : reachBytes = 140737488351232 := rfl
  rw [e] at h1 h2
  have h5 : (cut x).l.length ≤ 60 := by simp only [cut, List.length_take]; omega
  have h6 : ∀ f ∈ (cut x).l, f.nm.size ≤ 140737488351232 ∧ f.vr.size ≤ 140737488351232 := fun f hf => h4 f (List.mem_of_mem_take hf)
  refine ⟨⟨?_, ?_, by omega, fun f hf => ?_⟩, ⟨?_, ?_, by omega, fun f hf => ?_⟩⟩
  · show x.nm.size ≤ _; omega
  · show x.s.size ≤ _; omega
  · have := h6 f hf; omega
  · show x.nm.size ≤ _; omega
  · show x.s.size ≤ _; omega
  · have := h6 f hf; omega
theorem fit_few {l : List Nd} (h : ∀ x ∈ l, Fit x) : ∀ x ∈ few l, Small x ∧ Clonable x := fun x hx => by
  obtain ⟨y, hy, rfl⟩ := List.mem_map.1 hx
  exact fit_cut (h y (List.mem_of_mem_take hy))
/-- Few, in a law's words. -/
theorem few_nodes (l m : List Nd) (L : Nat) (hm : few l = m) (hL : m.length = L) (vl : Value) (w : World) (hv : Nodes w.heap.size w vl l) :
    Calls Tryd.prog 10 #[.agg #[vl]] w fun e w' => ∃ A c, e = .returned (.agg #[.slice A L c]) ∧ Nodes w'.heap.size w' (.slice A L c) m ∧ Below w.heap.size w w' := by
  refine (few_any vl l w hv).mono ?_
  rintro e w' ⟨v, ps, rfl, hps, hown, hb⟩
  obtain ⟨A, c, rfl⟩ := own_slice hown
  have hl : ps.length = L := by rw [← hL, ← hm, ← hps, List.length_map]
  have hn := own_nodes hown
  rw [hps, hm] at hn
  rw [hl] at hn ⊢
  exact ⟨A, c, rfl, hn, hb⟩
/-- Depth, the document's, at the last node. -/
theorem rdepth_root (l : List Nd) (A : Option Addr) (c : Nat) (hm : may l = 0) (w : World) (hN : Nodes w.heap.size w (.slice A l.length c) l) (HS : ∀ x ∈ l, Small x) :
    Calls Tryd.prog 12 #[.agg #[.slice A l.length c], .int .i64 ((l.length : Int) - 1)] w fun e w' => e = .returned (.int .i64 (deepOf l)) ∧ Below w.heap.size w w' := by
  obtain ⟨h1, h6⟩ := may_big hm
  obtain ⟨A', c', e, hc, _, hq⟩ := hN
  cases e
  obtain ⟨b, o, rfl, hb, hn⟩ := hq (by omega)
  have h := rdepth_any l l.length c b o (Lib.hid rfl) (by omega) (Lib.hid (may_zero hm).2.1.2.1) (Lib.hid fun x hx => (HS x hx).2.2.1) (l.length - 1) (by omega) w hb hn
  rw [show ((l.length - 1 : Nat) : Int) = (l.length : Int) - 1 by omega] at h
  unfold deepOf root
  rw [if_pos hm]
  exact h
/-- A row of whole numbers that lies in a world. -/
def Rw (W : World) (g : Nat) (K : List Int) : Prop := Row0 W g K ∧ g < W.heap.size
theorem Rw.of {B g c : Nat} {W : World} {K : List Int} (h : Ints B W (.slice (some ⟨g, 0, none⟩) K.length c) K) : Rw W g K := ⟨ints_cells h, (World.ownsRow.lt h g rfl).2⟩
theorem Rw.next {W W' : World} {g : Nat} {K : List Int} (h : Rw W g K) (hb : Below W.heap.size W W') : Rw W' g K :=
  ⟨fun j z hz => (hb.cell (p := ⟨g, j, none⟩) h.2).trans (h.1 j z hz), Nat.lt_of_lt_of_le h.2 hb.size⟩
theorem Rw.drew {W : World} {g : Nat} {K : List Int} (h : Rw W g K) : Rw W.drew g K := ⟨Row0.drew h.1, h.2⟩
/-- SameInts of two rows that are the same. -/
theorem sameInts_self (C : List Int) (n ga gc ca cc : Nat) (w : World) (hn : C.length = n) (hC : n ≤ 10000000) (hA : Rw w ga C) (hB : Rw w gc C) :
    Calls Tryd.prog 15 #[.slice (some ⟨ga, 0, none⟩) n ca, .slice (some ⟨gc, 0, none⟩) n cc] w fun e w' => e = .returned (.bool true) ∧ Below w.heap.size w w' := by
  subst hn
  have h := sameInts_any C C ga gc ca cc w hC hC (Lib.hid hA.1) (Lib.hid hB.1)
  rwa [show (C == C) = true by simp] at h
/-- Kids, in a law's words. -/
theorem kids_law {f : Nat} {x : Nd} {K : List Int} {n : Nat} {W : World} {v : Value} (h : Calls Tryd.prog f #[.agg (ndArr x v)] W (KidsPost K W.heap.size W)) (hn : K.length = n) :
    Calls Tryd.prog f #[.agg #[.int .i64 x.kind, .int .i64 x.a, .int .i64 x.b, .int .i64 x.c, .int .i64 x.n, .string x.nm, .string x.s, v, .int .i64 x.pos]] W fun e W' => ∃ g c, e = .returned (.slice (some ⟨g, 0, none⟩) n c) ∧ Rw W' g K ∧ Below W.heap.size W W' := by
  subst hn
  refine Calls.mono h ?_
  rintro e W' ⟨g, c, rfl, hi, hb⟩
  exact ⟨g, c, rfl, Rw.of hi, hb⟩
/-- What stays through the law's walk: what lay below, the tree's nodes, both boxes, the node's parts. -/
def MSt (w W : World) (A : Option Addr) (k L : Nat) (ml : List Nd) (x : Nd) (v : Value) : Prop :=
  Below w.heap.size w W ∧ Nodes W.heap.size W (.slice A L k) ml ∧ W.heap[w.heap.size]? = some (.cells #[.slice A L k] 24 (0, 0)) ∧ W.heap[w.heap.size + 1]? = some (.cells (ndArr x v) 27 (0, 0)) ∧ Flds W.heap.size W v (cut x).l
theorem MSt.next {w W W' : World} {A : Option Addr} {k L : Nat} {ml : List Nd} {x : Nd} {v : Value} (h : MSt w W A k L ml x v) (hb : Below W.heap.size W W') : MSt w W' A k L ml x v :=
  ⟨below_next h.1 hb (Nat.le_refl _), (h.2.1.below hb).mono hb.size, blk_next h.2.2.1 hb, blk_next h.2.2.2.1 hb, (h.2.2.2.2.below hb).mono hb.size⟩
theorem MSt.drew {w W : World} {A : Option Addr} {k L : Nat} {ml : List Nd} {x : Nd} {v : Value} (h : MSt w W A k L ml x v) : MSt w W.drew A k L ml x v := h.next (Below.refl _ _).drew
theorem MSt.c2 {w W : World} {A : Option Addr} {k L : Nat} {ml : List Nd} {x : Nd} {v : Value} (h : MSt w W A k L ml x v) : W.cell? ⟨w.heap.size, 0, none⟩ = some (.slice A L k) := (Blk_cell h.2.2.1 0).trans rfl
end Go.Proofs.YteikpeaakmbihaaDoor.T
/- TreeMays: laws of its walk. -/
namespace Go.Proofs.YteikpeaakmbihaaDoor.T
open Go.RowKit Go.Shelf
/-- append to an empty row of the call's own, of a slice that may be none. -/
theorem wpList_append_opt {P : Program} {w : World} {ops : Array Oper} {rest : List Oper} {o : Oper} {a : Act} {Q : Exit → Act → World → Prop} (hgd : o.guard = none) (s x : Operand) (t : TypeId)
    (ho : o.op = .call { callee := .builtin .append, args := #[s, x], argTypes := #[t, t] })
    (base : Nat) (e : TypeId) (i : TypeInfo) (z : Value) (size bytes : Nat) (ht : P.underlying t = some (.slice e)) (hi : P.info? e = some i) (hz : i.zero = some z)
    (hsize : i.size = size) (hby : i.bytes = bytes) (hzs : z.cells.size = size) (hsz : 0 < size)
    (g c0 : Nat) (hs : a.eval s = .slice (some ⟨g, 0, none⟩) 0 c0) (hown : w.ownsRow base e size (.slice (some ⟨g, 0, none⟩) 0 c0) 0 [])
    (FA : Option Addr) (m c : Nat) (news : List Value) (hx : a.eval x = .slice FA m c) (hnil : FA = none → m = 0 ∧ c = 0) (hl : news.length = m * size) (hnews : ∀ ad, FA = some ad → ∀ j u, news[j]? = some u → w.cell? (ad.add j) = some u) (h1 : ∀ u ∈ news, u.oneCell' = true)
    (h63 : m ≤ maxLen) (hbytes : m * bytes ≤ 140737488355328) (hbase : base ≤ w.heap.size)
    (h : ∀ g' c' w', w'.ownsRow base e size (.slice (some ⟨g', 0, none⟩) m c') m news → w.grownBy w' (some g) → wpList P ops Q rest (a.put o.dst (.slice (some ⟨g', 0, none⟩) m c')) w') : wpList P ops Q (o :: rest) a w := by
  cases FA with
  | none =>
    obtain ⟨rfl, rfl⟩ := hnil rfl
    obtain rfl : news = [] := List.eq_nil_of_length_eq_zero (by omega)
    exact wpList_append_own_none hgd s x t ho base e i size ht hi _ 0 [] hs hown hx (h g c0 w hown (World.grownBy.refl _ _))
  | some ad =>
    refine wpList_append_own _ hgd s x t ho base e i z size bytes ht hi hz hsize hby hzs hsz _ 0 [] hs hown ad m c news hx hl (hnews ad rfl) h1 (by omega) (by rw [Nat.zero_add]; exact hbytes) hbase ?_
    intro v' w' hown' hg hn
    simp only [Nat.zero_add, List.nil_append] at hown'
    obtain ⟨g', c', rfl, _, _⟩ := row_some hown' (fun e => by have := (hn.1 e).1; cases this)
    exact h g' c' w' hown' hg
theorem own_slice_len {B L : Nat} {W : World} {v : Value} {ps : List (Nd × Value)} {l m : List Nd} (h : OwnN B W v ps) (hps : ps.map Prod.fst = l) (hm : l = m) (hL : m.length = L) : ∃ A c, v = .slice A L c := by
  obtain ⟨A, c, h⟩ := own_slice h
  refine ⟨A, c, ?_⟩
  rw [h, ← hL, ← hm, ← hps, List.length_map]
/-- Behind the copy of the one node's parts, and its store into the node's box. -/
theorem mays_mid {w w1 w3 : World} {m sz : Nat} (hs : w1.heap.size = sz) {x : Nd} {FD : List Fld} {u fv v v1 : Value} {ps : List (Nd × Value)} (hB : Below w.heap.size w w1) (h2 : w1.heap[w.heap.size]? = some (.cells #[u] 24 (0, 0))) (h3 : w1.heap[w.heap.size + 1]? = some (.cells (ndArr x fv) 27 (0, 0))) (hm : FD.length = m)
    (ho : OwnN (w.heap.size + 2) w1 v ps) (hown : w3.ownsRow sz 75 3 v1 m (fCells FD)) (hgrow : (w1.alloc (.cells #[] 75)).grownBy w3 (some sz)) :
    w3.heap[w.heap.size + 1]? = some (.cells (ndArr x fv) 27 (0, 0)) ∧ (w3.setCell ⟨w.heap.size + 1, 7, none⟩ v1).heap[w.heap.size + 1]? = some (.cells (ndArr x v1) 27 (0, 0)) ∧ (w3.setCell ⟨w.heap.size + 1, 7, none⟩ v1).heap[w.heap.size]? = some (.cells #[u] 24 (0, 0)) ∧
      OwnF (w.heap.size + 2) (w3.setCell ⟨w.heap.size + 1, 7, none⟩ v1) v1 FD ∧ OwnN (w.heap.size + 2) (w3.setCell ⟨w.heap.size + 1, 7, none⟩ v1) v ps ∧ Below w.heap.size w (w3.setCell ⟨w.heap.size + 1, 7, none⟩ v1) := by
  subst hs
  have l2 := (Array.getElem?_eq_some_iff.1 h2).1
  have l3 := (Array.getElem?_eq_some_iff.1 h3).1
  have hsz := hgrow.size
  rw [World.size_alloc] at hsz
  have hk : ∀ g, g < w1.heap.size → w3.heap[g]? = w1.heap[g]? := fun g hg => by
    rw [hgrow.block g (by rw [World.size_alloc]; omega) (by simp; omega)]
    exact Below.heap_alloc _ _ _ hg
  have k3 := (hk _ l3).trans h3
  refine ⟨k3, blk_set k3, ?_, ?_, ?_, ?_⟩
  · rw [set_far _ _ _ _ _ (by omega)]; exact (hk _ l2).trans h2
  · subst hm
    exact row_mono (hown.kept (grown_set w3 _ 7 v1) (by
      rcases hown.2 with ⟨rfl, _⟩ | ⟨g, cap, cur, rfl, hb, _⟩
      · exact .inl rfl
      · exact .inr (by simp [Value.ownBlock]; omega))) (by omega)
  · exact ownN_heap ho fun g hg hl => by rw [set_far _ _ _ _ _ (by omega)]; exact hk g hl
  · refine (hB.trans ⟨hgrow.os, hgrow.tape, hgrow.output, by omega, fun k hlt => hk k (by have := hB.size; omega)⟩).setCell (p := ⟨w.heap.size + 1, 7, none⟩) (by show w.heap.size ≤ w.heap.size + 1; omega) _
theorem flds_src {w w1 : World} {FA : Option Addr} {n q : Nat} {x : Nd} {FD : List Fld} (hb : Below w.heap.size w w1) (hpos : 0 < n → ∃ b o, FA = some (⟨b, o, none⟩ : Addr) ∧ b < w.heap.size ∧ FldsAt w b o x.l) (hn : x.l.length = n) (hq : x.l.take q = FD) (o1 : Obj) :
    ∀ ad, FA = some ad → ∀ j u, (fCells FD)[j]? = some u → (w1.alloc o1).cell? (ad.add j) = some u := fun ad had j u hu => by
  have h0 : 0 < n := by
    rcases Nat.eq_zero_or_pos n with h | h
    · rw [h] at hn
      rw [← hq, List.eq_nil_of_length_eq_zero hn] at hu
      simp [fCells] at hu
    · exact h
  obtain ⟨b, o, e, hlt, hf⟩ := hpos h0
  rw [had] at e; cases e
  subst hq
  have h := fCells_of (hf.below hb hlt) q j u hu
  rw [Addr.add_lit] at h ⊢
  have e1 := ((Below.refl w1.heap.size w1).alloc (Nat.le_refl _) o1).cell (p := ⟨b, o + j, none⟩) (by show b < w1.heap.size; have := hb.size; omega)
  rw [e1]; exact h
end Go.Proofs.YteikpeaakmbihaaDoor.T
/- The walk of TreeMays, in one of four cases. -/
namespace Go.Proofs.YteikpeaakmbihaaDoor.T
open Go.RowKit Go.Shelf
set_option maxRecDepth 100000 in
set_option maxHeartbeats 8000000 in
theorem mays_zn (l ml : List Nd) (L : Nat) (M : Int) (K : List Int) (x : Nd) (A0 : Option Addr) (L0 c0 : Nat) (w : World) (hM0 : (M == 0) = false) (HK : Hid (∀ w1, Below w.heap.size w w1 → Kws w1.heap.size w1))
    (HFEW : Hid (∀ w1, Below w.heap.size w w1 → Calls Tryd.prog 10 #[.agg #[.slice A0 L0 c0]] w1 (FewPost l w1))) (HML : Hid (few l = ml)) (HLL : Hid (ml.length = L)) (_hL7 : L ≤ 700) (_HSC : Hid (∀ y ∈ ml, Small y ∧ Clonable y))
    (HF2 : Hid (∀ (w1 : World) (A : Option Addr) (c : Nat), Nodes w1.heap.size w1 (.slice A L c) ml → Calls Tryd.prog 10 #[.agg #[.slice A L c]] w1 fun e w2 => ∃ A c, e = .returned (.agg #[.slice A L c]) ∧ Nodes w2.heap.size w2 (.slice A L c) ml ∧ Below w1.heap.size w1 w2))
    (HRM : Hid (∀ (w1 : World) (A : Option Addr) (c : Nat), Nodes w1.heap.size w1 (.slice A L c) ml → Calls Tryd.prog 11 #[.agg #[.slice A L c]] w1 fun e w2 => e = .returned (.int .i64 M) ∧ Below w1.heap.size w1 w2))
    (HPM : Hid (∀ (w1 : World) (A : Option Addr) (c : Nat), Kws w1.heap.size w1 → Nodes w1.heap.size w1 (.slice A L c) ml → Calls Tryd.prog 13 #[.agg #[.slice A L c]] w1 fun e w2 => e = .returned (.int .i64 M) ∧ Below w1.heap.size w1 w2))
    (HPD : Hid (∀ (w1 : World) (A : Option Addr) (c : Nat), Kws w1.heap.size w1 → Nodes w1.heap.size w1 (.slice A L c) ml → Calls Tryd.prog 14 #[.agg #[.slice A L c]] w1 fun e w2 => e = .returned (.int .i64 0) ∧ Below w1.heap.size w1 w2))
    (HNN : Hid (x.l.length = 0)) (HPOS : Hid (0 < 0 → ∃ b o, none = some (⟨b, o, none⟩ : Addr) ∧ b < w.heap.size ∧ FldsAt w b o x.l)) (HCUT : Hid ((cut x).l = x.l.take 0)) (KL : Nat) (HKL : Hid (K.length = KL)) (hK6 : KL ≤ 10000000)
    (HPK : Hid (∀ (W : World) (v : Value), Flds W.heap.size W v (cut x).l → Calls Tryd.prog 16 #[.agg #[.int .i64 x.kind, .int .i64 x.a, .int .i64 x.b, .int .i64 x.c, .int .i64 x.n, .string x.nm, .string x.s, v, .int .i64 x.pos]] W fun e W' => ∃ g c, e = .returned (.slice (some ⟨g, 0, none⟩) KL c) ∧ Rw W' g K ∧ Below W.heap.size W W'))
    (HRK : Hid (∀ (W : World) (v : Value), Flds W.heap.size W v (cut x).l → Calls Tryd.prog 17 #[.agg #[.int .i64 x.kind, .int .i64 x.a, .int .i64 x.b, .int .i64 x.c, .int .i64 x.n, .string x.nm, .string x.s, v, .int .i64 x.pos]] W fun e W' => ∃ g c, e = .returned (.slice (some ⟨g, 0, none⟩) KL c) ∧ Rw W' g K ∧ Below W.heap.size W W')) :
    Calls Tryd.prog 3 #[.agg #[.slice A0 L0 c0], .agg (ndArr x (.slice none 0 0))] w fun e w' => e = .returned (.bool true) ∧ Below w.heap.size w w' := by
  obtain ⟨i0, hi, hz0, hz1, hz2⟩ := info_parts fldInfo
  have hmin : min (0 : Int) 60 = 0 := rfl
  have HFL : Hid ((x.l.take 0).length = 0) := Lib.hid (by rw [List.length_take]; have := HNN.out; omega)
  have HW2 : Hid (Below w.heap.size w ((w.alloc (.cells #[.slice A0 L0 c0] 24)).alloc (.cells (ndArr x (.slice none 0 0)) 27))) := Lib.hid (((Below.refl _ w).alloc (Nat.le_refl _) _).alloc (by simp) _)
  go_enter Tryd.func3, Tryd.ntmps3
  go_wp2_with (first
    | (go_at_call 11; refine (HRM.out _ _ _ S3.out.2.1).mono ?_; rintro e w4 ⟨rfl, hb4⟩; have S4 := Lib.hid (S3.out.next hb4); have c24 := S4.out.c2; clear hb4)
    | (at_builtin; rw [HWS.out]; refine wpList_append_opt rfl _ _ 25 rfl w1.heap.size 75 i0 (.agg #[.string ⟨#[]⟩, .string ⟨#[]⟩, .int .i64 0]) 3 40 Tryd.underlying25 hi hz0 hz1 hz2 rfl (by decide) w1.heap.size 0 rfl HR1.out none 0 0 (fCells (x.l.take 0)) rfl (fun _ => ⟨rfl, rfl⟩) (by rw [fCells_len, HFL.out]) HSRC.out (fCells_one _) (by unfold maxLen; omega) (by omega) HSZ1.out ?_; intro g1 c1 w3 hown1 hgrow1; obtain ⟨p3, p4, pO, pF, pN, pB⟩ := mays_mid HS1.out (x := x) (fv := .slice none 0 0) (FD := x.l.take 0) HB1.out H21.out H31.out HFL.out HO1.out hown1 hgrow1; obtain ⟨_, _, _, _, _, _, _, n7, _⟩ := nd_cells p3; have f7 := Blk_frozen p3 7; have c23 := Blk_cell pO 0; have pM := own_nodes pN; rw [HPS1.out] at pM; have S3 : Hid (MSt w _ A1 k1 L ml x (.slice (some ⟨g1, 0, none⟩) 0 c1)) := Lib.hid ⟨pB, pM, pO, p4, by rw [HCUT.out]; exact ownF_flds pF⟩; clear p3 p4 pO pF pN pB pM hown1 hgrow1)
    | (go_at_call 10; refine (HFEW.out _ HW2.out).mono ?_; rintro e w1 ⟨v1, ps, rfl, hps, hown, hb1⟩; obtain ⟨A1, k1, rfl⟩ := own_slice_len hown hps HML.out HLL.out; obtain ⟨wS, hwS⟩ : ∃ wS, w1.setCell ⟨w.heap.size, 0, none⟩ (.slice A1 L k1) = wS := ⟨_, rfl⟩; have hs1 : wS.heap.size = w1.heap.size := (by rw [← hwS]; simp); have x2 := (hb1.block w.heap.size (by simp <;> omega)).trans (nextAt (newAt rfl)); have x3 := (hb1.block (w.heap.size + 1) (by simp <;> omega)).trans (newAt (by simp)); have f2 := Blk_frozen x2 0; have c21 : w1.cell? ⟨w.heap.size, 0, none⟩ = some (.slice A0 L0 c0) := (Blk_cell x2 0).trans rfl; have n71 : (w1.setCell ⟨w.heap.size, 0, none⟩ (.slice A1 L k1)).cell? ⟨w.heap.size + 1, 7, none⟩ = some (.slice none 0 0) := (Blk_cell ((set_far _ _ _ _ _ (by omega)).trans x3) 7).trans rfl; have n72 : ((w1.setCell ⟨w.heap.size, 0, none⟩ (.slice A1 L k1)).alloc (.cells #[] 75)).cell? ⟨w.heap.size + 1, 7, none⟩ = some (.slice none 0 0) := (Blk_cell (nextAt ((set_far _ _ _ _ _ (by omega)).trans x3)) 7).trans rfl; have hb1s := hb1.size; have HB1 : Hid (Below w.heap.size w wS) := Lib.hid (by rw [← hwS]; exact (HW2.out.trans (hb1.mono (by simp <;> omega))).setCell (p := ⟨w.heap.size, 0, none⟩) (Nat.le_refl _) _); have H21 : Hid (wS.heap[w.heap.size]? = some (.cells #[.slice A1 L k1] 24 (0, 0))) := Lib.hid (by rw [← hwS]; exact blk_put (j := 0) (v := .slice A1 L k1) x2); have H31 : Hid (wS.heap[w.heap.size + 1]? = some (.cells (ndArr x (.slice none 0 0)) 27 (0, 0))) := Lib.hid (by rw [← hwS, set_far _ _ _ _ _ (by omega)]; exact x3); have HO1 : Hid (OwnN (w.heap.size + 2) wS (.slice A1 L k1) ps) := Lib.hid (by rw [← hwS]; exact ownN_heap (by simpa using hown) (fun g hg _ => set_far _ _ _ _ _ (by omega))); have HPS1 : Hid (ps.map Prod.fst = ml) := Lib.hid (by rw [hps, HML.out]); have HR1 : Hid ((wS.alloc (.cells #[] 75)).ownsRow w1.heap.size 75 3 (.slice (some ⟨w1.heap.size, 0, none⟩) 0 0) 0 []) := Lib.hid (by have := World.ownsRow_made (base := wS.heap.size) (e := 75) (size := 3) wS #[] 0 (Nat.le_refl _) (by decide) rfl; rwa [hs1] at this); have HSRC := Lib.hid (flds_src (q := 0) (FD := x.l.take 0) HB1.out HPOS.out HNN.out rfl (.cells #[] 75)); have HSZ1 : Hid (w1.heap.size ≤ (wS.alloc (.cells #[] 75)).heap.size) := Lib.hid (by simp [hs1]); have HS1 := Lib.hid hs1; have HWS := Lib.hid hwS; clear x2 x3 hwS hs1 hps hown)
    )
  go_region_with (first
    | (go_at_call 18; refine (works_any _ (HK.out _ S12.out.1)).mono ?_; rintro e w13 ⟨rfl, hb13⟩; have S13 := Lib.hid (S12.out.next hb13); clear hb13)
    | (go_at_call 15; refine (sameInts_self K KL _ _ _ _ _ HKL.out hK6 R10.out R11.out).mono ?_; rintro e w12 ⟨rfl, hb12⟩; have S12 := Lib.hid (S11.out.next hb12); clear hb12)
    | (go_at_call 17; refine (HRK.out _ _ S10.out.2.2.2.2).mono ?_; rintro e w11 ⟨g11, c11, rfl, hr11, hb11⟩; have S11 := Lib.hid (S10.out.next hb11); have R11 := Lib.hid hr11; have R10 := Lib.hid (R10.out.next hb11); clear hb11 hr11)
    | (go_at_call 16; refine (HPK.out _ _ S8.out.2.2.2.2).mono ?_; rintro e w10 ⟨g10, c10, rfl, hr10, hb10⟩; have S10 := Lib.hid (S8.out.next hb10); have R10 := Lib.hid hr10; obtain ⟨q0, q1, q2, q3, q4, q5, q6, q7, q8⟩ := nd_cells S10.out.2.2.2.1; clear hb10 hr10)
    | (go_at_call 14; refine (HPD.out _ _ _ (HK.out _ S7.out.1) N7.out).mono ?_; rintro e w8 ⟨rfl, hb8⟩; have S8 := Lib.hid (S7.out.next hb8); obtain ⟨q0, q1, q2, q3, q4, q5, q6, q7, q8⟩ := nd_cells S8.out.2.2.2.1; clear hb8)
    | (go_at_call 10; have _tag := S6.out; clear _tag; refine (HF2.out _ _ _ S6.out.2.1).mono ?_; rintro e w7 ⟨A7, c7, rfl, hn7, hb7⟩; have S7 := Lib.hid (S6.out.next hb7); have N7 := Lib.hid hn7; clear hb7 hn7)
    | (go_at_call 13; refine (HPM.out _ _ _ (HK.out _ S5.out.1) N5.out).mono ?_; rintro e w6 ⟨rfl, hb6⟩; have S6 := Lib.hid (S5.out.next hb6); have c26 := S6.out.c2; clear hb6)
    | (go_at_call 10; refine (HF2.out _ _ _ S4.out.drew.2.1).mono ?_; rintro e w5 ⟨A5, c5, rfl, hn5, hb5⟩; have S5 := Lib.hid (S4.out.drew.next hb5); have N5 := Lib.hid hn5; clear hb5 hn5))
  all_goals
    go_wp2
    go_ret
    exact ⟨rfl, S13.out.1⟩
end Go.Proofs.YteikpeaakmbihaaDoor.T
/- The walk of TreeMays, in one of four cases. -/
namespace Go.Proofs.YteikpeaakmbihaaDoor.T
open Go.RowKit Go.Shelf
set_option maxRecDepth 100000 in
set_option maxHeartbeats 8000000 in
theorem mays_zs (l ml : List Nd) (L : Nat) (M : Int) (K : List Int) (x : Nd) (A0 : Option Addr) (L0 c0 : Nat) (fa : Addr) (n m fc : Nat) (w : World) (hM0 : (M == 0) = false) (HK : Hid (∀ w1, Below w.heap.size w w1 → Kws w1.heap.size w1))
    (HFEW : Hid (∀ w1, Below w.heap.size w w1 → Calls Tryd.prog 10 #[.agg #[.slice A0 L0 c0]] w1 (FewPost l w1))) (HML : Hid (few l = ml)) (HLL : Hid (ml.length = L)) (_hL7 : L ≤ 700) (_HSC : Hid (∀ y ∈ ml, Small y ∧ Clonable y))
    (HF2 : Hid (∀ (w1 : World) (A : Option Addr) (c : Nat), Nodes w1.heap.size w1 (.slice A L c) ml → Calls Tryd.prog 10 #[.agg #[.slice A L c]] w1 fun e w2 => ∃ A c, e = .returned (.agg #[.slice A L c]) ∧ Nodes w2.heap.size w2 (.slice A L c) ml ∧ Below w1.heap.size w1 w2))
    (HRM : Hid (∀ (w1 : World) (A : Option Addr) (c : Nat), Nodes w1.heap.size w1 (.slice A L c) ml → Calls Tryd.prog 11 #[.agg #[.slice A L c]] w1 fun e w2 => e = .returned (.int .i64 M) ∧ Below w1.heap.size w1 w2))
    (HPM : Hid (∀ (w1 : World) (A : Option Addr) (c : Nat), Kws w1.heap.size w1 → Nodes w1.heap.size w1 (.slice A L c) ml → Calls Tryd.prog 13 #[.agg #[.slice A L c]] w1 fun e w2 => e = .returned (.int .i64 M) ∧ Below w1.heap.size w1 w2))
    (HPD : Hid (∀ (w1 : World) (A : Option Addr) (c : Nat), Kws w1.heap.size w1 → Nodes w1.heap.size w1 (.slice A L c) ml → Calls Tryd.prog 14 #[.agg #[.slice A L c]] w1 fun e w2 => e = .returned (.int .i64 0) ∧ Below w1.heap.size w1 w2))
    (hmin : min (n : Int) 60 = (m : Int)) (hfc : n ≤ fc ∧ fc ≤ 9223372036854775807) (HNN : Hid (x.l.length = n)) (HPOS : Hid (0 < n → ∃ b o, some fa = some (⟨b, o, none⟩ : Addr) ∧ b < w.heap.size ∧ FldsAt w b o x.l)) (HCUT : Hid ((cut x).l = x.l.take m)) (KL : Nat) (HKL : Hid (K.length = KL)) (hK6 : KL ≤ 10000000)
    (HPK : Hid (∀ (W : World) (v : Value), Flds W.heap.size W v (cut x).l → Calls Tryd.prog 16 #[.agg #[.int .i64 x.kind, .int .i64 x.a, .int .i64 x.b, .int .i64 x.c, .int .i64 x.n, .string x.nm, .string x.s, v, .int .i64 x.pos]] W fun e W' => ∃ g c, e = .returned (.slice (some ⟨g, 0, none⟩) KL c) ∧ Rw W' g K ∧ Below W.heap.size W W'))
    (HRK : Hid (∀ (W : World) (v : Value), Flds W.heap.size W v (cut x).l → Calls Tryd.prog 17 #[.agg #[.int .i64 x.kind, .int .i64 x.a, .int .i64 x.b, .int .i64 x.c, .int .i64 x.n, .string x.nm, .string x.s, v, .int .i64 x.pos]] W fun e W' => ∃ g c, e = .returned (.slice (some ⟨g, 0, none⟩) KL c) ∧ Rw W' g K ∧ Below W.heap.size W W')) :
    Calls Tryd.prog 3 #[.agg #[.slice A0 L0 c0], .agg (ndArr x (.slice (some fa) n fc))] w fun e w' => e = .returned (.bool true) ∧ Below w.heap.size w w' := by
  obtain ⟨i0, hi, hz0, hz1, hz2⟩ := info_parts fldInfo
  have hm60 : m ≤ n ∧ m ≤ 60 := by omega
  have HFL : Hid ((x.l.take m).length = m) := Lib.hid (by rw [List.length_take]; have := HNN.out; omega)
  have HW2 : Hid (Below w.heap.size w ((w.alloc (.cells #[.slice A0 L0 c0] 24)).alloc (.cells (ndArr x (.slice (some fa) n fc)) 27))) := Lib.hid (((Below.refl _ w).alloc (Nat.le_refl _) _).alloc (by simp) _)
  go_enter Tryd.func3, Tryd.ntmps3
  go_wp2_with (first
    | (go_at_call 11; refine (HRM.out _ _ _ S3.out.2.1).mono ?_; rintro e w4 ⟨rfl, hb4⟩; have S4 := Lib.hid (S3.out.next hb4); have c24 := S4.out.c2; clear hb4)
    | (at_builtin; rw [HWS.out]; refine wpList_append_opt rfl _ _ 25 rfl w1.heap.size 75 i0 (.agg #[.string ⟨#[]⟩, .string ⟨#[]⟩, .int .i64 0]) 3 40 Tryd.underlying25 hi hz0 hz1 hz2 rfl (by decide) w1.heap.size 0 rfl HR1.out (some fa) m fc (fCells (x.l.take m)) rfl (fun e => by cases e) (by rw [fCells_len, HFL.out]) HSRC.out (fCells_one _) (by unfold maxLen; omega) (by omega) HSZ1.out ?_; intro g1 c1 w3 hown1 hgrow1; obtain ⟨p3, p4, pO, pF, pN, pB⟩ := mays_mid HS1.out (x := x) (fv := .slice (some fa) n fc) (FD := x.l.take m) HB1.out H21.out H31.out HFL.out HO1.out hown1 hgrow1; obtain ⟨_, _, _, _, _, _, _, n7, _⟩ := nd_cells p3; have f7 := Blk_frozen p3 7; have c23 := Blk_cell pO 0; have pM := own_nodes pN; rw [HPS1.out] at pM; have S3 : Hid (MSt w _ A1 k1 L ml x (.slice (some ⟨g1, 0, none⟩) m c1)) := Lib.hid ⟨pB, pM, pO, p4, by rw [HCUT.out]; exact ownF_flds pF⟩; clear p3 p4 pO pF pN pB pM hown1 hgrow1)
    | (go_at_call 10; refine (HFEW.out _ HW2.out).mono ?_; rintro e w1 ⟨v1, ps, rfl, hps, hown, hb1⟩; obtain ⟨A1, k1, rfl⟩ := own_slice_len hown hps HML.out HLL.out; obtain ⟨wS, hwS⟩ : ∃ wS, w1.setCell ⟨w.heap.size, 0, none⟩ (.slice A1 L k1) = wS := ⟨_, rfl⟩; have hs1 : wS.heap.size = w1.heap.size := (by rw [← hwS]; simp); have x2 := (hb1.block w.heap.size (by simp <;> omega)).trans (nextAt (newAt rfl)); have x3 := (hb1.block (w.heap.size + 1) (by simp <;> omega)).trans (newAt (by simp)); have f2 := Blk_frozen x2 0; have c21 : w1.cell? ⟨w.heap.size, 0, none⟩ = some (.slice A0 L0 c0) := (Blk_cell x2 0).trans rfl; have n71 : (w1.setCell ⟨w.heap.size, 0, none⟩ (.slice A1 L k1)).cell? ⟨w.heap.size + 1, 7, none⟩ = some (.slice (some fa) n fc) := (Blk_cell ((set_far _ _ _ _ _ (by omega)).trans x3) 7).trans rfl; have n72 : ((w1.setCell ⟨w.heap.size, 0, none⟩ (.slice A1 L k1)).alloc (.cells #[] 75)).cell? ⟨w.heap.size + 1, 7, none⟩ = some (.slice (some fa) n fc) := (Blk_cell (nextAt ((set_far _ _ _ _ _ (by omega)).trans x3)) 7).trans rfl; have hb1s := hb1.size; have HB1 : Hid (Below w.heap.size w wS) := Lib.hid (by rw [← hwS]; exact (HW2.out.trans (hb1.mono (by simp <;> omega))).setCell (p := ⟨w.heap.size, 0, none⟩) (Nat.le_refl _) _); have H21 : Hid (wS.heap[w.heap.size]? = some (.cells #[.slice A1 L k1] 24 (0, 0))) := Lib.hid (by rw [← hwS]; exact blk_put (j := 0) (v := .slice A1 L k1) x2); have H31 : Hid (wS.heap[w.heap.size + 1]? = some (.cells (ndArr x (.slice (some fa) n fc)) 27 (0, 0))) := Lib.hid (by rw [← hwS, set_far _ _ _ _ _ (by omega)]; exact x3); have HO1 : Hid (OwnN (w.heap.size + 2) wS (.slice A1 L k1) ps) := Lib.hid (by rw [← hwS]; exact ownN_heap (by simpa using hown) (fun g hg _ => set_far _ _ _ _ _ (by omega))); have HPS1 : Hid (ps.map Prod.fst = ml) := Lib.hid (by rw [hps, HML.out]); have HR1 : Hid ((wS.alloc (.cells #[] 75)).ownsRow w1.heap.size 75 3 (.slice (some ⟨w1.heap.size, 0, none⟩) 0 0) 0 []) := Lib.hid (by have := World.ownsRow_made (base := wS.heap.size) (e := 75) (size := 3) wS #[] 0 (Nat.le_refl _) (by decide) rfl; rwa [hs1] at this); have HSRC := Lib.hid (flds_src (q := m) (FD := x.l.take m) HB1.out HPOS.out HNN.out rfl (.cells #[] 75)); have HSZ1 : Hid (w1.heap.size ≤ (wS.alloc (.cells #[] 75)).heap.size) := Lib.hid (by simp [hs1]); have HS1 := Lib.hid hs1; have HWS := Lib.hid hwS; clear x2 x3 hwS hs1 hps hown)
    )
  go_region_with (first
    | (go_at_call 18; refine (works_any _ (HK.out _ S12.out.1)).mono ?_; rintro e w13 ⟨rfl, hb13⟩; have S13 := Lib.hid (S12.out.next hb13); clear hb13)
    | (go_at_call 15; refine (sameInts_self K KL _ _ _ _ _ HKL.out hK6 R10.out R11.out).mono ?_; rintro e w12 ⟨rfl, hb12⟩; have S12 := Lib.hid (S11.out.next hb12); clear hb12)
    | (go_at_call 17; refine (HRK.out _ _ S10.out.2.2.2.2).mono ?_; rintro e w11 ⟨g11, c11, rfl, hr11, hb11⟩; have S11 := Lib.hid (S10.out.next hb11); have R11 := Lib.hid hr11; have R10 := Lib.hid (R10.out.next hb11); clear hb11 hr11)
    | (go_at_call 16; refine (HPK.out _ _ S8.out.2.2.2.2).mono ?_; rintro e w10 ⟨g10, c10, rfl, hr10, hb10⟩; have S10 := Lib.hid (S8.out.next hb10); have R10 := Lib.hid hr10; obtain ⟨q0, q1, q2, q3, q4, q5, q6, q7, q8⟩ := nd_cells S10.out.2.2.2.1; clear hb10 hr10)
    | (go_at_call 14; refine (HPD.out _ _ _ (HK.out _ S7.out.1) N7.out).mono ?_; rintro e w8 ⟨rfl, hb8⟩; have S8 := Lib.hid (S7.out.next hb8); obtain ⟨q0, q1, q2, q3, q4, q5, q6, q7, q8⟩ := nd_cells S8.out.2.2.2.1; clear hb8)
    | (go_at_call 10; have _tag := S6.out; clear _tag; refine (HF2.out _ _ _ S6.out.2.1).mono ?_; rintro e w7 ⟨A7, c7, rfl, hn7, hb7⟩; have S7 := Lib.hid (S6.out.next hb7); have N7 := Lib.hid hn7; clear hb7 hn7)
    | (go_at_call 13; refine (HPM.out _ _ _ (HK.out _ S5.out.1) N5.out).mono ?_; rintro e w6 ⟨rfl, hb6⟩; have S6 := Lib.hid (S5.out.next hb6); have c26 := S6.out.c2; clear hb6)
    | (go_at_call 10; refine (HF2.out _ _ _ S4.out.drew.2.1).mono ?_; rintro e w5 ⟨A5, c5, rfl, hn5, hb5⟩; have S5 := Lib.hid (S4.out.drew.next hb5); have N5 := Lib.hid hn5; clear hb5 hn5))
  all_goals
    go_wp2
    go_ret
    exact ⟨rfl, S13.out.1⟩
end Go.Proofs.YteikpeaakmbihaaDoor.T
/- The walk of TreeMays, in one of four cases. -/
namespace Go.Proofs.YteikpeaakmbihaaDoor.T
open Go.RowKit Go.Shelf
set_option maxRecDepth 100000 in
set_option maxHeartbeats 8000000 in
theorem mays_nn (l ml : List Nd) (L : Nat) (D : Int) (K : List Int) (x : Nd) (A0 : Option Addr) (L0 c0 : Nat) (w : World) (HRD : Hid (∀ (w1 : World) (A : Option Addr) (c : Nat), Nodes w1.heap.size w1 (.slice A L c) ml → Calls Tryd.prog 12 #[.agg #[.slice A L c], .int .i64 ((L : Int) - 1)] w1 fun e w2 => e = .returned (.int .i64 D) ∧ Below w1.heap.size w1 w2)) (HK : Hid (∀ w1, Below w.heap.size w w1 → Kws w1.heap.size w1))
    (HFEW : Hid (∀ w1, Below w.heap.size w w1 → Calls Tryd.prog 10 #[.agg #[.slice A0 L0 c0]] w1 (FewPost l w1))) (HML : Hid (few l = ml)) (HLL : Hid (ml.length = L)) (hL7 : L ≤ 700) (_HSC : Hid (∀ y ∈ ml, Small y ∧ Clonable y))
    (HF2 : Hid (∀ (w1 : World) (A : Option Addr) (c : Nat), Nodes w1.heap.size w1 (.slice A L c) ml → Calls Tryd.prog 10 #[.agg #[.slice A L c]] w1 fun e w2 => ∃ A c, e = .returned (.agg #[.slice A L c]) ∧ Nodes w2.heap.size w2 (.slice A L c) ml ∧ Below w1.heap.size w1 w2))
    (HRM : Hid (∀ (w1 : World) (A : Option Addr) (c : Nat), Nodes w1.heap.size w1 (.slice A L c) ml → Calls Tryd.prog 11 #[.agg #[.slice A L c]] w1 fun e w2 => e = .returned (.int .i64 0) ∧ Below w1.heap.size w1 w2))
    (HPM : Hid (∀ (w1 : World) (A : Option Addr) (c : Nat), Kws w1.heap.size w1 → Nodes w1.heap.size w1 (.slice A L c) ml → Calls Tryd.prog 13 #[.agg #[.slice A L c]] w1 fun e w2 => e = .returned (.int .i64 0) ∧ Below w1.heap.size w1 w2))
    (HPD : Hid (∀ (w1 : World) (A : Option Addr) (c : Nat), Kws w1.heap.size w1 → Nodes w1.heap.size w1 (.slice A L c) ml → Calls Tryd.prog 14 #[.agg #[.slice A L c]] w1 fun e w2 => e = .returned (.int .i64 D) ∧ Below w1.heap.size w1 w2))
    (HNN : Hid (x.l.length = 0)) (HPOS : Hid (0 < 0 → ∃ b o, none = some (⟨b, o, none⟩ : Addr) ∧ b < w.heap.size ∧ FldsAt w b o x.l)) (HCUT : Hid ((cut x).l = x.l.take 0)) (KL : Nat) (HKL : Hid (K.length = KL)) (hK6 : KL ≤ 10000000)
    (HPK : Hid (∀ (W : World) (v : Value), Flds W.heap.size W v (cut x).l → Calls Tryd.prog 16 #[.agg #[.int .i64 x.kind, .int .i64 x.a, .int .i64 x.b, .int .i64 x.c, .int .i64 x.n, .string x.nm, .string x.s, v, .int .i64 x.pos]] W fun e W' => ∃ g c, e = .returned (.slice (some ⟨g, 0, none⟩) KL c) ∧ Rw W' g K ∧ Below W.heap.size W W'))
    (HRK : Hid (∀ (W : World) (v : Value), Flds W.heap.size W v (cut x).l → Calls Tryd.prog 17 #[.agg #[.int .i64 x.kind, .int .i64 x.a, .int .i64 x.b, .int .i64 x.c, .int .i64 x.n, .string x.nm, .string x.s, v, .int .i64 x.pos]] W fun e W' => ∃ g c, e = .returned (.slice (some ⟨g, 0, none⟩) KL c) ∧ Rw W' g K ∧ Below W.heap.size W W')) :
    Calls Tryd.prog 3 #[.agg #[.slice A0 L0 c0], .agg (ndArr x (.slice none 0 0))] w fun e w' => e = .returned (.bool true) ∧ Below w.heap.size w w' := by
  obtain ⟨i0, hi, hz0, hz1, hz2⟩ := info_parts fldInfo
  have hmin : min (0 : Int) 60 = 0 := rfl
  have HFL : Hid ((x.l.take 0).length = 0) := Lib.hid (by rw [List.length_take]; have := HNN.out; omega)
  have HW2 : Hid (Below w.heap.size w ((w.alloc (.cells #[.slice A0 L0 c0] 24)).alloc (.cells (ndArr x (.slice none 0 0)) 27))) := Lib.hid (((Below.refl _ w).alloc (Nat.le_refl _) _).alloc (by simp) _)
  go_enter Tryd.func3, Tryd.ntmps3
  go_wp2_with (first
    | (go_at_call 12; refine (HRD.out _ _ _ S4.out.2.1).mono ?_; rintro e w5 ⟨rfl, hb5⟩; have S5 := Lib.hid (S4.out.next hb5); have c25 := S5.out.c2; clear hb5)
    | (go_at_call 11; refine (HRM.out _ _ _ S3.out.2.1).mono ?_; rintro e w4 ⟨rfl, hb4⟩; have S4 := Lib.hid (S3.out.next hb4); have c24 := S4.out.c2; clear hb4)
    | (at_builtin; rw [HWS.out]; refine wpList_append_opt rfl _ _ 25 rfl w1.heap.size 75 i0 (.agg #[.string ⟨#[]⟩, .string ⟨#[]⟩, .int .i64 0]) 3 40 Tryd.underlying25 hi hz0 hz1 hz2 rfl (by decide) w1.heap.size 0 rfl HR1.out none 0 0 (fCells (x.l.take 0)) rfl (fun _ => ⟨rfl, rfl⟩) (by rw [fCells_len, HFL.out]) HSRC.out (fCells_one _) (by unfold maxLen; omega) (by omega) HSZ1.out ?_; intro g1 c1 w3 hown1 hgrow1; obtain ⟨p3, p4, pO, pF, pN, pB⟩ := mays_mid HS1.out (x := x) (fv := .slice none 0 0) (FD := x.l.take 0) HB1.out H21.out H31.out HFL.out HO1.out hown1 hgrow1; obtain ⟨_, _, _, _, _, _, _, n7, _⟩ := nd_cells p3; have f7 := Blk_frozen p3 7; have c23 := Blk_cell pO 0; have pM := own_nodes pN; rw [HPS1.out] at pM; have S3 : Hid (MSt w _ A1 k1 L ml x (.slice (some ⟨g1, 0, none⟩) 0 c1)) := Lib.hid ⟨pB, pM, pO, p4, by rw [HCUT.out]; exact ownF_flds pF⟩; clear p3 p4 pO pF pN pB pM hown1 hgrow1)
    | (go_at_call 10; refine (HFEW.out _ HW2.out).mono ?_; rintro e w1 ⟨v1, ps, rfl, hps, hown, hb1⟩; obtain ⟨A1, k1, rfl⟩ := own_slice_len hown hps HML.out HLL.out; obtain ⟨wS, hwS⟩ : ∃ wS, w1.setCell ⟨w.heap.size, 0, none⟩ (.slice A1 L k1) = wS := ⟨_, rfl⟩; have hs1 : wS.heap.size = w1.heap.size := (by rw [← hwS]; simp); have x2 := (hb1.block w.heap.size (by simp <;> omega)).trans (nextAt (newAt rfl)); have x3 := (hb1.block (w.heap.size + 1) (by simp <;> omega)).trans (newAt (by simp)); have f2 := Blk_frozen x2 0; have c21 : w1.cell? ⟨w.heap.size, 0, none⟩ = some (.slice A0 L0 c0) := (Blk_cell x2 0).trans rfl; have n71 : (w1.setCell ⟨w.heap.size, 0, none⟩ (.slice A1 L k1)).cell? ⟨w.heap.size + 1, 7, none⟩ = some (.slice none 0 0) := (Blk_cell ((set_far _ _ _ _ _ (by omega)).trans x3) 7).trans rfl; have n72 : ((w1.setCell ⟨w.heap.size, 0, none⟩ (.slice A1 L k1)).alloc (.cells #[] 75)).cell? ⟨w.heap.size + 1, 7, none⟩ = some (.slice none 0 0) := (Blk_cell (nextAt ((set_far _ _ _ _ _ (by omega)).trans x3)) 7).trans rfl; have hb1s := hb1.size; have HB1 : Hid (Below w.heap.size w wS) := Lib.hid (by rw [← hwS]; exact (HW2.out.trans (hb1.mono (by simp <;> omega))).setCell (p := ⟨w.heap.size, 0, none⟩) (Nat.le_refl _) _); have H21 : Hid (wS.heap[w.heap.size]? = some (.cells #[.slice A1 L k1] 24 (0, 0))) := Lib.hid (by rw [← hwS]; exact blk_put (j := 0) (v := .slice A1 L k1) x2); have H31 : Hid (wS.heap[w.heap.size + 1]? = some (.cells (ndArr x (.slice none 0 0)) 27 (0, 0))) := Lib.hid (by rw [← hwS, set_far _ _ _ _ _ (by omega)]; exact x3); have HO1 : Hid (OwnN (w.heap.size + 2) wS (.slice A1 L k1) ps) := Lib.hid (by rw [← hwS]; exact ownN_heap (by simpa using hown) (fun g hg _ => set_far _ _ _ _ _ (by omega))); have HPS1 : Hid (ps.map Prod.fst = ml) := Lib.hid (by rw [hps, HML.out]); have HR1 : Hid ((wS.alloc (.cells #[] 75)).ownsRow w1.heap.size 75 3 (.slice (some ⟨w1.heap.size, 0, none⟩) 0 0) 0 []) := Lib.hid (by have := World.ownsRow_made (base := wS.heap.size) (e := 75) (size := 3) wS #[] 0 (Nat.le_refl _) (by decide) rfl; rwa [hs1] at this); have HSRC := Lib.hid (flds_src (q := 0) (FD := x.l.take 0) HB1.out HPOS.out HNN.out rfl (.cells #[] 75)); have HSZ1 : Hid (w1.heap.size ≤ (wS.alloc (.cells #[] 75)).heap.size) := Lib.hid (by simp [hs1]); have HS1 := Lib.hid hs1; have HWS := Lib.hid hwS; clear x2 x3 hwS hs1 hps hown)
    )
  go_region_with (first
    | (go_at_call 18; refine (works_any _ (HK.out _ S12.out.1)).mono ?_; rintro e w13 ⟨rfl, hb13⟩; have S13 := Lib.hid (S12.out.next hb13); clear hb13)
    | (go_at_call 15; refine (sameInts_self K KL _ _ _ _ _ HKL.out hK6 R10.out R11.out).mono ?_; rintro e w12 ⟨rfl, hb12⟩; have S12 := Lib.hid (S11.out.next hb12); clear hb12)
    | (go_at_call 17; refine (HRK.out _ _ S10.out.2.2.2.2).mono ?_; rintro e w11 ⟨g11, c11, rfl, hr11, hb11⟩; have S11 := Lib.hid (S10.out.next hb11); have R11 := Lib.hid hr11; have R10 := Lib.hid (R10.out.next hb11); clear hb11 hr11)
    | (go_at_call 16; refine (HPK.out _ _ S8.out.2.2.2.2).mono ?_; rintro e w10 ⟨g10, c10, rfl, hr10, hb10⟩; have S10 := Lib.hid (S8.out.next hb10); have R10 := Lib.hid hr10; obtain ⟨q0, q1, q2, q3, q4, q5, q6, q7, q8⟩ := nd_cells S10.out.2.2.2.1; clear hb10 hr10)
    | (go_at_call 14; refine (HPD.out _ _ _ (HK.out _ S7.out.1) N7.out).mono ?_; rintro e w8 ⟨rfl, hb8⟩; have S8 := Lib.hid (S7.out.next hb8); obtain ⟨q0, q1, q2, q3, q4, q5, q6, q7, q8⟩ := nd_cells S8.out.2.2.2.1; clear hb8)
    | (go_at_call 10; have _tag := S6.out; clear _tag; refine (HF2.out _ _ _ S6.out.2.1).mono ?_; rintro e w7 ⟨A7, c7, rfl, hn7, hb7⟩; have S7 := Lib.hid (S6.out.next hb7); have N7 := Lib.hid hn7; clear hb7 hn7)
    | (go_at_call 13; refine (HPM.out _ _ _ (HK.out _ S5.out.1) N5.out).mono ?_; rintro e w6 ⟨rfl, hb6⟩; have S6 := Lib.hid (S5.out.next hb6); have c26 := S6.out.c2; clear hb6)
    | (go_at_call 10; refine (HF2.out _ _ _ S5.out.drew.2.1).mono ?_; rintro e w5 ⟨A5, c5, rfl, hn5, hb5⟩; have S5 := Lib.hid (S5.out.drew.next hb5); have N5 := Lib.hid hn5; clear hb5 hn5))
  all_goals
    go_wp2
    go_ret
    exact ⟨rfl, S13.out.1⟩
end Go.Proofs.YteikpeaakmbihaaDoor.T
