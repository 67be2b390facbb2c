/- Joined by program: PSubA, PSubE. -/
import Derived.Test.YteikpeaakmbihaaDoorG21
import Derived.Test.YteikpeaakmbihaaDoorG24
import Derived.Test.YteikpeaakmbihaaDoorG00
import Derived.Maps.AppendAt
/- Sub, the program's: words. -/
namespace Go.Proofs.YteikpeaakmbihaaDoor.T
open Go.RowKit Go.Shelf
attribute [local go_sem] Oper.semAt_some
/-- append, as a thing of its own, which the walk leaves standing. -/
def heldAppend (ats : Array TypeId) (ty : TypeId) (args : Array Value) : Sem Value := Builtin.append_ ats ty args
theorem builtin_held (ats : Array TypeId) (ty : TypeId) (cs : Array Bool) (args : Array Value) : builtin .append ats ty cs args = (do pure (.value (← heldAppend ats ty args))) := rfl
attribute [local go_sem ↓ 2000] builtin_held
/-- Sub's answer: its error, and these nodes. -/
def SubPost (err : Int) (N : List Nd) (w : World) (e : Ending) (w' : World) : Prop := ∃ v ps, e = .returned (.tuple #[.agg #[v], .int .i64 err]) ∧ ps.map Prod.fst = N ∧ OwnN w.heap.size w' v ps ∧ Below w.heap.size w w'
theorem ownN_nil (B : Nat) (W : World) : OwnN B W (.slice none 0 0) [] := ⟨World.ownsRow_nil _ _ _ _, fun x hx => by simp at hx⟩
theorem res17 (tmps : Array Value) (W : World) (p : Nat) (A : Option Addr) (n c : Nat) (er : Int) (h2 : tmps[4]?.getD undef = .pointer (some ⟨p, 0, none⟩)) (h3 : tmps[5]?.getD undef = .int .i64 er) (hb : W.cell? ⟨p, 0, none⟩ = some (.slice A n c)) :
    Sem.run Tryd.prog (results Tryd.f20 tmps) W = .ok (.tuple #[.agg #[.slice A n c], .int .i64 er]) W := by
  simp [results, Tryd.results20, go_sem, h2, h3, hb]
/-- What the places told so far have made. -/
def made (l : List Nd) (L : Nat) (pre : List (Fin L)) : List Nd × List Int := (pre.map Fin.val).foldl (stp l) ([], List.replicate L 0)
theorem made_snoc (l : List Nd) (L : Nat) (pre : List (Fin L)) (x : Fin L) : made l L (pre ++ [x]) = stp l (made l L pre) x.1 := by simp [made]
def SB (l : List Nd) (L c b o : Nat) (w : World) (s1 : Nat) (pre : List (Fin L)) (W : World) : Prop :=
  (∃ v ps, W.heap[s1]? = some (.cells #[v] 24) ∧ OwnN (s1 + 5) W v ps ∧ ps.map Prod.fst = (made l L pre).1) ∧ W.heap[s1 + 1]? = some (.cells ((made l L pre).2.map (Value.int .i64)).toArray 3) ∧
  W.heap[s1 + 1 + 1]? = some (.cells #[.slice (some ⟨s1 + 1, 0, none⟩) L L] 34) ∧ W.heap[w.heap.size]? = some (.cells #[.slice (some ⟨b, o, none⟩) L c] 24) ∧ W.heap[w.heap.size + 1]? = some (.cells #[.slice none 0 0] 24) ∧ s1 + 5 ≤ W.heap.size
def SI (l : List Nd) (L c b o : Nat) (w : World) (s1 : Nat) (pre : List (Fin L)) (W : World) : Prop := SB l L c b o w s1 pre W ∧ Below w.heap.size w W
theorem row_abide {X Y : World} {B e size n : Nat} {v : Value} {xs : List Value} {row : Option Nat} (h : X.ownsRow B e size v n xs) (hg : X.grownBy Y row) (hr : ∀ r, row = some r → ∃ o, X.heap[r]? = some o ∧ o.isCells = false) : Y.ownsRow B e size v n xs :=
  h.kept hg (by
    rcases h.2 with ⟨rfl, _⟩ | ⟨g, cap, cur, rfl, _, hh, _⟩
    · exact .inl rfl
    · refine .inr (fun e' => ?_)
      obtain ⟨o, ho, hc⟩ := hr g e'.symm
      rw [hh] at ho
      cases ho
      cases hc)
theorem blk_abide {X Y : World} {b t : Nat} {cs : Array Value} {row : Option Nat} (h : X.heap[b]? = some (.cells cs t (0, 0))) (hg : X.grownBy Y row) (hr : ∀ r, row = some r → ∃ o, X.heap[r]? = some o ∧ o.isCells = false) : Y.heap[b]? = some (.cells cs t (0, 0)) :=
  (hg.block b (Array.getElem?_eq_some_iff.1 h).1 (fun e' => by obtain ⟨o, ho, hc⟩ := hr b e'.symm; rw [h] at ho; cases ho; cases hc)).trans h
theorem si_own (l : List Nd) (L c b o : Nat) (w : World) (s1 B : Nat) (hB : w.heap.size ≤ B) : OwnFrom B (SI l L c b o w s1) := by
  unfold SI
  refine OwnFrom.and (Own.from ?_ _) (ownFrom_below (Nat.le_refl _) hB)
  rintro pre X Y row ⟨⟨v, ps, h1, h2, h3⟩, h4, h5, h6, h7, h8⟩ hg hr
  exact ⟨⟨v, ps, blk_abide h1 hg hr, ⟨row_abide h2.1 hg hr, fun y hy => row_abide (h2.2 y hy) hg hr⟩, h3⟩, blk_abide h4 hg hr, blk_abide h5 hg hr, blk_abide h6 hg hr, blk_abide h7 hg hr, Nat.le_trans h8 hg.size⟩
theorem kq_b {n0 bs bn : Nat} {w : World} (hB : n0 ≤ w.heap.size) (W : World) (l : Nat) (o o' : Obj) (hl : w.heap.size ≤ l) (h : W.heap[l]? = some o) (h1 : o.isCells = false) (h2 : o.isWalk = false) : Kq n0 bs bn W (W.putObj l o') :=
  ⟨belowK_b hB W l o o' hl h h1 h2, fun b cs t fr _ _ _ h4 => (World.putObj_heap_other (fun e => by subst e; rw [h] at h4; cases h4; cases h1)).trans h4⟩
/-- Whole numbers lie at the beginning of a block of cells. -/
def KRow (W : World) (g : Nat) (U : List Int) : Prop := ∃ cur : Array Value, W.heap[g]? = some (.cells cur 3 (0, 0)) ∧ ∀ (j : Nat) (z : Int), U[j]? = some z → cur[j]? = some (.int .i64 z)
theorem KRow.of {B g c : Nat} {W : World} {U : List Int} (h : Ints B W (.slice (some ⟨g, 0, none⟩) U.length c) U) : KRow W g U := by
  have hc := ints_cells h
  rcases h.2 with ⟨h, _⟩ | ⟨g', cap', cur, h, _, hh, _⟩
  · cases h
  · cases h
    exact ⟨cur, hh, fun j z hz => by rw [← hc j z hz, Blk_cell hh]⟩
theorem KRow.row {W : World} {g : Nat} {U : List Int} (h : KRow W g U) : Row0 W g U := fun j z hz => by
  obtain ⟨cur, h1, h2⟩ := h
  rw [Blk_cell h1]; exact h2 j z hz
theorem KRow.frozen {W : World} {g : Nat} {U : List Int} (h : KRow W g U) (j : Nat) : W.frozen? ⟨g, j, none⟩ = false := by
  obtain ⟨cur, h1, h2⟩ := h
  exact Blk_frozen h1 j
theorem KRow.set {W : World} {g j : Nat} {U : List Int} (h : KRow W g U) (hj : j < U.length) (z : Int) : KRow (W.setCell ⟨g, j, none⟩ (.int .i64 z)) g (U.set j z) := by
  obtain ⟨cur, h1, h2⟩ := h
  refine ⟨_, blk_put h1, fun k y hk => ?_⟩
  have h3 := h2 j (U[j]) (List.getElem?_eq_getElem hj)
  have hjc : j < cur.size := (Array.getElem?_eq_some_iff.1 h3).1
  by_cases e : j = k
  · subst e
    rw [List.getElem?_set_self hj] at hk
    injection hk with hk
    rw [Array.getElem?_setIfInBounds_self_of_lt hjc, hk]
  · rw [List.getElem?_set_ne e] at hk
    rw [Array.getElem?_setIfInBounds_ne e]
    exact h2 k y hk
theorem KRow.heap {W W' : World} {g : Nat} {U : List Int} (h : KRow W g U) (he : W'.heap[g]? = W.heap[g]?) : KRow W' g U := by
  obtain ⟨cur, h1, h2⟩ := h
  exact ⟨cur, he.trans h1, h2⟩
/-- Some children at their new places, the others as they were. -/
def mix (f : Int → Int) (K : List Int) (j : Nat) : List Int := (K.take j).map f ++ K.drop j
theorem mix_len (f : Int → Int) (K : List Int) (j : Nat) : (mix f K j).length = K.length := by simp [mix]; omega
theorem mix_at {f : Int → Int} {K : List Int} {j : Nat} {k : Int} (h : K[j]? = some k) : (mix f K j)[j]? = some k := by
  have := lt_of_some h
  unfold mix
  rw [List.getElem?_append_right (by simp; omega), List.getElem?_drop]
  simp only [List.length_map, List.length_take]
  rw [show j + (j - min j K.length) = j by omega]; exact h
theorem mix_step {f : Int → Int} {K : List Int} {j : Nat} {k : Int} (h : K[j]? = some k) : (mix f K j).set j (f k) = mix f K (j + 1) := by
  have hj := lt_of_some h
  unfold mix
  rw [take_snoc K j k h, List.map_append, List.set_append_right _ _ (by simp; omega)]
  have hd : K.drop j = k :: K.drop (j + 1) := by
    rw [List.drop_eq_getElem_cons hj]
    congr 1
    have := (List.getElem?_eq_some_iff.1 h).2
    exact this
  rw [hd]
  simp only [List.length_map, List.length_take]
  rw [show j - min j K.length = 0 by omega, List.set_cons_zero]
  simp
theorem append_nd (W : World) (B : Nat) (v : Value) (ps : List (Nd × Value)) (y : Nd) (A : Option Addr) (n c : Nat) (hB : B ≤ W.heap.size) (hown : OwnN B W v ps) (hf : OwnF B W (.slice A n c) y.l) (hl : ps.length ≤ 100000) :
    ∃ g c' w8, Sem.run Tryd.prog (heldAppend #[22, 22] 22 #[v, .slice (some ⟨W.heap.size, 0, none⟩) 1 1]) (W.alloc (.cells (ndArr y (.slice A n c)) 27)) = .ok (.slice (some ⟨g, 0, none⟩) (ps.length + 1) c') w8 ∧
      OwnN B w8 (.slice (some ⟨g, 0, none⟩) (ps.length + 1) c') (ps ++ [(y, .slice A n c)]) ∧ (W.alloc (.cells (ndArr y (.slice A n c)) 27)).grownBy w8 v.ownBlock := by
  obtain ⟨j0, hj, hy0, hy1, hy2⟩ := info_parts ndInfo
  obtain ⟨v', w8, h1, h2, h3, h4⟩ := run_append_own (P := Tryd.prog) (W.alloc (.cells (ndArr y (.slice A n c)) 27)) B 22 22 27 j0 _ 9 104 Tryd.underlying22 hj hy0 hy1 hy2 rfl (by decide) v ps.length (nCells ps) (hown.1.alloc _) ⟨W.heap.size, 0, none⟩ 1 1 (ndArr y (.slice A n c)).toList rfl (new_cellsT W 27 (ndArr y (.slice A n c)).toList W.heap.size rfl) (nd_one y A n c) (by unfold maxLen; omega) (by omega) (by simp; omega)
  obtain ⟨g, c', rfl⟩ := ownsRow_succ h2
  refine ⟨g, c', w8, h1, ⟨?_, ?_⟩, h3⟩
  · rw [nCells_snoc, List.length_append, List.length_singleton]; exact h2
  · intro x hx
    rw [List.mem_append, List.mem_singleton] at hx
    have hk : ∀ (v2 : Value) (l2 : List Fld), OwnF B W v2 l2 → OwnF B w8 v2 l2 := fun v2 l2 h => (World.ownsRow.alloc h _).kept h3 (rows_ne h hown.1 (by decide))
    rcases hx with hx | rfl
    · exact hk _ _ (hown.2 x hx)
    · exact hk _ _ hf
theorem kq_append {n0 bs bn : Nat} {A C : World} {row : Option Nat} (hg : A.grownBy C row) (hn : n0 ≤ A.heap.size) (hr : ∀ r, row = some r → n0 ≤ r ∧ ∃ cur, A.heap[r]? = some (.cells cur 27 (0, 0))) : Kq n0 bs bn A C :=
  ⟨(Below.refl n0 A).grown hg hn (fun k hk => (hr k hk).1), fun b cs t fr _ _ ht h4 => (hg.block b (Array.getElem?_eq_some_iff.1 h4).1 (fun e => by
    obtain ⟨cur, hc⟩ := (hr b e.symm).2
    rw [h4] at hc
    injection hc with hc
    injection hc with _ hc _
    exact ht hc)).trans h4⟩
theorem kq_set (n0 bs bn : Nat) (A : World) (b j : Nat) (v : Value) (hb : b = bs ∨ b = bn) (hn : n0 ≤ b) : Kq n0 bs bn A (A.setCell ⟨b, j, none⟩ v) :=
  ⟨(Below.refl n0 A).setCell (p := ⟨b, j, none⟩) hn v, fun k cs t fr h1 h2 _ h4 => (set_far A b j k v (by rcases hb with rfl | rfl <;> omega)).trans h4⟩
theorem row_heap {W W' : World} {B e size n : Nat} {v : Value} {xs : List Value} (h : W.ownsRow B e size v n xs) (hh : ∀ g, B ≤ g → g < W.heap.size → W'.heap[g]? = W.heap[g]?) : W'.ownsRow B e size v n xs := by
  refine ⟨h.1, ?_⟩
  rcases h.2 with h | ⟨g, cap, cur, h1, h2, h3, h4⟩
  · exact .inl h
  · exact .inr ⟨g, cap, cur, h1, h2, (hh g h2 (Array.getElem?_eq_some_iff.1 h3).1).trans h3, h4⟩
theorem ownN_heap {W W' : World} {B : Nat} {v : Value} {ps : List (Nd × Value)} (h : OwnN B W v ps) (hh : ∀ g, B ≤ g → g < W.heap.size → W'.heap[g]? = W.heap[g]?) : OwnN B W' v ps := ⟨row_heap h.1 hh, fun x hx => row_heap (h.2 x hx) hh⟩
theorem own27 {W : World} {B n : Nat} {v : Value} {xs : List Value} (h : W.ownsRow B 27 9 v n xs) : ∀ r, v.ownBlock = some r → B ≤ r ∧ ∃ cur, W.heap[r]? = some (.cells cur 27 (0, 0)) := fun r hr => by
  rcases h.2 with ⟨rfl, _⟩ | ⟨g, cap, cur, rfl, h2, h3, _⟩
  · cases hr
  · cases hr; exact ⟨h2, cur, h3⟩
end Go.Proofs.YteikpeaakmbihaaDoor.T
/- Sub, the program's: what holds behind one round. -/
namespace Go.Proofs.YteikpeaakmbihaaDoor.T
open Go.RowKit Go.Shelf
set_option maxHeartbeats 1000000 in
theorem end17 (l : List Nd) (L c b o : Nat) (w : World) (s1 B : Nat) (pre : List (Fin L)) (p : Nat) (hp : p < L) (y Y : Nd) (NW : List Int) (W W6 w7 w8 : World) (vA : Option Addr) (pn vc : Nat) (ps : List (Nd × Value)) (g8 c8 : Nat) (vY : Value) (ob : Obj)
    (hpn : pn = ps.length) (hw : w.heap.size + 1 < s1) (HO6 : KeepsOthers W W6) (HQ6 : Kq w.heap.size s1 (s1 + 1) W W6) (hq6 : s1 + 5 ≤ W6.heap.size) (hB7 : Below W6.drew.heap.size W6.drew w7)
    (hown8 : OwnN (s1 + 5) w8 (.slice (some ⟨g8, 0, none⟩) (pn + 1) c8) (ps ++ [(Y, vY)])) (hgrow8 : (w7.alloc ob).grownBy w8 (Value.slice vA pn vc).ownBlock) (hx8 : w8.heap[s1]? = some (.cells #[.slice vA pn vc] 24))
    (HOW6 : OwnN (s1 + 5) W6 (.slice vA pn vc) ps) (N1 : W6.heap[s1 + 1]? = some (.cells ((NW.set p (pn : Int)).map (Value.int .i64)).toArray 3)) (N2 : W6.heap[s1 + 1 + 1]? = some (.cells #[.slice (some ⟨s1 + 1, 0, none⟩) L L] 34))
    (N3 : W6.heap[w.heap.size]? = some (.cells #[.slice (some ⟨b, o, none⟩) L c] 24)) (N4 : W6.heap[w.heap.size + 1]? = some (.cells #[.slice none 0 0] 24))
    (hps : ps.map Prod.fst = (made l L pre).1) (hNW : (made l L pre).2 = NW) (hy : l[p]? = some y) (hY : wk y ((kids y).map fun k => NW.getD k.toNat 0) = Y) (hBI : Below w.heap.size w W) :
    KeepsFrom B W (w8.setCell ⟨s1, 0, none⟩ (.slice (some ⟨g8, 0, none⟩) (pn + 1) c8)) ∧ Kq w.heap.size s1 (s1 + 1) W (w8.setCell ⟨s1, 0, none⟩ (.slice (some ⟨g8, 0, none⟩) (pn + 1) c8)) ∧ SI l L c b o w s1 (pre ++ [⟨p, hp⟩]) (w8.setCell ⟨s1, 0, none⟩ (.slice (some ⟨g8, 0, none⟩) (pn + 1) c8)) := by
  have hA7 : Below W6.heap.size W6 w7 := (Below.refl W6.heap.size W6).drew.trans hB7
  have hA : Below W6.heap.size W6 (w7.alloc ob) := hA7.alloc hA7.size _
  have hAs := hA.size
  have ho7 := ownN_heap HOW6 (W' := w7.alloc ob) (fun g _ hg => hA.block g hg)
  have hrow := own27 ho7.1
  have hfar : ∀ q, q < s1 + 5 → w8.heap[q]? = W6.heap[q]? := fun q hq => (hgrow8.block q (by omega) (fun e => by have := (hrow q e.symm).1; omega)).trans (hA.block q (by omega))
  obtain ⟨W', hW'⟩ : ∃ W', w8.setCell ⟨s1, 0, none⟩ (.slice (some ⟨g8, 0, none⟩) (pn + 1) c8) = W' := ⟨_, rfl⟩
  have hset : ∀ q, q ≠ s1 → W'.heap[q]? = w8.heap[q]? := fun q hq => by rw [← hW']; exact set_far _ _ _ _ _ hq
  have hfarW : ∀ q, q < s1 + 5 → q ≠ s1 → W'.heap[q]? = W6.heap[q]? := fun q hq hne => (hset q hne).trans (hfar q hq)
  have h8s := hgrow8.size
  have hWs : W'.heap.size = w8.heap.size := by rw [← hW']; simp
  have hK8 : Kq w.heap.size s1 (s1 + 1) W6 w8 := (Kq.of_below hA (by omega)).trans (kq_append hgrow8 (by omega) (fun r hr => ⟨by have := (hrow r hr).1; omega, (hrow r hr).2⟩))
  have hKW : Kq w.heap.size s1 (s1 + 1) W W' := HQ6.trans (hK8.trans (by rw [← hW']; exact kq_set _ _ _ _ _ _ _ (.inl rfl) (by omega)))
  have hKO : KeepsOthers W W' := HO6.trans ((KeepsOthers.of_grownBy (grown_belowK hA none) (fun j o e => by cases e)).trans ((KeepsOthers.of_grownBy hgrow8 (fun j o hj ho => by
    obtain ⟨_, cur, hc⟩ := hrow j hj
    rw [hc] at ho
    injection ho with ho
    subst ho; rfl)).trans (by rw [← hW']; exact KeepsOthers.setCell _ _ _)))
  have hs1 : W'.heap[s1]? = some (.cells #[.slice (some ⟨g8, 0, none⟩) (pn + 1) c8] 24) := by rw [← hW', blk_put hx8]; simp
  have hst : stp l (made l L pre) p = ((made l L pre).1 ++ [Y], NW.set p (pn : Int)) := by
    have hl : (made l L pre).1.length = pn := by rw [← hps, List.length_map, hpn]
    unfold stp
    simp only [hy]
    rw [hNW, hY, hl]
  rw [hW']
  refine ⟨hKO.from B, hKW, ⟨⟨_, ps ++ [(Y, vY)], hs1, ownN_heap hown8 (fun g h1 _ => hset g (by omega)), ?_⟩, ?_, ?_, ?_, ?_, by omega⟩, hBI.trans hKW.1⟩
  · rw [made_snoc, hst]; simp [hps]
  · rw [made_snoc, hst]; exact (hfarW _ (by omega) (by omega)).trans N1
  · exact (hfarW _ (by omega) (by omega)).trans N2
  · exact (hfarW _ (by omega) (by omega)).trans N3
  · exact (hfarW _ (by omega) (by omega)).trans N4
end Go.Proofs.YteikpeaakmbihaaDoor.T
