/- Joined by program: PSubA, PSubE, PApp, PSub, PNorm. -/
import Derived.Test.YtjakeidbajkdcaaGreatDoorG16
import Derived.Test.YtjakeidbajkdcaaGreatDoorG18
import Derived.Test.YtjakeidbajkdcaaGreatDoorG00
import Derived.Test.YtjakeidbajkdcaaGreatDoorG19
import Derived.Maps.AppendAt
/- Sub, the program's: words. -/
namespace Go.Proofs.YtjakeidbajkdcaaGreatDoor.T
open Go.RowKit Go.Shelf
attribute [local go_sem] Oper.semAt_some
/-- append, as a thing of its own, which the walk leaves standing. -/
def heldAppend (ats : Array TypeId) (ty : TypeId) (args : Array Value) : Sem Value := Builtin.append_ ats ty args
theorem builtin_held (ats : Array TypeId) (ty : TypeId) (cs : Array Bool) (args : Array Value) : builtin .append ats ty cs args = (do pure (.value (← heldAppend ats ty args))) := rfl
attribute [local go_sem ↓ 2000] builtin_held
/-- Sub's answer: its error, and these nodes. -/
def SubPost (err : Int) (N : List Nd) (w : World) (e : Ending) (w' : World) : Prop := ∃ v ps, e = .returned (.tuple #[.agg #[v], .int .i64 err]) ∧ ps.map Prod.fst = N ∧ OwnN w.heap.size w' v ps ∧ Below w.heap.size w w'
theorem ownN_nil (B : Nat) (W : World) : OwnN B W (.slice none 0 0) [] := ⟨World.ownsRow_nil _ _ _ _, fun x hx => by simp at hx⟩
theorem res17 (tmps : Array Value) (W : World) (p : Nat) (A : Option Addr) (n c : Nat) (er : Int) (h2 : tmps[4]?.getD undef = .pointer (some ⟨p, 0, none⟩)) (h3 : tmps[5]?.getD undef = .int .i64 er) (hb : W.cell? ⟨p, 0, none⟩ = some (.slice A n c)) :
    Sem.run Tryz.prog (results Tryz.f34 tmps) W = .ok (.tuple #[.agg #[.slice A n c], .int .i64 er]) W := by
  simp [results, Tryz.results34, go_sem, h2, h3, hb]
/-- What the places told so far have made. -/
def made (l : List Nd) (L : Nat) (pre : List (Fin L)) : List Nd × List Int := (pre.map Fin.val).foldl (stp l) ([], List.replicate L 0)
theorem made_snoc (l : List Nd) (L : Nat) (pre : List (Fin L)) (x : Fin L) : made l L (pre ++ [x]) = stp l (made l L pre) x.1 := by simp [made]
def SB (l : List Nd) (L c b o : Nat) (w : World) (s1 : Nat) (pre : List (Fin L)) (W : World) : Prop :=
  (∃ v ps, W.heap[s1]? = some (.cells #[v] 25) ∧ OwnN (s1 + 5) W v ps ∧ ps.map Prod.fst = (made l L pre).1) ∧ W.heap[s1 + 1]? = some (.cells ((made l L pre).2.map (Value.int .i64)).toArray 3) ∧
  W.heap[s1 + 1 + 1]? = some (.cells #[.slice (some ⟨s1 + 1, 0, none⟩) L L] 74) ∧ W.heap[w.heap.size]? = some (.cells #[.slice (some ⟨b, o, none⟩) L c] 25) ∧ W.heap[w.heap.size + 1]? = some (.cells #[.slice none 0 0] 25) ∧ s1 + 5 ≤ W.heap.size
def SI (l : List Nd) (L c b o : Nat) (w : World) (s1 : Nat) (pre : List (Fin L)) (W : World) : Prop := SB l L c b o w s1 pre W ∧ Below w.heap.size w W
theorem row_abide {X Y : World} {B e size n : Nat} {v : Value} {xs : List Value} {row : Option Nat} (h : X.ownsRow B e size v n xs) (hg : X.grownBy Y row) (hr : ∀ r, row = some r → ∃ o, X.heap[r]? = some o ∧ o.isCells = false) : Y.ownsRow B e size v n xs :=
  h.kept hg (by
    rcases h.2 with ⟨rfl, _⟩ | ⟨g, cap, cur, rfl, _, hh, _⟩
    · exact .inl rfl
    · refine .inr (fun e' => ?_)
      obtain ⟨o, ho, hc⟩ := hr g e'.symm
      rw [hh] at ho
      cases ho
      cases hc)
theorem blk_abide {X Y : World} {b t : Nat} {cs : Array Value} {row : Option Nat} (h : X.heap[b]? = some (.cells cs t (0, 0))) (hg : X.grownBy Y row) (hr : ∀ r, row = some r → ∃ o, X.heap[r]? = some o ∧ o.isCells = false) : Y.heap[b]? = some (.cells cs t (0, 0)) :=
  (hg.block b (Array.getElem?_eq_some_iff.1 h).1 (fun e' => by obtain ⟨o, ho, hc⟩ := hr b e'.symm; rw [h] at ho; cases ho; cases hc)).trans h
theorem si_own (l : List Nd) (L c b o : Nat) (w : World) (s1 B : Nat) (hB : w.heap.size ≤ B) : OwnFrom B (SI l L c b o w s1) := by
  unfold SI
  refine OwnFrom.and (Own.from ?_ _) (ownFrom_below (Nat.le_refl _) hB)
  rintro pre X Y row ⟨⟨v, ps, h1, h2, h3⟩, h4, h5, h6, h7, h8⟩ hg hr
  exact ⟨⟨v, ps, blk_abide h1 hg hr, ⟨row_abide h2.1 hg hr, fun y hy => row_abide (h2.2 y hy) hg hr⟩, h3⟩, blk_abide h4 hg hr, blk_abide h5 hg hr, blk_abide h6 hg hr, blk_abide h7 hg hr, Nat.le_trans h8 hg.size⟩
theorem kq_b {n0 bs bn : Nat} {w : World} (hB : n0 ≤ w.heap.size) (W : World) (l : Nat) (o o' : Obj) (hl : w.heap.size ≤ l) (h : W.heap[l]? = some o) (h1 : o.isCells = false) (h2 : o.isWalk = false) : Kq n0 bs bn W (W.putObj l o') :=
  ⟨belowK_b hB W l o o' hl h h1 h2, fun b cs t fr _ _ _ h4 => (World.putObj_heap_other (fun e => by subst e; rw [h] at h4; cases h4; cases h1)).trans h4⟩
/-- Whole numbers lie at the beginning of a block of cells. -/
def KRow (W : World) (g : Nat) (U : List Int) : Prop := ∃ cur : Array Value, W.heap[g]? = some (.cells cur 3 (0, 0)) ∧ ∀ (j : Nat) (z : Int), U[j]? = some z → cur[j]? = some (.int .i64 z)
theorem KRow.of {B g c : Nat} {W : World} {U : List Int} (h : Ints B W (.slice (some ⟨g, 0, none⟩) U.length c) U) : KRow W g U := by
  have hc := ints_cells h
  rcases h.2 with ⟨h, _⟩ | ⟨g', cap', cur, h, _, hh, _⟩
  · cases h
  · cases h
    exact ⟨cur, hh, fun j z hz => by rw [← hc j z hz, Blk_cell hh]⟩
theorem KRow.row {W : World} {g : Nat} {U : List Int} (h : KRow W g U) : Row0 W g U := fun j z hz => by
  obtain ⟨cur, h1, h2⟩ := h
  rw [Blk_cell h1]; exact h2 j z hz
theorem KRow.frozen {W : World} {g : Nat} {U : List Int} (h : KRow W g U) (j : Nat) : W.frozen? ⟨g, j, none⟩ = false := by
  obtain ⟨cur, h1, h2⟩ := h
  exact Blk_frozen h1 j
theorem KRow.set {W : World} {g j : Nat} {U : List Int} (h : KRow W g U) (hj : j < U.length) (z : Int) : KRow (W.setCell ⟨g, j, none⟩ (.int .i64 z)) g (U.set j z) := by
  obtain ⟨cur, h1, h2⟩ := h
  refine ⟨_, blk_put h1, fun k y hk => ?_⟩
  have h3 := h2 j (U[j]) (List.getElem?_eq_getElem hj)
  have hjc : j < cur.size := (Array.getElem?_eq_some_iff.1 h3).1
  by_cases e : j = k
  · subst e
    rw [List.getElem?_set_self hj] at hk
    injection hk with hk
    rw [Array.getElem?_setIfInBounds_self_of_lt hjc, hk]
  · rw [List.getElem?_set_ne e] at hk
    rw [Array.getElem?_setIfInBounds_ne e]
    exact h2 k y hk
theorem KRow.heap {W W' : World} {g : Nat} {U : List Int} (h : KRow W g U) (he : W'.heap[g]? = W.heap[g]?) : KRow W' g U := by
  obtain ⟨cur, h1, h2⟩ := h
  exact ⟨cur, he.trans h1, h2⟩
/-- Some children at their new places, the others as they were. -/
def mix (f : Int → Int) (K : List Int) (j : Nat) : List Int := (K.take j).map f ++ K.drop j
theorem mix_len (f : Int → Int) (K : List Int) (j : Nat) : (mix f K j).length = K.length := by simp [mix]; omega
theorem mix_at {f : Int → Int} {K : List Int} {j : Nat} {k : Int} (h : K[j]? = some k) : (mix f K j)[j]? = some k := by
  have := lt_of_some h
  unfold mix
  rw [List.getElem?_append_right (by simp; omega), List.getElem?_drop]
  simp only [List.length_map, List.length_take]
  rw [show j + (j - min j K.length) = j by omega]; exact h
theorem mix_step {f : Int → Int} {K : List Int} {j : Nat} {k : Int} (h : K[j]? = some k) : (mix f K j).set j (f k) = mix f K (j + 1) := by
  have hj := lt_of_some h
  unfold mix
  rw [take_snoc K j k h, List.map_append, List.set_append_right _ _ (by simp; omega)]
  have hd : K.drop j = k :: K.drop (j + 1) := by
    rw [List.drop_eq_getElem_cons hj]
    congr 1
    have := (List.getElem?_eq_some_iff.1 h).2
    exact this
  rw [hd]
  simp only [List.length_map, List.length_take]
  rw [show j - min j K.length = 0 by omega, List.set_cons_zero]
  simp
theorem append_nd (W : World) (B : Nat) (v : Value) (ps : List (Nd × Value)) (y : Nd) (A : Option Addr) (n c : Nat) (hB : B ≤ W.heap.size) (hown : OwnN B W v ps) (hf : OwnF B W (.slice A n c) y.l) (hl : ps.length ≤ 100000) :
    ∃ g c' w8, Sem.run Tryz.prog (heldAppend #[23, 23] 23 #[v, .slice (some ⟨W.heap.size, 0, none⟩) 1 1]) (W.alloc (.cells (ndArr y (.slice A n c)) 37)) = .ok (.slice (some ⟨g, 0, none⟩) (ps.length + 1) c') w8 ∧
      OwnN B w8 (.slice (some ⟨g, 0, none⟩) (ps.length + 1) c') (ps ++ [(y, .slice A n c)]) ∧ (W.alloc (.cells (ndArr y (.slice A n c)) 37)).grownBy w8 v.ownBlock := by
  obtain ⟨j0, hj, hy0, hy1, hy2⟩ := info_parts ndInfo
  obtain ⟨v', w8, h1, h2, h3, h4⟩ := run_append_own (P := Tryz.prog) (W.alloc (.cells (ndArr y (.slice A n c)) 37)) B 23 23 37 j0 _ 9 104 Tryz.underlying23 hj hy0 hy1 hy2 rfl (by decide) v ps.length (nCells ps) (hown.1.alloc _) ⟨W.heap.size, 0, none⟩ 1 1 (ndArr y (.slice A n c)).toList rfl (new_cellsT W 37 (ndArr y (.slice A n c)).toList W.heap.size rfl) (nd_one y A n c) (by unfold maxLen; omega) (by omega) (by simp; omega)
  obtain ⟨g, c', rfl⟩ := ownsRow_succ h2
  refine ⟨g, c', w8, h1, ⟨?_, ?_⟩, h3⟩
  · rw [nCells_snoc, List.length_append, List.length_singleton]; exact h2
  · intro x hx
    rw [List.mem_append, List.mem_singleton] at hx
    have hk : ∀ (v2 : Value) (l2 : List Fld), OwnF B W v2 l2 → OwnF B w8 v2 l2 := fun v2 l2 h => (World.ownsRow.alloc h _).kept h3 (rows_ne h hown.1 (by decide))
    rcases hx with hx | rfl
    · exact hk _ _ (hown.2 x hx)
    · exact hk _ _ hf
theorem kq_append {n0 bs bn : Nat} {A C : World} {row : Option Nat} (hg : A.grownBy C row) (hn : n0 ≤ A.heap.size) (hr : ∀ r, row = some r → n0 ≤ r ∧ ∃ cur, A.heap[r]? = some (.cells cur 37 (0, 0))) : Kq n0 bs bn A C :=
  ⟨(Below.refl n0 A).grown hg hn (fun k hk => (hr k hk).1), fun b cs t fr _ _ ht h4 => (hg.block b (Array.getElem?_eq_some_iff.1 h4).1 (fun e => by
    obtain ⟨cur, hc⟩ := (hr b e.symm).2
    rw [h4] at hc
    injection hc with hc
    injection hc with _ hc _
    exact ht hc)).trans h4⟩
theorem kq_set (n0 bs bn : Nat) (A : World) (b j : Nat) (v : Value) (hb : b = bs ∨ b = bn) (hn : n0 ≤ b) : Kq n0 bs bn A (A.setCell ⟨b, j, none⟩ v) :=
  ⟨(Below.refl n0 A).setCell (p := ⟨b, j, none⟩) hn v, fun k cs t fr h1 h2 _ h4 => (set_far A b j k v (by rcases hb with rfl | rfl <;> omega)).trans h4⟩
theorem row_heap {W W' : World} {B e size n : Nat} {v : Value} {xs : List Value} (h : W.ownsRow B e size v n xs) (hh : ∀ g, B ≤ g → g < W.heap.size → W'.heap[g]? = W.heap[g]?) : W'.ownsRow B e size v n xs := by
  refine ⟨h.1, ?_⟩
  rcases h.2 with h | ⟨g, cap, cur, h1, h2, h3, h4⟩
  · exact .inl h
  · exact .inr ⟨g, cap, cur, h1, h2, (hh g h2 (Array.getElem?_eq_some_iff.1 h3).1).trans h3, h4⟩
theorem ownN_heap {W W' : World} {B : Nat} {v : Value} {ps : List (Nd × Value)} (h : OwnN B W v ps) (hh : ∀ g, B ≤ g → g < W.heap.size → W'.heap[g]? = W.heap[g]?) : OwnN B W' v ps := ⟨row_heap h.1 hh, fun x hx => row_heap (h.2 x hx) hh⟩
theorem own27 {W : World} {B n : Nat} {v : Value} {xs : List Value} (h : W.ownsRow B 37 9 v n xs) : ∀ r, v.ownBlock = some r → B ≤ r ∧ ∃ cur, W.heap[r]? = some (.cells cur 37 (0, 0)) := fun r hr => by
  rcases h.2 with ⟨rfl, _⟩ | ⟨g, cap, cur, rfl, h2, h3, _⟩
  · cases hr
  · cases hr; exact ⟨h2, cur, h3⟩
end Go.Proofs.YtjakeidbajkdcaaGreatDoor.T
/- Sub, the program's: what holds behind one round. -/
namespace Go.Proofs.YtjakeidbajkdcaaGreatDoor.T
open Go.RowKit Go.Shelf
set_option maxHeartbeats 1000000 in
theorem end17 (l : List Nd) (L c b o : Nat) (w : World) (s1 B : Nat) (pre : List (Fin L)) (p : Nat) (hp : p < L) (y Y : Nd) (NW : List Int) (W W6 w7 w8 : World) (vA : Option Addr) (pn vc : Nat) (ps : List (Nd × Value)) (g8 c8 : Nat) (vY : Value) (ob : Obj)
    (hpn : pn = ps.length) (hw : w.heap.size + 1 < s1) (HO6 : KeepsOthers W W6) (HQ6 : Kq w.heap.size s1 (s1 + 1) W W6) (hq6 : s1 + 5 ≤ W6.heap.size) (hB7 : Below W6.drew.heap.size W6.drew w7)
    (hown8 : OwnN (s1 + 5) w8 (.slice (some ⟨g8, 0, none⟩) (pn + 1) c8) (ps ++ [(Y, vY)])) (hgrow8 : (w7.alloc ob).grownBy w8 (Value.slice vA pn vc).ownBlock) (hx8 : w8.heap[s1]? = some (.cells #[.slice vA pn vc] 25))
    (HOW6 : OwnN (s1 + 5) W6 (.slice vA pn vc) ps) (N1 : W6.heap[s1 + 1]? = some (.cells ((NW.set p (pn : Int)).map (Value.int .i64)).toArray 3)) (N2 : W6.heap[s1 + 1 + 1]? = some (.cells #[.slice (some ⟨s1 + 1, 0, none⟩) L L] 74))
    (N3 : W6.heap[w.heap.size]? = some (.cells #[.slice (some ⟨b, o, none⟩) L c] 25)) (N4 : W6.heap[w.heap.size + 1]? = some (.cells #[.slice none 0 0] 25))
    (hps : ps.map Prod.fst = (made l L pre).1) (hNW : (made l L pre).2 = NW) (hy : l[p]? = some y) (hY : wk y ((kids y).map fun k => NW.getD k.toNat 0) = Y) (hBI : Below w.heap.size w W) :
    KeepsFrom B W (w8.setCell ⟨s1, 0, none⟩ (.slice (some ⟨g8, 0, none⟩) (pn + 1) c8)) ∧ Kq w.heap.size s1 (s1 + 1) W (w8.setCell ⟨s1, 0, none⟩ (.slice (some ⟨g8, 0, none⟩) (pn + 1) c8)) ∧ SI l L c b o w s1 (pre ++ [⟨p, hp⟩]) (w8.setCell ⟨s1, 0, none⟩ (.slice (some ⟨g8, 0, none⟩) (pn + 1) c8)) := by
  have hA7 : Below W6.heap.size W6 w7 := (Below.refl W6.heap.size W6).drew.trans hB7
  have hA : Below W6.heap.size W6 (w7.alloc ob) := hA7.alloc hA7.size _
  have hAs := hA.size
  have ho7 := ownN_heap HOW6 (W' := w7.alloc ob) (fun g _ hg => hA.block g hg)
  have hrow := own27 ho7.1
  have hfar : ∀ q, q < s1 + 5 → w8.heap[q]? = W6.heap[q]? := fun q hq => (hgrow8.block q (by omega) (fun e => by have := (hrow q e.symm).1; omega)).trans (hA.block q (by omega))
  obtain ⟨W', hW'⟩ : ∃ W', w8.setCell ⟨s1, 0, none⟩ (.slice (some ⟨g8, 0, none⟩) (pn + 1) c8) = W' := ⟨_, rfl⟩
  have hset : ∀ q, q ≠ s1 → W'.heap[q]? = w8.heap[q]? := fun q hq => by rw [← hW']; exact set_far _ _ _ _ _ hq
  have hfarW : ∀ q, q < s1 + 5 → q ≠ s1 → W'.heap[q]? = W6.heap[q]? := fun q hq hne => (hset q hne).trans (hfar q hq)
  have h8s := hgrow8.size
  have hWs : W'.heap.size = w8.heap.size := by rw [← hW']; simp
  have hK8 : Kq w.heap.size s1 (s1 + 1) W6 w8 := (Kq.of_below hA (by omega)).trans (kq_append hgrow8 (by omega) (fun r hr => ⟨by have := (hrow r hr).1; omega, (hrow r hr).2⟩))
  have hKW : Kq w.heap.size s1 (s1 + 1) W W' := HQ6.trans (hK8.trans (by rw [← hW']; exact kq_set _ _ _ _ _ _ _ (.inl rfl) (by omega)))
  have hKO : KeepsOthers W W' := HO6.trans ((KeepsOthers.of_grownBy (grown_belowK hA none) (fun j o e => by cases e)).trans ((KeepsOthers.of_grownBy hgrow8 (fun j o hj ho => by
    obtain ⟨_, cur, hc⟩ := hrow j hj
    rw [hc] at ho
    injection ho with ho
    subst ho; rfl)).trans (by rw [← hW']; exact KeepsOthers.setCell _ _ _)))
  have hs1 : W'.heap[s1]? = some (.cells #[.slice (some ⟨g8, 0, none⟩) (pn + 1) c8] 25) := by rw [← hW', blk_put hx8]; simp
  have hst : stp l (made l L pre) p = ((made l L pre).1 ++ [Y], NW.set p (pn : Int)) := by
    have hl : (made l L pre).1.length = pn := by rw [← hps, List.length_map, hpn]
    unfold stp
    simp only [hy]
    rw [hNW, hY, hl]
  rw [hW']
  refine ⟨hKO.from B, hKW, ⟨⟨_, ps ++ [(Y, vY)], hs1, ownN_heap hown8 (fun g h1 _ => hset g (by omega)), ?_⟩, ?_, ?_, ?_, ?_, by omega⟩, hBI.trans hKW.1⟩
  · rw [made_snoc, hst]; simp [hps]
  · rw [made_snoc, hst]; exact (hfarW _ (by omega) (by omega)).trans N1
  · exact (hfarW _ (by omega) (by omega)).trans N2
  · exact (hfarW _ (by omega) (by omega)).trans N3
  · exact (hfarW _ (by omega) (by omega)).trans N4
end Go.Proofs.YtjakeidbajkdcaaGreatDoor.T
/- append of a copy's node, in a region that draws its order, in a round. -/
namespace Go.Proofs.YtjakeidbajkdcaaGreatDoor.T
open Go.RowKit Go.Shelf
attribute [local go_sem] Oper.semAt_some
attribute [local go_sem ↓ 2000] builtin_held
theorem append_nd' (W : World) (s1 : Nat) (vA : Option Addr) (pn vc : Nat) (ps : List (Nd × Value)) (y : Nd) (A : Option Addr) (c : Nat) (hpn : pn = ps.length) (hB : s1 + 5 ≤ W.heap.size) (hS : W.heap[s1]? = some (.cells #[.slice vA pn vc] 25)) (hown : OwnN (s1 + 5) W (.slice vA pn vc) ps) (hf : OwnF (s1 + 5) W (.slice A y.l.length c) y.l) (hl : pn ≤ 100000) :
    ∃ g c' w8, Sem.run Tryz.prog (heldAppend #[23, 23] 23 #[.slice vA pn vc, .slice (some ⟨W.heap.size, 0, none⟩) 1 1]) (W.alloc (.cells (ndArr y (.slice A y.l.length c)) 37)) = .ok (.slice (some ⟨g, 0, none⟩) (pn + 1) c') w8 ∧
      OwnN (s1 + 5) w8 (.slice (some ⟨g, 0, none⟩) (pn + 1) c') (ps ++ [(y, .slice A y.l.length c)]) ∧ (W.alloc (.cells (ndArr y (.slice A y.l.length c)) 37)).grownBy w8 (Value.slice vA pn vc).ownBlock ∧ w8.heap[s1]? = some (.cells #[.slice vA pn vc] 25) := by
  subst hpn
  obtain ⟨g, c', w8, h1, h2, h3⟩ := append_nd W (s1 + 5) (.slice vA ps.length vc) ps y A y.l.length c hB hown hf hl
  refine ⟨g, c', w8, h1, h2, h3, ?_⟩
  have hne : (Value.slice vA ps.length vc).ownBlock ≠ some s1 := fun e => by
    have := (own27 hown.1 s1 e).1
    omega
  refine (h3.block s1 (by rw [World.size_alloc]; omega) (fun e => hne e.symm)).trans ?_
  exact (((Below.refl W.heap.size W).alloc (Nat.le_refl _) _).block s1 (by omega)).trans hS
/-- The region that bears this number. -/
def reg (k : Nat) : Code → Option Code
  | .region id ops d => if id = k then some (.region id ops d) else none
  | .seq a b => match reg k a with | some c => some c | none => reg k b
  | .cond _ a b => match reg k a with | some c => some c | none => reg k b
  | .block _ c => reg k c
  | .loop c => reg k c
  | .scope c => reg k c
  | .rangeFunc _ _ a b => match reg k a with | some c => some c | none => reg k b
  | _ => none
noncomputable def reg17 : Code := (Tryz.f34.body.bind (reg 17)).getD .skip
set_option maxRecDepth 1000000 in
set_option maxHeartbeats 8000000 in
theorem app17 (lr m : Nat) (h1m : 1 ≤ m) (hmx : Tryz.prog.follows .mixedOrders = true) (Q : Exit → Act → World → Prop) (HP : Hid (∀ c a a' w, Q (.panic c) a w → Q (.panic c) a' w)) (W6 : World) (e0 s1 gk K ck b o L c p : Nat) (vA : Option Addr) (pn vc : Nat) (ps : List (Nd × Value)) (HPN : Hid (pn = ps.length)) (hpl : pn ≤ 100000)
    (hp : p < L) (hq6 : s1 + 5 ≤ W6.heap.size) (_he0 : e0 < s1) (hE : W6.cell? ⟨e0, 0, none⟩ = some (.slice (some ⟨b, o, none⟩) L c)) (HS6 : Hid (W6.heap[s1]? = some (.cells #[.slice vA pn vc] 25))) (hcs6 : W6.cell? ⟨s1, 0, none⟩ = some (.slice vA pn vc))
    (HOW6 : Hid (OwnN (s1 + 5) W6 (.slice vA pn vc) ps)) (yk ya yb yc yn yp : Int) (ynm ys : ByteArray) (vl : Value)
    (m0 : W6.cell? ⟨b, o + p * 9, none⟩ = some (.int .i64 yk)) (m1 : W6.cell? ⟨b, o + p * 9 + 1, none⟩ = some (.int .i64 ya)) (m2 : W6.cell? ⟨b, o + p * 9 + 2, none⟩ = some (.int .i64 yb)) (m3 : W6.cell? ⟨b, o + p * 9 + 3, none⟩ = some (.int .i64 yc)) (m4 : W6.cell? ⟨b, o + p * 9 + 4, none⟩ = some (.int .i64 yn)) (m5 : W6.cell? ⟨b, o + p * 9 + 5, none⟩ = some (.string ynm)) (m6 : W6.cell? ⟨b, o + p * 9 + 6, none⟩ = some (.string ys)) (m7 : W6.cell? ⟨b, o + p * 9 + 7, none⟩ = some vl) (m8 : W6.cell? ⟨b, o + p * 9 + 8, none⟩ = some (.int .i64 yp))
    (k2 a2 b2 c2 n2 : Int) (nm2 t2 : ByteArray) (l2 : List Fld) (p2 : Int)
    (HWK : Hid (CallsIn (Fence.wide.inRound lr) (m - 1) Tryz.prog 62 #[.agg #[.int .i64 yk, .int .i64 ya, .int .i64 yb, .int .i64 yc, .int .i64 yn, .string ynm, .string ys, vl, .int .i64 yp], .slice (some ⟨gk, 0, none⟩) K ck] W6.drew (fun e w' => ∃ A c, e = .returned (.agg #[.int .i64 k2, .int .i64 a2, .int .i64 b2, .int .i64 c2, .int .i64 n2, .string nm2, .string t2, .slice A l2.length c, .int .i64 p2]) ∧ OwnF W6.drew.heap.size w' (.slice A l2.length c) l2 ∧ Below W6.drew.heap.size W6.drew w')))
    (u0 u1 u3 u4 u5 u6 u8 u11 u12 u13 u14 u15 u16 u17 u18 u19 u20 u21 u22 u23 u24 u25 u26 u27 u28 u29 u30 u31 u32 u33 u34 u35 u36 u37 u38 u39 u40 u41 u42 u43 u44 u45 u46 u47 u48 u49 u50 u51 u52 u53 u54 u55 u56 u57 u58 u59 u60 u61 u62 u63 u64 u65 u66 u67 u68 u69 u70 u71 u72 u73 u74 u75 u76 : Value)
    (HQ : Hid (∀ (t64 t65 t66 t67 t68 t69 t70 t71 t72 t73 t74 t75 : Value) (A7 : Option Addr) (c7 : Nat) (w7 : World) (g8 c8 : Nat) (w8 : World), Below W6.drew.heap.size W6.drew w7 → OwnF W6.drew.heap.size w7 (.slice A7 l2.length c7) l2 → OwnN (s1 + 5) w8 (.slice (some ⟨g8, 0, none⟩) (pn + 1) c8) (ps ++ [(⟨k2, a2, b2, c2, n2, nm2, t2, l2, p2⟩, .slice A7 l2.length c7)]) →
      (w7.alloc (.cells #[.int .i64 k2, .int .i64 a2, .int .i64 b2, .int .i64 c2, .int .i64 n2, .string nm2, .string t2, .slice A7 l2.length c7, .int .i64 p2] 37)).grownBy w8 (Value.slice vA pn vc).ownBlock → w8.heap[s1]? = some (.cells #[.slice vA pn vc] 25) → Q .normal ⟨#[u0, u1, .pointer (some ⟨e0, 0, none⟩), u3, u4, u5, u6, .pointer (some ⟨s1, 0, none⟩), u8, .int .i64 ((p : Nat) : Int), .slice (some ⟨gk, 0, none⟩) K ck, u11, u12, u13, u14, u15, u16, u17, u18, u19, u20, u21, u22, u23, u24, u25, u26, u27, u28, u29, u30, u31, u32, u33, u34, u35, u36, u37, u38, u39, u40, u41, u42, u43, u44, u45, u46, u47, u48, u49, u50, u51, u52, u53, u54, u55, u56, u57, u58, u59, u60, u61, u62, u63, t64, t65, t66, t67, t68, t69, t70, t71, t72, t73, t74, t75, u76], []⟩ (w8.setCell ⟨s1, 0, none⟩ (.slice (some ⟨g8, 0, none⟩) (pn + 1) c8)))) :
    Code.wpIn (Fence.wide.inRound lr) m Tryz.prog reg17 Q ⟨#[u0, u1, .pointer (some ⟨e0, 0, none⟩), u3, u4, u5, u6, .pointer (some ⟨s1, 0, none⟩), u8, .int .i64 ((p : Nat) : Int), .slice (some ⟨gk, 0, none⟩) K ck, u11, u12, u13, u14, u15, u16, u17, u18, u19, u20, u21, u22, u23, u24, u25, u26, u27, u28, u29, u30, u31, u32, u33, u34, u35, u36, u37, u38, u39, u40, u41, u42, u43, u44, u45, u46, u47, u48, u49, u50, u51, u52, u53, u54, u55, u56, u57, u58, u59, u60, u61, u62, u63, u64, u65, u66, u67, u68, u69, u70, u71, u72, u73, u74, u75, u76], []⟩ W6 := by
  conv => arg 4; whnf
  refine wpIn_region_any hmx ?_
  change wpAnyIn _ _ _ _ _ _ _ _ _ (World.drew _)
  refine take_any (i := 0) (v := ?_) (by kernel_rfl) rfl (by kernel_rfl) (by kernel_rfl) (by kernel_rfl) (fun c b u h => HP.out c _ b u h) ⟨Or.inl ⟨by rfl, ?_⟩, fun _ => rfl⟩ ?_
  rotate_left
  · (intro w; go_simp; try with_reducible rfl)
  refine take_any (i := 2) (v := ?_) (by kernel_rfl) rfl (by kernel_rfl) (by kernel_rfl) (by kernel_rfl) (fun c b u h => HP.out c _ b u h) ⟨Or.inl ⟨by rfl, ?_⟩, fun _ => rfl⟩ ?_
  rotate_left
  · (intro w; go_simp; try with_reducible rfl)
  refine take_any (i := 4) (v := ?_) (by kernel_rfl) rfl (by kernel_rfl) (by kernel_rfl) (by kernel_rfl) (fun c b u h => HP.out c _ b u h) ⟨Or.inl ⟨by rfl, ?_⟩, fun _ => rfl⟩ ?_
  rotate_left
  · (intro w; go_simp; try with_reducible rfl)
  refine take_any (i := 7) (v := ?_) (by kernel_rfl) rfl (by kernel_rfl) (by kernel_rfl) (by kernel_rfl) (fun c b u h => HP.out c _ b u h) ⟨Or.inl ⟨by rfl, ?_⟩, fun _ => rfl⟩ ?_
  rotate_left
  · (intro w; go_simp; try with_reducible rfl)
  refine wpAnyIn_ready (rs := [1, 3]) (by kernel_rfl) (by simp) ?_
  refine AllReadyIn.cons rfl (fun K hK => ?_) ?_
  · go_simp
    try (refine hK _ _ ?_; clear hK K)
    refine wpAnyIn_ready (rs := [3]) (by kernel_rfl) (by simp) ?_
    refine AllReadyIn.cons rfl (fun K hK => ?_) ?_
    · go_simp
      try (refine hK _ _ ?_; clear hK K)
      refine take_any (i := 5) (v := ?_) (by kernel_rfl) rfl (by kernel_rfl) (by kernel_rfl) (by kernel_rfl) (fun c b u h => HP.out c _ b u h) ⟨Or.inl ⟨by rfl, ?_⟩, fun _ => rfl⟩ ?_
      rotate_left
      · (intro w; go_simp; try with_reducible rfl)
      refine wpAnyIn_ready (rs := [6]) (by kernel_rfl) (by simp) ?_
      refine AllReadyIn.cons rfl (fun K hK => ?_) ?_
      · go_simp
        try (refine hK _ _ ?_; clear hK K)
        refine wpAnyIn_ready (rs := [8]) (by kernel_rfl) (by simp) ?_
        refine AllReadyIn.cons rfl (fun K hK => ?_) ?_
        · go_simp
          gi_wp2_with (refine ⟨trivial, ?_⟩; gi_at_call 62; refine (HWK.out).mono ?_; rintro e w7 ⟨A7, c7, rfl, hof, hb7⟩; have HB7 := Lib.hid hb7; have HF7 := Lib.hid hof; have hs7 : W6.heap.size ≤ w7.heap.size := (HB7.out.size); have hq7 : s1 < w7.heap.size := (by omega); have HS7 : Hid (w7.heap[s1]? = some (.cells #[.slice vA pn vc] 25)) := (Lib.hid ((HB7.out.block s1 (by show s1 < W6.heap.size; omega)).trans HS6.out)); have cs7 : w7.cell? ⟨s1, 0, none⟩ = some (.slice vA pn vc) := (Blk_cell HS7.out 0).trans rfl; obtain ⟨g8, c8, w8, hap, hown8, hgrow8, hx8⟩ := append_nd' w7 s1 vA pn vc ps ⟨k2, a2, b2, c2, n2, nm2, t2, l2, p2⟩ A7 c7 HPN.out (by omega) HS7.out (ownN_heap HOW6.out (fun g _ hg => HB7.out.block g hg)) (row_mono HF7.out (by show s1 + 5 ≤ W6.heap.size; omega)) hpl; unfold ndArr at hap hgrow8; simp only at hap hgrow8; have HO8 := Lib.hid hown8; have HG8 := Lib.hid hgrow8; have HX8 := Lib.hid hx8; have cs8 : w8.cell? ⟨s1, 0, none⟩ = some (.slice vA pn vc) := (Blk_cell hx8 0).trans rfl; have fs8 : w8.frozen? ⟨s1, 0, none⟩ = false := Blk_frozen hx8 0; clear hof hb7 hown8 hgrow8 hx8)
          try (refine hK _ _ ?_; clear hK K)
          refine wpAnyIn_ready (rs := [9]) (by kernel_rfl) (by simp) ?_
          refine AllReadyIn.cons rfl (fun K hK => ?_) ?_
          · go_simp
            try (refine hK _ _ ?_; clear hK K)
            refine wpAnyIn_ready (rs := [10]) (by kernel_rfl) (by simp) ?_
            refine AllReadyIn.cons rfl (fun K hK => ?_) ?_
            · go_simp
              try (refine hK _ _ ?_; clear hK K)
              refine take_any (i := 11) (v := ?_) (by kernel_rfl) rfl (by kernel_rfl) (by kernel_rfl) (by kernel_rfl) (fun c b u h => HP.out c _ b u h) ⟨Or.inl ⟨by rfl, ?_⟩, fun _ => rfl⟩ ?_
              rotate_left
              · (intro w; go_simp; try with_reducible rfl)
              refine wpAnyIn_ready (rs := [12]) (by kernel_rfl) (by simp) ?_
              refine AllReadyIn.cons rfl (fun K hK => ?_) ?_
              · go_simp
                try (refine hK _ _ ?_; clear hK K)
                refine wpAnyIn_done (by kernel_rfl) ?_ _
                exact HQ.out _ _ _ _ _ _ _ _ _ _ _ _ _ _ _ _ _ _ HB7.out HF7.out HO8.out HG8.out HX8.out
              exact AllReadyIn.nil
            exact AllReadyIn.nil
          exact AllReadyIn.nil
        exact AllReadyIn.nil
      exact AllReadyIn.nil
    exact AllReadyIn.nil
  refine AllReadyIn.cons rfl (fun K hK => ?_) ?_
  · go_simp
    try (refine hK _ _ ?_; clear hK K)
    refine take_any (i := 5) (v := ?_) (by kernel_rfl) rfl (by kernel_rfl) (by kernel_rfl) (by kernel_rfl) (fun c b u h => HP.out c _ b u h) ⟨Or.inl ⟨by rfl, ?_⟩, fun _ => rfl⟩ ?_
    rotate_left
    · (intro w; go_simp; try with_reducible rfl)
    refine wpAnyIn_ready (rs := [1, 6]) (by kernel_rfl) (by simp) ?_
    refine AllReadyIn.cons rfl (fun K hK => ?_) ?_
    · go_simp
      try (refine hK _ _ ?_; clear hK K)
      refine wpAnyIn_ready (rs := [6]) (by kernel_rfl) (by simp) ?_
      refine AllReadyIn.cons rfl (fun K hK => ?_) ?_
      · go_simp
        try (refine hK _ _ ?_; clear hK K)
        refine wpAnyIn_ready (rs := [8]) (by kernel_rfl) (by simp) ?_
        refine AllReadyIn.cons rfl (fun K hK => ?_) ?_
        · go_simp
          gi_wp2_with (refine ⟨trivial, ?_⟩; gi_at_call 62; refine (HWK.out).mono ?_; rintro e w7 ⟨A7, c7, rfl, hof, hb7⟩; have HB7 := Lib.hid hb7; have HF7 := Lib.hid hof; have hs7 : W6.heap.size ≤ w7.heap.size := (HB7.out.size); have hq7 : s1 < w7.heap.size := (by omega); have HS7 : Hid (w7.heap[s1]? = some (.cells #[.slice vA pn vc] 25)) := (Lib.hid ((HB7.out.block s1 (by show s1 < W6.heap.size; omega)).trans HS6.out)); have cs7 : w7.cell? ⟨s1, 0, none⟩ = some (.slice vA pn vc) := (Blk_cell HS7.out 0).trans rfl; obtain ⟨g8, c8, w8, hap, hown8, hgrow8, hx8⟩ := append_nd' w7 s1 vA pn vc ps ⟨k2, a2, b2, c2, n2, nm2, t2, l2, p2⟩ A7 c7 HPN.out (by omega) HS7.out (ownN_heap HOW6.out (fun g _ hg => HB7.out.block g hg)) (row_mono HF7.out (by show s1 + 5 ≤ W6.heap.size; omega)) hpl; unfold ndArr at hap hgrow8; simp only at hap hgrow8; have HO8 := Lib.hid hown8; have HG8 := Lib.hid hgrow8; have HX8 := Lib.hid hx8; have cs8 : w8.cell? ⟨s1, 0, none⟩ = some (.slice vA pn vc) := (Blk_cell hx8 0).trans rfl; have fs8 : w8.frozen? ⟨s1, 0, none⟩ = false := Blk_frozen hx8 0; clear hof hb7 hown8 hgrow8 hx8)
          try (refine hK _ _ ?_; clear hK K)
          refine wpAnyIn_ready (rs := [9]) (by kernel_rfl) (by simp) ?_
          refine AllReadyIn.cons rfl (fun K hK => ?_) ?_
          · go_simp
            try (refine hK _ _ ?_; clear hK K)
            refine wpAnyIn_ready (rs := [10]) (by kernel_rfl) (by simp) ?_
            refine AllReadyIn.cons rfl (fun K hK => ?_) ?_
            · go_simp
              try (refine hK _ _ ?_; clear hK K)
              refine take_any (i := 11) (v := ?_) (by kernel_rfl) rfl (by kernel_rfl) (by kernel_rfl) (by kernel_rfl) (fun c b u h => HP.out c _ b u h) ⟨Or.inl ⟨by rfl, ?_⟩, fun _ => rfl⟩ ?_
              rotate_left
              · (intro w; go_simp; try with_reducible rfl)
              refine wpAnyIn_ready (rs := [12]) (by kernel_rfl) (by simp) ?_
              refine AllReadyIn.cons rfl (fun K hK => ?_) ?_
              · go_simp
                try (refine hK _ _ ?_; clear hK K)
                refine wpAnyIn_done (by kernel_rfl) ?_ _
                exact HQ.out _ _ _ _ _ _ _ _ _ _ _ _ _ _ _ _ _ _ HB7.out HF7.out HO8.out HG8.out HX8.out
              exact AllReadyIn.nil
            exact AllReadyIn.nil
          exact AllReadyIn.nil
        exact AllReadyIn.nil
      exact AllReadyIn.nil
    refine AllReadyIn.cons rfl (fun K hK => ?_) ?_
    · go_simp
      try (refine hK _ _ ?_; clear hK K)
      refine wpAnyIn_ready (rs := [1, 8]) (by kernel_rfl) (by simp) ?_
      refine AllReadyIn.cons rfl (fun K hK => ?_) ?_
      · go_simp
        try (refine hK _ _ ?_; clear hK K)
        refine wpAnyIn_ready (rs := [8]) (by kernel_rfl) (by simp) ?_
        refine AllReadyIn.cons rfl (fun K hK => ?_) ?_
        · go_simp
          gi_wp2_with (refine ⟨trivial, ?_⟩; gi_at_call 62; refine (HWK.out).mono ?_; rintro e w7 ⟨A7, c7, rfl, hof, hb7⟩; have HB7 := Lib.hid hb7; have HF7 := Lib.hid hof; have hs7 : W6.heap.size ≤ w7.heap.size := (HB7.out.size); have hq7 : s1 < w7.heap.size := (by omega); have HS7 : Hid (w7.heap[s1]? = some (.cells #[.slice vA pn vc] 25)) := (Lib.hid ((HB7.out.block s1 (by show s1 < W6.heap.size; omega)).trans HS6.out)); have cs7 : w7.cell? ⟨s1, 0, none⟩ = some (.slice vA pn vc) := (Blk_cell HS7.out 0).trans rfl; obtain ⟨g8, c8, w8, hap, hown8, hgrow8, hx8⟩ := append_nd' w7 s1 vA pn vc ps ⟨k2, a2, b2, c2, n2, nm2, t2, l2, p2⟩ A7 c7 HPN.out (by omega) HS7.out (ownN_heap HOW6.out (fun g _ hg => HB7.out.block g hg)) (row_mono HF7.out (by show s1 + 5 ≤ W6.heap.size; omega)) hpl; unfold ndArr at hap hgrow8; simp only at hap hgrow8; have HO8 := Lib.hid hown8; have HG8 := Lib.hid hgrow8; have HX8 := Lib.hid hx8; have cs8 : w8.cell? ⟨s1, 0, none⟩ = some (.slice vA pn vc) := (Blk_cell hx8 0).trans rfl; have fs8 : w8.frozen? ⟨s1, 0, none⟩ = false := Blk_frozen hx8 0; clear hof hb7 hown8 hgrow8 hx8)
          try (refine hK _ _ ?_; clear hK K)
          refine wpAnyIn_ready (rs := [9]) (by kernel_rfl) (by simp) ?_
          refine AllReadyIn.cons rfl (fun K hK => ?_) ?_
          · go_simp
            try (refine hK _ _ ?_; clear hK K)
            refine wpAnyIn_ready (rs := [10]) (by kernel_rfl) (by simp) ?_
            refine AllReadyIn.cons rfl (fun K hK => ?_) ?_
            · go_simp
              try (refine hK _ _ ?_; clear hK K)
              refine take_any (i := 11) (v := ?_) (by kernel_rfl) rfl (by kernel_rfl) (by kernel_rfl) (by kernel_rfl) (fun c b u h => HP.out c _ b u h) ⟨Or.inl ⟨by rfl, ?_⟩, fun _ => rfl⟩ ?_
              rotate_left
              · (intro w; go_simp; try with_reducible rfl)
              refine wpAnyIn_ready (rs := [12]) (by kernel_rfl) (by simp) ?_
              refine AllReadyIn.cons rfl (fun K hK => ?_) ?_
              · go_simp
                try (refine hK _ _ ?_; clear hK K)
                refine wpAnyIn_done (by kernel_rfl) ?_ _
                exact HQ.out _ _ _ _ _ _ _ _ _ _ _ _ _ _ _ _ _ _ HB7.out HF7.out HO8.out HG8.out HX8.out
              exact AllReadyIn.nil
            exact AllReadyIn.nil
          exact AllReadyIn.nil
        exact AllReadyIn.nil
      refine AllReadyIn.cons rfl (fun K hK => ?_) ?_
      · go_simp
        gi_wp2_with (refine ⟨trivial, ?_⟩; gi_at_call 62; refine (HWK.out).mono ?_; rintro e w7 ⟨A7, c7, rfl, hof, hb7⟩; have HB7 := Lib.hid hb7; have HF7 := Lib.hid hof; have hs7 : W6.heap.size ≤ w7.heap.size := (HB7.out.size); have hq7 : s1 < w7.heap.size := (by omega); have HS7 : Hid (w7.heap[s1]? = some (.cells #[.slice vA pn vc] 25)) := (Lib.hid ((HB7.out.block s1 (by show s1 < W6.heap.size; omega)).trans HS6.out)); have cs7 : w7.cell? ⟨s1, 0, none⟩ = some (.slice vA pn vc) := (Blk_cell HS7.out 0).trans rfl; obtain ⟨g8, c8, w8, hap, hown8, hgrow8, hx8⟩ := append_nd' w7 s1 vA pn vc ps ⟨k2, a2, b2, c2, n2, nm2, t2, l2, p2⟩ A7 c7 HPN.out (by omega) HS7.out (ownN_heap HOW6.out (fun g _ hg => HB7.out.block g hg)) (row_mono HF7.out (by show s1 + 5 ≤ W6.heap.size; omega)) hpl; unfold ndArr at hap hgrow8; simp only at hap hgrow8; have HO8 := Lib.hid hown8; have HG8 := Lib.hid hgrow8; have HX8 := Lib.hid hx8; have cs8 : w8.cell? ⟨s1, 0, none⟩ = some (.slice vA pn vc) := (Blk_cell hx8 0).trans rfl; have fs8 : w8.frozen? ⟨s1, 0, none⟩ = false := Blk_frozen hx8 0; clear hof hb7 hown8 hgrow8 hx8)
        try (refine hK _ _ ?_; clear hK K)
        refine wpAnyIn_ready (rs := [1, 9]) (by kernel_rfl) (by simp) ?_
        refine AllReadyIn.cons rfl (fun K hK => ?_) ?_
        · go_simp
          try (refine hK _ _ ?_; clear hK K)
          refine wpAnyIn_ready (rs := [9]) (by kernel_rfl) (by simp) ?_
          refine AllReadyIn.cons rfl (fun K hK => ?_) ?_
          · go_simp
            try (refine hK _ _ ?_; clear hK K)
            refine wpAnyIn_ready (rs := [10]) (by kernel_rfl) (by simp) ?_
            refine AllReadyIn.cons rfl (fun K hK => ?_) ?_
            · go_simp
              try (refine hK _ _ ?_; clear hK K)
              refine take_any (i := 11) (v := ?_) (by kernel_rfl) rfl (by kernel_rfl) (by kernel_rfl) (by kernel_rfl) (fun c b u h => HP.out c _ b u h) ⟨Or.inl ⟨by rfl, ?_⟩, fun _ => rfl⟩ ?_
              rotate_left
              · (intro w; go_simp; try with_reducible rfl)
              refine wpAnyIn_ready (rs := [12]) (by kernel_rfl) (by simp) ?_
              refine AllReadyIn.cons rfl (fun K hK => ?_) ?_
              · go_simp
                try (refine hK _ _ ?_; clear hK K)
                refine wpAnyIn_done (by kernel_rfl) ?_ _
                exact HQ.out _ _ _ _ _ _ _ _ _ _ _ _ _ _ _ _ _ _ HB7.out HF7.out HO8.out HG8.out HX8.out
              exact AllReadyIn.nil
            exact AllReadyIn.nil
          exact AllReadyIn.nil
        refine AllReadyIn.cons rfl (fun K hK => ?_) ?_
        · go_simp
          try (refine hK _ _ ?_; clear hK K)
          refine wpAnyIn_ready (rs := [1]) (by kernel_rfl) (by simp) ?_
          refine AllReadyIn.cons rfl (fun K hK => ?_) ?_
          · go_simp
            try (refine hK _ _ ?_; clear hK K)
            refine wpAnyIn_ready (rs := [10]) (by kernel_rfl) (by simp) ?_
            refine AllReadyIn.cons rfl (fun K hK => ?_) ?_
            · go_simp
              try (refine hK _ _ ?_; clear hK K)
              refine take_any (i := 11) (v := ?_) (by kernel_rfl) rfl (by kernel_rfl) (by kernel_rfl) (by kernel_rfl) (fun c b u h => HP.out c _ b u h) ⟨Or.inl ⟨by rfl, ?_⟩, fun _ => rfl⟩ ?_
              rotate_left
              · (intro w; go_simp; try with_reducible rfl)
              refine wpAnyIn_ready (rs := [12]) (by kernel_rfl) (by simp) ?_
              refine AllReadyIn.cons rfl (fun K hK => ?_) ?_
              · go_simp
                try (refine hK _ _ ?_; clear hK K)
                refine wpAnyIn_done (by kernel_rfl) ?_ _
                exact HQ.out _ _ _ _ _ _ _ _ _ _ _ _ _ _ _ _ _ _ HB7.out HF7.out HO8.out HG8.out HX8.out
              exact AllReadyIn.nil
            exact AllReadyIn.nil
          exact AllReadyIn.nil
        exact AllReadyIn.nil
      exact AllReadyIn.nil
    exact AllReadyIn.nil
  exact AllReadyIn.nil
set_option maxRecDepth 1000000 in
theorem app17_any (lr m : Nat) (h1m : 1 ≤ m) (hmx : Tryz.prog.follows .mixedOrders = true) (Q : Exit → Act → World → Prop) (W6 : World) (e0 s1 gk K ck b o L c p : Nat) (vA : Option Addr) (pn vc : Nat) (ps : List (Nd × Value)) (HPN : Hid (pn = ps.length)) (hpl : pn ≤ 100000)
    (hp : p < L) (hq6 : s1 + 5 ≤ W6.heap.size) (he0 : e0 < s1) (hE : W6.cell? ⟨e0, 0, none⟩ = some (.slice (some ⟨b, o, none⟩) L c)) (HS6 : Hid (W6.heap[s1]? = some (.cells #[.slice vA pn vc] 25))) (hcs6 : W6.cell? ⟨s1, 0, none⟩ = some (.slice vA pn vc))
    (HOW6 : Hid (OwnN (s1 + 5) W6 (.slice vA pn vc) ps)) (yk ya yb yc yn yp : Int) (ynm ys : ByteArray) (vl : Value)
    (m0 : W6.cell? ⟨b, o + p * 9, none⟩ = some (.int .i64 yk)) (m1 : W6.cell? ⟨b, o + p * 9 + 1, none⟩ = some (.int .i64 ya)) (m2 : W6.cell? ⟨b, o + p * 9 + 2, none⟩ = some (.int .i64 yb)) (m3 : W6.cell? ⟨b, o + p * 9 + 3, none⟩ = some (.int .i64 yc)) (m4 : W6.cell? ⟨b, o + p * 9 + 4, none⟩ = some (.int .i64 yn)) (m5 : W6.cell? ⟨b, o + p * 9 + 5, none⟩ = some (.string ynm)) (m6 : W6.cell? ⟨b, o + p * 9 + 6, none⟩ = some (.string ys)) (m7 : W6.cell? ⟨b, o + p * 9 + 7, none⟩ = some vl) (m8 : W6.cell? ⟨b, o + p * 9 + 8, none⟩ = some (.int .i64 yp))
    (k2 a2 b2 c2 n2 : Int) (nm2 t2 : ByteArray) (l2 : List Fld) (p2 : Int)
    (HWK : Hid (CallsIn (Fence.wide.inRound lr) (m - 1) Tryz.prog 62 #[.agg #[.int .i64 yk, .int .i64 ya, .int .i64 yb, .int .i64 yc, .int .i64 yn, .string ynm, .string ys, vl, .int .i64 yp], .slice (some ⟨gk, 0, none⟩) K ck] W6.drew (fun e w' => ∃ A c, e = .returned (.agg #[.int .i64 k2, .int .i64 a2, .int .i64 b2, .int .i64 c2, .int .i64 n2, .string nm2, .string t2, .slice A l2.length c, .int .i64 p2]) ∧ OwnF W6.drew.heap.size w' (.slice A l2.length c) l2 ∧ Below W6.drew.heap.size W6.drew w')))
    (u0 u1 u3 u4 u5 u6 u8 u11 u12 u13 u14 u15 u16 u17 u18 u19 u20 u21 u22 u23 u24 u25 u26 u27 u28 u29 u30 u31 u32 u33 u34 u35 u36 u37 u38 u39 u40 u41 u42 u43 u44 u45 u46 u47 u48 u49 u50 u51 u52 u53 u54 u55 u56 u57 u58 u59 u60 u61 u62 u63 u64 u65 u66 u67 u68 u69 u70 u71 u72 u73 u74 u75 u76 : Value)
    (HQ : Hid (∀ (t64 t65 t66 t67 t68 t69 t70 t71 t72 t73 t74 t75 : Value) (A7 : Option Addr) (c7 : Nat) (w7 : World) (g8 c8 : Nat) (w8 : World), Below W6.drew.heap.size W6.drew w7 → OwnF W6.drew.heap.size w7 (.slice A7 l2.length c7) l2 → OwnN (s1 + 5) w8 (.slice (some ⟨g8, 0, none⟩) (pn + 1) c8) (ps ++ [(⟨k2, a2, b2, c2, n2, nm2, t2, l2, p2⟩, .slice A7 l2.length c7)]) →
      (w7.alloc (.cells #[.int .i64 k2, .int .i64 a2, .int .i64 b2, .int .i64 c2, .int .i64 n2, .string nm2, .string t2, .slice A7 l2.length c7, .int .i64 p2] 37)).grownBy w8 (Value.slice vA pn vc).ownBlock → w8.heap[s1]? = some (.cells #[.slice vA pn vc] 25) → Q .normal ⟨#[u0, u1, .pointer (some ⟨e0, 0, none⟩), u3, u4, u5, u6, .pointer (some ⟨s1, 0, none⟩), u8, .int .i64 ((p : Nat) : Int), .slice (some ⟨gk, 0, none⟩) K ck, u11, u12, u13, u14, u15, u16, u17, u18, u19, u20, u21, u22, u23, u24, u25, u26, u27, u28, u29, u30, u31, u32, u33, u34, u35, u36, u37, u38, u39, u40, u41, u42, u43, u44, u45, u46, u47, u48, u49, u50, u51, u52, u53, u54, u55, u56, u57, u58, u59, u60, u61, u62, u63, t64, t65, t66, t67, t68, t69, t70, t71, t72, t73, t74, t75, u76], []⟩ (w8.setCell ⟨s1, 0, none⟩ (.slice (some ⟨g8, 0, none⟩) (pn + 1) c8)))) :
    Code.wpIn (Fence.wide.inRound lr) m Tryz.prog reg17 Q ⟨#[u0, u1, .pointer (some ⟨e0, 0, none⟩), u3, u4, u5, u6, .pointer (some ⟨s1, 0, none⟩), u8, .int .i64 ((p : Nat) : Int), .slice (some ⟨gk, 0, none⟩) K ck, u11, u12, u13, u14, u15, u16, u17, u18, u19, u20, u21, u22, u23, u24, u25, u26, u27, u28, u29, u30, u31, u32, u33, u34, u35, u36, u37, u38, u39, u40, u41, u42, u43, u44, u45, u46, u47, u48, u49, u50, u51, u52, u53, u54, u55, u56, u57, u58, u59, u60, u61, u62, u63, u64, u65, u66, u67, u68, u69, u70, u71, u72, u73, u74, u75, u76], []⟩ W6 :=
  Go.wpIn_mono (app17 lr m h1m hmx (fun e a w => e = .normal ∧ Q .normal a w) (Lib.hid (fun c a a' w h => by cases h.1)) W6 e0 s1 gk K ck b o L c p vA pn vc ps HPN hpl hp hq6 he0 hE HS6 hcs6 HOW6 yk ya yb yc yn yp ynm ys vl m0 m1 m2 m3 m4 m5 m6 m7 m8 k2 a2 b2 c2 n2 nm2 t2 l2 p2 HWK _ _ _ _ _ _ _ _ _ _ _ _ _ _ _ _ _ _ _ _ _ _ _ _ _ _ _ _ _ _ _ _ _ _ _ _ _ _ _ _ _ _ _ _ _ _ _ _ _ _ _ _ _ _ _ _ _ _ _ _ _ _ _ _ _ _ _ _ _ _ _ _ _ (Lib.hid (fun _ _ _ _ _ _ _ _ _ _ _ _ A7 c7 w7 g8 c8 w8 h1 h2 h3 h4 h5 => ⟨rfl, HQ.out _ _ _ _ _ _ _ _ _ _ _ _ A7 c7 w7 g8 c8 w8 h1 h2 h3 h4 h5⟩))) (fun e a w h => h.1 ▸ h.2)
end Go.Proofs.YtjakeidbajkdcaaGreatDoor.T
/- Sub, the program's. -/
namespace Go.Proofs.YtjakeidbajkdcaaGreatDoor.T
open Go.RowKit Go.Shelf
attribute [local go_sem] Oper.semAt_some
theorem nextAt {W : World} {o x : Obj} {k : Nat} (h : W.heap[k]? = some x) : (W.alloc o).heap[k]? = some x := (Below.heap_alloc W o k (Array.getElem?_eq_some_iff.1 h).1).trans h
theorem newAt {W : World} {o : Obj} {n : Nat} (h : W.heap.size = n) : (W.alloc o).heap[n]? = some o := h ▸ World.alloc_heap_new W o
theorem allocs5 (w : World) (a0 a1 a2 a3 a4 : Obj) : ∀ W, ((((w.alloc a0).alloc a1).alloc a2).alloc a3).alloc a4 = W → W.heap[w.heap.size]? = some a0 ∧ W.heap[w.heap.size + 1]? = some a1 ∧ W.heap[w.heap.size + 1 + 1]? = some a2 ∧ W.heap[w.heap.size + 1 + 1 + 1]? = some a3 ∧ W.heap[w.heap.size + 1 + 1 + 1 + 1]? = some a4 := by
  rintro W rfl
  exact ⟨nextAt (nextAt (nextAt (nextAt (newAt rfl)))), nextAt (nextAt (nextAt (newAt (by simp)))), nextAt (nextAt (newAt (by simp))), nextAt (newAt (by simp)), newAt (by simp)⟩
set_option maxRecDepth 100000 in
set_option maxHeartbeats 8000000 in
theorem sub_in (n : Nat) (hn : 3 ≤ n) (l : List Nd) (L c b o : Nat) (HL : Hid (l.length = L)) (hL : L ≤ 600) (hm : may l = 0) (w : World) (hK : Kws w.heap.size w) (hb : b < w.heap.size) (HN : Hid (NdsAt w.heap.size w b o l)) (HS : Hid (∀ x ∈ l, Small x)) (HC : Hid (∀ x ∈ l, Clonable x)) (i : Nat) (hi : i < L) (hc : L ≤ c ∧ c ≤ 9223372036854775807) :
    CallsIn Fence.wide n Tryz.prog 34 #[.agg #[.slice (some ⟨b, o, none⟩) L c], .int .i64 (i : Int)] w (SubPost 0 (cp l i []) w) := by
  have h1 : 1 ≤ n := by omega
  have hw2 : Below w.heap.size w ((w.alloc (.cells #[.slice (some ⟨b, o, none⟩) L c] 25)).alloc (.cells #[.slice none 0 0] 25)) := ((Below.refl _ w).alloc (Nat.le_refl _) _).alloc (by simp) _
  have HM : Hid (Calls Tryz.prog 13 #[.agg #[.slice (some ⟨b, o, none⟩) L c]] ((w.alloc (.cells #[.slice (some ⟨b, o, none⟩) L c] 25)).alloc (.cells #[.slice none 0 0] 25)) fun e w' => e = .returned (.int .i64 0) ∧ Below (w.heap.size + 2) ((w.alloc (.cells #[.slice (some ⟨b, o, none⟩) L c] 25)).alloc (.cells #[.slice none 0 0] 25)) w') := Lib.hid (by
    have hfm := (may_zero hm).1
    have hs2 : ((w.alloc (.cells #[.slice (some ⟨b, o, none⟩) L c] 25)).alloc (.cells #[.slice none 0 0] 25)).heap.size = w.heap.size + 2 := by simp
    have := depth_any l L c b o HL (by rw [← HL.out]; omega) hL _ (Kws_mono (hK.on hw2) hw2.size) (by rw [hs2]; omega) (Lib.hid ((HN.out.below hw2 hb).mono hw2.size)) HS
    have h := may_any l (.slice (some ⟨b, o, none⟩) L c) _ (Kws_mono (hK.on hw2) hw2.size) ⟨some ⟨b, o, none⟩, c, by rw [HL.out], by rw [HL.out]; exact hc, fun h => (by cases h), fun _ => ⟨b, o, rfl, by rw [hs2]; omega, (HN.out.below hw2 hb).mono hw2.size⟩⟩ HS.out
    rw [hm, hs2] at h
    exact h)
  have hmk := make_arr L (by omega)
  have hd1 : decide (L ≤ i) = false := by simpa using hi
  have hd2 : ¬ L ≤ i := by omega
  have hd3 : decide ((i : Int) < 0) = false := by simp
  have hcE := (cell_under1 (w.alloc (.cells #[.slice (some ⟨b, o, none⟩) L c] 25)) (.cells #[.slice none 0 0] 25) w.heap.size 0 (by simp)).trans (new_cellsT' w 25 [.slice (some ⟨b, o, none⟩) L c] 0 _ rfl)
  refine callsIn_of_wp_marks Tryz.func34 rfl trivial ?_ rfl
  simp only [Tryz.ntmps34, List.size_toArray, List.length_cons, List.length_nil, Nat.reduceAdd, Nat.reduceSub, Array.replicate_succ, Array.replicate_zero, List.push_toArray, List.append_toArray, List.nil_append, List.cons_append]
  gi_wp2_with (first
    | (refine ⟨trivial, ?_⟩; gi_at_call 13; refine (callsIn_wide.2 HM.out).mono ?_; rintro e w1 ⟨rfl, hb1⟩; have c1 := (hb1.cell (p := ⟨w.heap.size, 0, none⟩) (by simp)).trans hcE; have hs1 := hb1.size; rw [World.size_alloc, World.size_alloc] at hs1; have hq1 : w.heap.size < w1.heap.size := (by omega); have hq2 : w.heap.size < w1.heap.size + 1 := (by omega); have hq3 : w.heap.size < w1.heap.size + 1 + 1 := (by omega); have hq4 : w.heap.size < w1.heap.size + 1 + 1 + 1 := (by omega); have HB1 := Lib.hid hb1; clear hb1)
    | (refine ⟨trivial, ?_⟩; gi_at_call 60; refine (below_in (n - 1) _ _ _ _ rfl _ _).mono ?_; rintro e w3 ⟨rfl, rfl⟩))
  obtain ⟨W0, hW0⟩ : ∃ W0, ((((w1.alloc (.cells #[.slice none 0 0] 25)).alloc (.cells (Array.replicate L (Value.int .i64 0)) 3)).alloc (.cells #[.slice (some ⟨w1.heap.size + 1, 0, none⟩) L L] 74)).alloc (.cells #[.slice (some ⟨b, o, none⟩) L c] 25)).alloc (.cells #[.int .i64 (i : Int)] 3) = W0 := ⟨_, rfl⟩
  rw [hW0]
  have hsz : W0.heap.size = w1.heap.size + 5 := by rw [← hW0]; simp
  have hblk : ∀ j, j < w1.heap.size → W0.heap[j]? = w1.heap[j]? := fun j hj => by rw [← hW0]; exact ((((((Below.refl w1.heap.size w1).alloc (Nat.le_refl _) _).alloc (by simp) _).alloc (by simp; omega) _).alloc (by simp; omega) _).alloc (by simp; omega) _).block j hj
  obtain ⟨g0, g1', g2, g3, g4⟩ := allocs5 w1 _ _ _ _ _ W0 hW0
  have g1 : W0.heap[w1.heap.size + 1]? = some (.cells ((List.replicate L (0 : Int)).map (Value.int .i64)).toArray 3) := by rw [g1']; simp
  have hs2 : ((w.alloc (.cells #[.slice (some ⟨b, o, none⟩) L c] 25)).alloc (.cells #[.slice none 0 0] 25)).heap.size = w.heap.size + 2 := by simp
  have hb01 : Below w.heap.size w w1 := hw2.trans (HB1.out.mono (by omega))
  have hBW : Below w.heap.size w W0 := by
    rw [← hW0]
    exact ((((hb01.alloc hb01.size _).alloc (by simp; omega) _).alloc (by simp; omega) _).alloc (by simp; omega) _).alloc (by simp; omega) _
  have g5 : W0.heap[w.heap.size]? = some (.cells #[.slice (some ⟨b, o, none⟩) L c] 25) := (hblk _ (by omega)).trans ((HB1.out.block _ (by omega)).trans (nextAt (newAt rfl)))
  have g6 : W0.heap[w.heap.size + 1]? = some (.cells #[.slice none 0 0] 25) := (hblk _ (by omega)).trans ((HB1.out.block _ (by omega)).trans (newAt (by simp)))
  have hfm := (may_zero hm).2.1
  have HKO : Hid (kidsOk l) := Lib.hid hfm.2.1
  have HND : Hid ((allKids l).Nodup) := Lib.hid hfm.2.2.1.1
  clear hW0 hblk g1' hb01 hs2
  refine wpIn_rangeFunc_ownH (α := Fin L) rfl h1 (gf := 101) (lb := #[.pointer (some ⟨w1.heap.size + 1 + 1 + 1, 0, none⟩), .pointer (some ⟨w1.heap.size + 1 + 1 + 1 + 1, 0, none⟩)]) rfl trivial (enters_of Tryz.func101 (by kernel_rfl) rfl)
    (below_stops l L c b o HL (by omega) HKO (Lib.hid fun x hx => (HS.out x hx).2.2.1) w.heap.size w1.heap.size (w1.heap.size + 1) hb i hi (n - 1) W0 (HN.out.below hBW hb) hBW.size (by omega) (by omega) (w1.heap.size + 1 + 1 + 1) (w1.heap.size + 1 + 1 + 1 + 1) (by omega) (by omega) (Blk_cell g3 0) (Blk_cell g4 0))
    Kq.trans (kq_b hBW.size) (Below.refl _ _) (fun _ => rfl)
    (SI l L c b o w w1.heap.size) (fun _ _ _ => False) (si_own l L c b o w w1.heap.size _ hBW.size) (fun _ _ _ _ _ hs _ _ => hs)
    ⟨⟨⟨.slice none 0 0, [], g0, ownN_nil _ _, rfl⟩, g1, g2, g5, g6, by omega⟩, hBW⟩
    (fun x a' W => a' = { tmps := #[.agg #[.slice (some ⟨b, o, none⟩) L c], .int .i64 (i : Int), .pointer (some ⟨w.heap.size, 0, none⟩), undef, .pointer (some ⟨w.heap.size + 1, 0, none⟩), .int .i64 0, .int .i64 0, .pointer (some ⟨w1.heap.size, 0, none⟩), .pointer (some ⟨w1.heap.size + 1 + 1, 0, none⟩), .int .i64 ((x.1 : Nat) : Int), undef, undef, undef, .agg #[.slice (some ⟨b, o, none⟩) L c], .int .i64 0, .int .i64 0, .bool false, undef, undef, .int .i64 (i : Int), .bool false, .bool false, .int .i64 (i : Int), .pointer (some ⟨w.heap.size, 0, none⟩), .slice (some ⟨b, o, none⟩) L c, .int .i64 (L : Int), .bool false, .bool false, undef, .pointer (some ⟨w.heap.size, 0, none⟩), .slice (some ⟨b, o, none⟩) L c, .int .i64 (L : Int), .slice (some ⟨w1.heap.size + 1, 0, none⟩) L L, .agg #[.slice (some ⟨b, o, none⟩) L c], .int .i64 (i : Int), .func (.func 101) #[] #[.pointer (some ⟨w1.heap.size + 1 + 1 + 1, 0, none⟩), .pointer (some ⟨w1.heap.size + 1 + 1 + 1 + 1, 0, none⟩)], .int .i64 ((x.1 : Nat) : Int), undef, undef, undef, undef, undef, undef, undef, undef, undef, undef, undef, undef, undef, undef, undef, undef, undef, undef, undef, undef, undef, undef, undef, undef, undef, undef, undef, undef, undef, undef, undef, undef, undef, undef, undef, undef, undef, undef, undef, undef], defers := [] })
    (fun x a' _ X Y row hs hg hr => hs)
    ?assign ?body ?done ?stop
  case assign =>
    rintro lr pre x W K hI hK
    simp only [encP]
    gi_wp2
    exact hK _ _ (KeepsFrom.refl _ _) (Kq.refl _ _ _ _) hI rfl
  case body =>
    clear hm hK hw2 HM hmk hd1 hd2 hd3 hcE c1 hq1 hq2 hq3 hq4 HB1 g0 g1 g2 g3 g4 g5 g6 hBW hfm hsz
    rintro lr pre ⟨p, hp⟩ a' W hl ⟨r, hr⟩ ⟨⟨⟨v, ps, s0, hown, hps⟩, s1, s2, s3, s4, s5⟩, hB⟩ rfl hlt
    obtain ⟨y, hy⟩ : ∃ y, l[p]? = some y := ⟨_, List.getElem?_eq_getElem (by rw [HL.out]; exact hp)⟩
    obtain ⟨NW, hNW⟩ : ∃ NW, (made l L pre).2 = NW := ⟨_, rfl⟩
    have hnl : NW.length = L := by rw [← hNW]; have := (stp_len l (pre.map Fin.val) ([], List.replicate L 0)).2; simpa [made] using this
    have hpl : ps.length ≤ 100000 := by
      have h1 := (stp_len l (pre.map Fin.val) ([], List.replicate L 0)).1
      have h2 := congrArg List.length hps
      have h3 := fin_len L (post l i)
      have h4 := post_len HKO.out HND.out (i := i) (by rw [HL.out]; exact hi)
      simp only [List.length_map, List.length_nil, made] at h1 h2
      rw [HL.out] at h4
      omega
    rw [hNW] at s1
    have HNW := Lib.hid hNW
    have HY := Lib.hid hy
    have ha := HKO.out p y hy
    have HHP := Lib.hid hps
    have HOWN := Lib.hid hown
    have HBI := Lib.hid hB
    have HS0 := Lib.hid s0
    have HS1 := Lib.hid s1
    have HS2 := Lib.hid s2
    have HS3 := Lib.hid s3
    have HS4 := Lib.hid s4
    obtain ⟨vA, vc, rfl⟩ : ∃ A c, v = .slice A ps.length c := by
      rcases hown.1.2 with ⟨rfl, h0⟩ | ⟨g, cap, cur, rfl, _⟩
      · exact ⟨none, 0, by rw [h0]⟩
      · exact ⟨_, _, rfl⟩
    have hwW : w.heap.size + 1 < W.heap.size := (Array.getElem?_eq_some_iff.1 s4).1
    have hbW : b < W.heap.size := by omega
    obtain ⟨fv, hfl, m0, m1, m2, m3, m4, m5, m6, m7, m8⟩ := (HN.out.below hB hb) p y hy
    have HFL : Hid (Flds W.heap.size W fv y.l) := Lib.hid (hfl.mono (by omega))
    obtain ⟨FA, fc, rfl, _⟩ := hfl
    have HKD := Lib.hid (pkids_any y (.slice FA y.l.length fc) W (Nat.le_refl _) HFL.out (HS.out y (List.mem_of_getElem? hy)).2.2.1)
    have hkl : (kids y).length ≤ 1000003 := by have := kids_len y; have := (HS.out y (List.mem_of_getElem? hy)).2.2.1; omega
    obtain ⟨K, hK⟩ : ∃ K, kids y = K := ⟨_, rfl⟩
    rw [hK] at HKD hkl
    have HAH : Hid (∀ m ∈ K, 0 ≤ m ∧ m < (p : Int)) := Lib.hid (by rw [← hK]; exact ha)
    have HKX := Lib.hid hK
    have e0 : W.cell? ⟨w.heap.size, 0, none⟩ = some (.slice (some ⟨b, o, none⟩) L c) := (Blk_cell s3 0).trans rfl
    have h1n : 1 ≤ n - 1 - 1 := by omega
    have HM7 := Lib.hid m7
    clear hy ha hK hps hown s0 s1 s2 s3 s4 hNW hB
    gi_wp2_with (refine ⟨trivial, ?_⟩; gi_at_call 61; refine (CallsIn.inRound lr (callsIn_wide.2 HKD.out)).mono ?_; rintro e w5 ⟨gk, ck, rfl, hi5, hb5⟩; have HI5 := Lib.hid hi5; have HB5 := Lib.hid hb5; clear hi5 hb5)
    have hgk := (HI5.out.lt gk rfl)
    clear m0 m1 m2 m3 m4 m5 m6 m7 m8 e0
    have hmx : Tryz.prog.follows .mixedOrders = true := by kernel_rfl
    have HK5 := Lib.hid (KRow.of HI5.out)
    gi_loopw [45] (fun v wr => ∃ j : Nat, v = .int .i64 (j : Int) ∧ j ≤ K.length ∧ Hid (KRow wr gk (mix (fun k => NW.getD k.toNat 0) K j)) ∧ Hid (∀ q, q ≠ gk → wr.heap[q]? = w5.heap[q]?) ∧ Hid (Below W.heap.size W wr)) (fun v _ => K.length - (intOf v).toNat)
    case atStart => exact ⟨0, rfl, Nat.zero_le _, Lib.hid (by have := HK5.out; simpa [mix] using this), Lib.hid (fun q _ => rfl), HB5⟩
    case round =>
      obtain ⟨j, rfl, hj, HR, HOT, HBR⟩ := hrel
      have hsz1 : w1.heap.size + 5 ≤ W.heap.size := s5
      have HS2' := Lib.hid ((HBR.out.block (w1.heap.size + 1 + 1) (by omega)).trans HS2.out)
      have HS1' := Lib.hid ((HBR.out.block (w1.heap.size + 1) (by omega)).trans HS1.out)
      have cw : wr.cell? ⟨w1.heap.size + 1 + 1, 0, none⟩ = some (.slice (some ⟨w1.heap.size + 1, 0, none⟩) L L) := (Blk_cell HS2'.out 0).trans rfl
      by_cases hjl : j < K.length
      · obtain ⟨k, hk⟩ : ∃ k, K[j]? = some k := ⟨_, List.getElem?_eq_getElem hjl⟩
        have hck := HR.out.row j k (mix_at hk)
        have hfk := HR.out.frozen j
        obtain ⟨h0, h1⟩ := HAH.out k (List.mem_of_getElem? hk)
        have HKK := Lib.hid hk
        clear hk
        obtain ⟨q, rfl⟩ := Int.eq_ofNat_of_zero_le h0
        have hqL : q < L := by omega
        obtain ⟨z, hz⟩ : ∃ z, NW[q]? = some z := ⟨_, List.getElem?_eq_getElem (by omega)⟩
        have hcz := row0_of HS1'.out q z hz
        have HZ := Lib.hid hz
        clear hz
        gi_wp2
        go_roundw
        case rel =>
          refine ⟨j + 1, by go_num, by omega, Lib.hid ?_, Lib.hid (fun q' hq' => (set_far _ _ _ _ _ hq').trans (HOT.out q' hq')), Lib.hid (HBR.out.setCell (p := ⟨gk, j, none⟩) hgk.1 _)⟩
          have h := HR.out.set (j := j) (by rw [mix_len]; exact hjl) z
          rw [← mix_step HKK.out]
          have e : NW.getD (((q : Nat) : Int)).toNat 0 = z := by
            simp only [Int.toNat_natCast, List.getD_eq_getElem?_getD, HZ.out, Option.getD_some]
          rw [e]
          exact h
        case measure => simp [intOf]; omega
      · obtain rfl : j = K.length := by omega
        have hmix : mix (fun k => NW.getD k.toNat 0) K K.length = K.map fun k => NW.getD k.toNat 0 := by simp [mix]
        have HRF : Hid (KRow wr gk (K.map fun k => NW.getD k.toNat 0)) := Lib.hid (hmix ▸ HR.out)
        have HS0' := Lib.hid ((HBR.out.block w1.heap.size (by omega)).trans HS0.out)
        have hgw : gk < wr.heap.size := by obtain ⟨cur9, hcur9, _⟩ := HRF.out; exact (Array.getElem?_eq_some_iff.1 hcur9).1
        have cs0 : wr.cell? ⟨w1.heap.size, 0, none⟩ = some (.slice vA ps.length vc) := (Blk_cell HS0'.out 0).trans rfl
        obtain ⟨z, hz⟩ : ∃ z, NW[p]? = some z := ⟨_, List.getElem?_eq_getElem (by omega)⟩
        have hcz := row0_of HS1'.out p z hz
        have hfz := Blk_frozen HS1'.out p
        clear hz hmix
        gi_wp2
        obtain ⟨W6, hW6⟩ : ∃ W6, wr.setCell ⟨w1.heap.size + 1, p, none⟩ (.int .i64 (ps.length : Int)) = W6 := ⟨_, rfl⟩
        rw [hW6]
        have hW6s : W6.heap.size = wr.heap.size := by rw [← hW6]; simp
        have HN6 : Hid (W6.heap[w1.heap.size + 1]? = some (.cells ((NW.set p (ps.length : Int)).map (Value.int .i64)).toArray 3)) := Lib.hid (by rw [← hW6]; exact set_row HS1'.out)
        have HFAR : Hid (∀ q, q ≠ w1.heap.size + 1 → W6.heap[q]? = wr.heap[q]?) := Lib.hid (fun q hq => by rw [← hW6]; exact set_far _ _ _ _ _ hq)
        have HQ6 : Hid (Kq w.heap.size w1.heap.size (w1.heap.size + 1) W W6) := Lib.hid (by rw [← hW6]; exact (Kq.of_below HBR.out (by omega)).trans (kq_set _ _ _ _ _ _ _ (.inr rfl) (by omega)))
        have HO6 : Hid (KeepsOthers W W6) := Lib.hid (by rw [← hW6]; exact (KeepsOthers.of_grownBy (grown_belowK HBR.out none) (fun j o e => by cases e)).trans (KeepsOthers.setCell _ _ _))
        have HOW6 : Hid (OwnN (w1.heap.size + 5) W6 (.slice vA ps.length vc) ps) := Lib.hid (ownN_heap HOWN.out (fun g h1 h2 => (HFAR.out g (by omega)).trans (HBR.out.block g h2)))
        have hB6 := HBR.out.size
        have hcE6 : W6.cell? ⟨w.heap.size, 0, none⟩ = some (.slice (some ⟨b, o, none⟩) L c) := (Blk_cell ((HFAR.out _ (by omega)).trans ((HBR.out.block _ (by omega)).trans HS3.out)) 0).trans rfl
        have hcs6 : W6.cell? ⟨w1.heap.size, 0, none⟩ = some (.slice vA ps.length vc) := (Blk_cell ((HFAR.out _ (by omega)).trans HS0'.out) 0).trans rfl
        have hfs6 : W6.frozen? ⟨w1.heap.size, 0, none⟩ = false := Blk_frozen ((HFAR.out _ (by omega)).trans HS0'.out) 0
        obtain ⟨fv', hfl', m0, m1, m2, m3, m4, m5, m6, m7, m8⟩ := (HN.out.below (HBI.out.trans HQ6.out.1) hb) p y HY.out
        have HKR6 := Lib.hid (HRF.out.heap (HFAR.out gk (by omega)))
        have hfv : fv' = .slice FA y.l.length fc := by
          have hm7 : W6.cell? ⟨b, o + p * 9 + 7, none⟩ = W.cell? ⟨b, o + p * 9 + 7, none⟩ := HQ6.out.1.cell (p := ⟨b, o + p * 9 + 7, none⟩) hb
          rw [m7, HM7.out] at hm7
          injection hm7
        subst hfv
        have HWK : Hid (Calls Tryz.prog 62 #[.agg (ndArr y (.slice FA y.l.length fc)), .slice (some ⟨gk, 0, none⟩) K.length ck] W6.drew (WithPost (wk y (K.map fun k => NW.getD k.toNat 0)) W6.drew)) := Lib.hid (by
          have hd : W6.drew.heap = W6.heap := rfl
          have := with_any y (.slice FA y.l.length fc) (K.map fun k => NW.getD k.toNat 0) gk ck W6.drew (by
            have h1 := (hfl'.mono (show w.heap.size ≤ W6.heap.size by omega))
            exact h1.below (Below.refl W6.heap.size W6).drew) (by rw [List.length_map, HKX.out]) (Row0.drew HKR6.out.row) (by rw [hd]; omega) (by
            rw [List.length_map]
            rcases HI5.out.2 with ⟨h, _⟩ | ⟨g', cap', cur, h, _, _, hle, _⟩
            · cases h
            · cases h; exact hle) (HC.out y (List.mem_of_getElem? HY.out))
          rw [List.length_map] at this
          exact this)
        obtain ⟨Y, hYY⟩ : ∃ Y, wk y (K.map fun k => NW.getD k.toNat 0) = Y := ⟨_, rfl⟩
        rw [hYY] at HWK
        have HYY := Lib.hid hYY
        clear hYY hW6 hcz hfz cs0 cw
        unfold WithPost at HWK
        obtain ⟨k2, a2, b2, c2, n2, nm2, t2, l2, p2⟩ := Y
        unfold ndArr at HWK
        simp only at HWK
        have hq6 : w1.heap.size + 5 ≤ W6.heap.size := by omega
        have N2 := Lib.hid ((HFAR.out (w1.heap.size + 1 + 1) (by omega)).trans HS2'.out)
        have N3 := Lib.hid ((HFAR.out w.heap.size (by omega)).trans ((HBR.out.block w.heap.size (by omega)).trans HS3.out))
        have N4 := Lib.hid ((HFAR.out (w.heap.size + 1) (by omega)).trans ((HBR.out.block (w.heap.size + 1) (by omega)).trans HS4.out))
        have HS6 := Lib.hid ((HFAR.out w1.heap.size (by omega)).trans HS0'.out)
        have HEE : Hid (w.heap.size + 1 < w1.heap.size) := Lib.hid (by omega)
        clear hj hkl hlt hnl hwW hbW hW6s hB6 hgw hfl' hjl
        refine app17_any lr (n - 1 - 1) h1n hmx _ W6 w.heap.size w1.heap.size gk K.length ck b o L c p vA ps.length vc ps (Lib.hid rfl) hpl hp hq6 (by have := HEE.out; omega) hcE6 HS6 hcs6 HOW6 _ _ _ _ _ _ _ _ _ m0 m1 m2 m3 m4 m5 m6 m7 m8 k2 a2 b2 c2 n2 nm2 t2 l2 p2 (Lib.hid (CallsIn.inRound lr (callsIn_wide.2 HWK.out))) _ _ _ _ _ _ _ _ _ _ _ _ _ _ _ _ _ _ _ _ _ _ _ _ _ _ _ _ _ _ _ _ _ _ _ _ _ _ _ _ _ _ _ _ _ _ _ _ _ _ _ _ _ _ _ _ _ _ _ _ _ _ _ _ _ _ _ _ _ _ _ _ _ (Lib.hid ?_)
        intro _ _ _ _ _ _ _ _ _ _ _ _ A7 c7 w7 g8 c8 w8 q1 q2 q3 q4 q5
        exact end17 l L c b o w w1.heap.size _ pre p hp y _ NW W W6 w7 w8 vA ps.length vc ps g8 c8 _ _ rfl HEE.out HO6.out HQ6.out hq6 q1 q3 q4 q5 HOW6.out HN6.out N2.out N3.out N4.out HHP.out HNW.out HY.out (by rw [HKX.out]; exact HYY.out) HBI.out
  case done =>
    rintro D ys W hD rfl ⟨⟨⟨v, ps, s0, hown, hps⟩, s1, s2, s3, s4, s5⟩, hB⟩ hK
    obtain ⟨vA, vc, rfl⟩ : ∃ A c, v = .slice A ps.length c := by
      rcases hown.1.2 with ⟨rfl, h0⟩ | ⟨g, cap, cur, rfl, _⟩
      · exact ⟨none, 0, by rw [h0]⟩
      · exact ⟨_, _, rfl⟩
    have c1 := (Blk_cell s0 0).trans rfl
    have c2 := (Blk_cell s4 0).trans rfl
    have f2 := Blk_frozen s4 0
    clear HM hmk
    gi_wp2
    have hK' := (KeepsOthers.setCell W ⟨w.heap.size + 1, 0, none⟩ (.slice vA ps.length vc)).same D _ hK rfl
    refine ⟨by simp, .inl ⟨_, _, rfl, run_takeDeferred hK', ?_⟩⟩
    have hgr := grownBy_putObj' (W.setCell ⟨w.heap.size + 1, 0, none⟩ (.slice vA ps.length vc)) D (.deferred none)
    have hrr : ∀ r, some D = some r → ∃ o, (W.setCell ⟨w.heap.size + 1, 0, none⟩ (.slice vA ps.length vc)).heap[r]? = some o ∧ o.isCells = false := fun r e => by cases e; exact ⟨_, hK', rfl⟩
    have hx := blk_abide (blk_put (j := 0) (v := .slice vA ps.length vc) s4) hgr hrr
    have ho1 : OwnN (w1.heap.size + 5) (W.setCell ⟨w.heap.size + 1, 0, none⟩ (.slice vA ps.length vc)) (.slice vA ps.length vc) ps := ownN_heap hown (fun g hg _ => set_far _ _ _ _ _ (by omega))
    have hBB := (hB.setCell (p := ⟨w.heap.size + 1, 0, none⟩) (by show w.heap.size ≤ w.heap.size + 1; omega) (.slice vA ps.length vc)).grown hgr (by simpa using hB.size) (fun k e => by cases e; omega)
    refine ⟨.tuple #[.agg #[.slice vA ps.length vc], .int .i64 0], res17 _ _ (w.heap.size + 1) vA ps.length vc 0 rfl rfl ((Blk_cell hx 0).trans rfl), .slice vA ps.length vc, ps, rfl, ?_, ⟨row_mono (row_abide ho1.1 hgr hrr) (by omega), fun x hx => row_mono (row_abide (ho1.2 x hx) hgr hrr) (by omega)⟩, hBB⟩
    have hil : i < l.length := by rw [HL.out]; exact hi
    rw [hps, made, fin_val (fun m hm => by have := post_le HKO.out i hil m hm; omega)]
    exact (stp_post HKO.out HND.out i hil ([], List.replicate L 0) (by simp [HL.out])).1
  case stop =>
    rintro D c pre W hD _ h _
    exact h.elim
end Go.Proofs.YtjakeidbajkdcaaGreatDoor.T
/- Sub of what may not be; Norm, the program's. -/
namespace Go.Proofs.YtjakeidbajkdcaaGreatDoor.T
open Go.RowKit Go.Shelf
theorem own_slice {B : Nat} {W : World} {v : Value} {ps : List (Nd × Value)} (h : OwnN B W v ps) : ∃ A c, v = .slice A ps.length c := by
  rcases h.1.2 with ⟨rfl, h0⟩ | ⟨g, cap, cur, rfl, _⟩
  · exact ⟨none, 0, by rw [h0]⟩
  · exact ⟨_, _, rfl⟩
theorem res16 (tmps : Array Value) (W : World) (p : Nat) (A : Option Addr) (n c : Nat) (er : Int) (h2 : tmps[2]?.getD undef = .pointer (some ⟨p, 0, none⟩)) (h3 : tmps[3]?.getD undef = .int .i64 er) (hb : W.cell? ⟨p, 0, none⟩ = some (.slice A n c)) :
    Sem.run Tryz.prog (results Tryz.f12 tmps) W = .ok (.tuple #[.agg #[.slice A n c], .int .i64 er]) W := by
  simp [results, Tryz.results12, go_sem, h2, h3, hb]
set_option maxRecDepth 100000 in
set_option maxHeartbeats 4000000 in
theorem sub_bad (l : List Nd) (v : Value) (w : World) (hK : Kws w.heap.size w) (hN : Nodes w.heap.size w v l) (HS : ∀ x ∈ l, Small x) (i m : Int) (hm : may l = m) (h0 : m ≠ 0) :
    Calls Tryz.prog 34 #[.agg #[v], .int .i64 i] w (SubPost m [] w) := by
  obtain ⟨A, c, rfl, hx⟩ := hN
  obtain ⟨w2, hw2⟩ : ∃ w2, (w.alloc (.cells #[.slice A l.length c] 25)).alloc (.cells #[.slice none 0 0] 25) = w2 := ⟨_, rfl⟩
  have HB2 : Hid (Below w.heap.size w w2) := Lib.hid (by rw [← hw2]; exact ((Below.refl _ w).alloc (Nat.le_refl _) _).alloc (by simp) _)
  have hs2 : w2.heap.size = w.heap.size + 2 := by rw [← hw2]; simp
  have HM := Lib.hid (may_any l (.slice A l.length c) w2 (Kws_mono (hK.on HB2.out) HB2.out.size) ((show Nodes w.heap.size w (.slice A l.length c) l from ⟨A, c, rfl, hx⟩).below HB2.out |>.mono HB2.out.size) HS)
  rw [hm] at HM
  have hc2 : w2.heap[w.heap.size + 1]? = some (.cells #[.slice none 0 0] 25) := by rw [← hw2]; exact newAt (by simp)
  rw [← hw2] at HM HB2 hc2
  have HC2 := Lib.hid hc2
  have hne : (m != 0) = true := by simpa using h0
  clear hw2 hs2 hc2 hx hK
  go_enter Tryz.func34, Tryz.ntmps34
  go_wp2_with (go_at_call 13; refine HM.out.mono ?_; rintro e w1 ⟨rfl, hb1⟩; have HB1 := Lib.hid hb1; have hx1 := ((hb1.block (w.heap.size + 1) (by simp)).trans HC2.out); have f1 := Blk_frozen hx1 0; have c1 : w1.cell? ⟨w.heap.size + 1, 0, none⟩ = some (.slice none 0 0) := (Blk_cell hx1 0).trans rfl; have HX1 := Lib.hid hx1; clear hb1 hx1)
  have hx := blk_put (j := 0) (v := .slice none 0 0) HX1.out
  refine bodyPost_ret (v := .tuple #[.agg #[.slice none 0 0], .int .i64 m]) (res17 _ _ (w.heap.size + 1) none 0 0 m rfl rfl ((Blk_cell hx 0).trans rfl)) rfl ⟨.slice none 0 0, [], rfl, rfl, ownN_nil _ _, ?_⟩
  exact (HB2.out.trans (HB1.out.mono (by simp; omega))).setCell (p := ⟨w.heap.size + 1, 0, none⟩) (by show w.heap.size ≤ w.heap.size + 1; omega) _
/-- What Norm gives of these nodes. -/
noncomputable def nrm (l : List Nd) : List Nd := if may l = 0 then cp l (l.length - 1) [] else []
theorem may_big {l : List Nd} (h : may l = 0) : 1 ≤ l.length ∧ l.length ≤ 600 := by
  have := (may_zero h).1
  omega
set_option maxRecDepth 100000 in
set_option maxHeartbeats 4000000 in
theorem norm_any (l : List Nd) (v : Value) (w : World) (hK : Kws w.heap.size w) (hN : Nodes w.heap.size w v l) (HS : ∀ x ∈ l, Small x) (HC : ∀ x ∈ l, Clonable x) (hl : l.length ≤ 1000000) :
    Calls Tryz.prog 12 #[.agg #[v]] w (SubPost (may l) (nrm l) w) := by
  obtain ⟨A, c, rfl, hx⟩ := hN
  have hN : Nodes w.heap.size w (.slice A l.length c) l := ⟨A, c, rfl, hx⟩
  obtain ⟨w2, hw2⟩ : ∃ w2, (w.alloc (.cells #[.slice A l.length c] 25)).alloc (.cells #[.slice none 0 0] 25) = w2 := ⟨_, rfl⟩
  have HB2 : Hid (Below w.heap.size w w2) := Lib.hid (by rw [← hw2]; exact ((Below.refl _ w).alloc (Nat.le_refl _) _).alloc (by simp) _)
  have hK2 := Kws_mono (hK.on HB2.out) HB2.out.size
  have hN2 := (hN.below HB2.out).mono HB2.out.size
  have HSUB : Hid (Calls Tryz.prog 34 #[.agg #[.slice A l.length c], .int .i64 ((l.length : Int) - 1)] w2 (SubPost (may l) (nrm l) w2)) := Lib.hid (by
    by_cases hm : may l = 0
    · obtain ⟨h1, h6⟩ := may_big hm
      obtain ⟨_, _, e, hc, _, hq⟩ := hN2
      cases e
      obtain ⟨b, o, rfl, hb, hn⟩ := hq (by omega)
      have h := callsIn_wide.1 (sub_in 3 (Nat.le_refl 3) l l.length c b o (Lib.hid rfl) h6 hm w2 hK2 hb (Lib.hid hn) (Lib.hid HS) (Lib.hid HC) (l.length - 1) (by omega) hc)
      rw [hm, nrm, if_pos hm]
      rwa [show ((l.length - 1 : Nat) : Int) = (l.length : Int) - 1 by omega] at h
    · rw [nrm, if_neg hm]
      exact sub_bad l _ w2 hK2 hN2 HS _ _ rfl hm)
  have hc2 : w2.heap[w.heap.size + 1]? = some (.cells #[.slice none 0 0] 25) := by rw [← hw2]; exact newAt (by simp)
  rw [← hw2] at HSUB HB2 hc2
  have HC2 := Lib.hid hc2
  obtain ⟨m, hm⟩ : ∃ m, may l = m := ⟨_, rfl⟩
  rw [hm] at HSUB ⊢
  clear hw2 hc2 hx hK hK2 hN hN2 HS HC hm
  go_enter Tryz.func12, Tryz.ntmps12
  go_wp2_with (go_at_call 34; refine HSUB.out.mono ?_; rintro e w1 ⟨v1, ps, rfl, hps, hown, hb1⟩; obtain ⟨A1, k1, rfl⟩ : ∃ A c, v1 = .slice A ps.length c := (own_slice hown); have HB1 := Lib.hid hb1; have hx1 := ((hb1.block (w.heap.size + 1) (by simp)).trans HC2.out); have f1 := Blk_frozen hx1 0; have c1 : w1.cell? ⟨w.heap.size + 1, 0, none⟩ = some (.slice none 0 0) := (Blk_cell hx1 0).trans rfl; have HX1 := Lib.hid hx1; have HO1 := Lib.hid hown; have HP1 := Lib.hid hps; clear hb1 hx1 hown hps)
  have hx := blk_put (j := 0) (v := .slice A1 ps.length k1) HX1.out
  refine bodyPost_ret (v := .tuple #[.agg #[.slice A1 ps.length k1], .int .i64 m]) (res16 _ _ (w.heap.size + 1) A1 ps.length k1 m rfl rfl ((Blk_cell hx 0).trans rfl)) rfl ⟨_, ps, rfl, HP1.out, ?_, ?_⟩
  · have h := ownN_heap (W' := w1.setCell ⟨w.heap.size + 1, 0, none⟩ (.slice A1 ps.length k1)) HO1.out (fun g hg _ => set_far _ _ _ _ _ (by simp at hg; omega))
    exact ⟨row_mono h.1 (by simp; omega), fun x hx => row_mono (h.2 x hx) (by simp; omega)⟩
  · exact (HB2.out.trans (HB1.out.mono (by simp; omega))).setCell (p := ⟨w.heap.size + 1, 0, none⟩) (by show w.heap.size ≤ w.heap.size + 1; omega) _
end Go.Proofs.YtjakeidbajkdcaaGreatDoor.T
