/- Joined by program. -/
import Derived.Test.YtjakeidbajkdcaaGreatDoorH00
import Derived.Laws.AppendOwnNone
import Derived.RangeFuncBox
import Derived.Laws.CopyOwn
import Derived.Laws.CopyRow
set_option maxRecDepth 100000
set_option maxHeartbeats 4000000
namespace Go.Proofs.YtjakeidbajkdcaaGreatDoor.T
open Go.RowKit
def cut (x : Nd) : Nd := { x with l := x.l.take 60 }
def few (l : List Nd) : List Nd := (l.take 700).map cut
def fCells (l : List Fld) : List Value := l.flatMap fun f => [.string f.nm, .string f.vr, .int .i64 f.pl]
theorem fCells_len : ∀ l : List Fld, (fCells l).length = l.length * 3
  | [] => rfl
  | f :: r => by
    have := fCells_len r
    have e : fCells (f :: r) = [.string f.nm, .string f.vr, .int .i64 f.pl] ++ fCells r := by simp [fCells]
    rw [e, List.length_append, this, List.length_cons]; simp; omega
theorem fCells_at : ∀ (l : List Fld) (j : Nat) (f : Fld), l[j]? = some f -> (fCells l)[j * 3]? = some (.string f.nm) /\ (fCells l)[j * 3 + 1]? = some (.string f.vr) /\ (fCells l)[j * 3 + 2]? = some (.int .i64 f.pl)
  | [], _, _, h => by simp at h
  | y :: r, 0, f, h => by
    simp at h; subst h
    have e : fCells (y :: r) = [.string y.nm, .string y.vr, .int .i64 y.pl] ++ fCells r := by simp [fCells]
    rw [e]; simp
  | y :: r, j + 1, f, h => by
    have ih := fCells_at r j f (by simpa using h)
    have e : fCells (y :: r) = [.string y.nm, .string y.vr, .int .i64 y.pl] ++ fCells r := by simp [fCells]
    rw [e]
    refine ⟨?_, ?_, ?_⟩
    · rw [List.getElem?_append_right (by simp; omega), show (j + 1) * 3 - [Value.string y.nm, .string y.vr, .int .i64 y.pl].length = j * 3 by simp; omega]; exact ih.1
    · rw [List.getElem?_append_right (by simp; omega), show (j + 1) * 3 + 1 - [Value.string y.nm, .string y.vr, .int .i64 y.pl].length = j * 3 + 1 by simp; omega]; exact ih.2.1
    · rw [List.getElem?_append_right (by simp; omega), show (j + 1) * 3 + 2 - [Value.string y.nm, .string y.vr, .int .i64 y.pl].length = j * 3 + 2 by simp; omega]; exact ih.2.2
theorem fCells_of {W : World} {b o : Nat} {l : List Fld} (h : FldsAt W b o l) (n : Nat) : ∀ j u, (fCells (l.take n))[j]? = some u -> W.cell? ((⟨b, o, none⟩ : Addr).add j) = some u := fun j u hu => by
  have hj : j < (fCells (l.take n)).length := (List.getElem?_eq_some_iff.1 hu).1
  rw [fCells_len] at hj
  have hq : j / 3 < (l.take n).length := by omega
  obtain ⟨c0, c1, c2⟩ := fCells_at (l.take n) (j / 3) _ (List.getElem?_eq_getElem hq)
  have hl : l[j / 3]? = some ((l.take n)[j / 3]'hq) := by
    rw [<- List.getElem?_eq_getElem hq, List.getElem?_take, if_pos (by rw [List.length_take] at hq; omega)]
  obtain ⟨h0, h1, h2⟩ := h (j / 3) _ hl
  rw [Addr.add_lit]
  have hm : j % 3 = 0 ∨ j % 3 = 1 ∨ j % 3 = 2 := by omega
  rcases hm with e | e | e
  · rw [show j / 3 * 3 = j by omega] at c0
    rw [c0] at hu
    rw [<- hu, <- h0]; congr 2; omega
  · rw [show j / 3 * 3 + 1 = j by omega] at c1
    rw [c1] at hu
    rw [<- hu, <- h1]; congr 2; omega
  · rw [show j / 3 * 3 + 2 = j by omega] at c2
    rw [c2] at hu
    rw [<- hu, <- h2]; congr 2; omega
theorem fCells_one (l : List Fld) : ∀ u ∈ fCells l, u.oneCell' = true := fun u hu => by
  obtain ⟨f, _, hf⟩ := List.mem_flatMap.1 hu
  simp at hf
  rcases hf with rfl | rfl | rfl <;> rfl
def OwnF (B : Nat) (W : World) (v : Value) (l : List Fld) : Prop := W.ownsRow B 97 3 v l.length (fCells l)
def nCells (l : List (Nd × Value)) : List Value := l.flatMap fun x => (ndArr x.1 x.2).toList
theorem nCells_snoc (l : List (Nd × Value)) (x : Nd × Value) : nCells (l ++ [x]) = nCells l ++ (ndArr x.1 x.2).toList := by simp [nCells]
def OwnN (B : Nat) (W : World) (v : Value) (l : List (Nd × Value)) : Prop := W.ownsRow B 37 9 v l.length (nCells l) /\ ∀ x ∈ l, OwnF B W x.2 x.1.l
theorem rows_ne {W : World} {B1 B2 e1 e2 s1 s2 n1 n2 : Nat} {v1 v2 : Value} {x1 x2 : List Value} (h1 : W.ownsRow B1 e1 s1 v1 n1 x1) (h2 : W.ownsRow B2 e2 s2 v2 n2 x2) (hne : e1 ≠ e2) : v1.ownBlock = none ∨ v1.ownBlock ≠ v2.ownBlock := by
  rcases h1.2 with ⟨rfl, _⟩ | ⟨g, cap, cur, rfl, _, hg, _⟩
  · exact .inl rfl
  · refine .inr fun e => ?_
    rcases h2.2 with ⟨rfl, _⟩ | ⟨g', cap', cur', rfl, _, hg', _⟩
    · simp [Value.ownBlock] at e
    · simp [Value.ownBlock] at e
      subst e
      rw [hg] at hg'
      simp at hg'
      exact hne hg'.2
theorem fldInfo : (Tryz.prog.info? 97).map (fun i => (i.zero, i.size, i.bytes)) = some (some (.agg #[.string ⟨#[]⟩, .string ⟨#[]⟩, .int .i64 0]), 3, 40) := by kernel_rfl
theorem ndInfo : (Tryz.prog.info? 37).map (fun i => (i.zero, i.size, i.bytes)) = some (some (.agg #[.int .i64 0, .int .i64 0, .int .i64 0, .int .i64 0, .int .i64 0, .string ⟨#[]⟩, .string ⟨#[]⟩, .slice none 0 0, .int .i64 0]), 9, 104) := by kernel_rfl
open Go.RowKit
theorem grown_set (W : World) (b o : Nat) (v : Value) : W.grownBy (W.setCell ⟨b, o, none⟩ v) (some b) :=
  ⟨rfl, rfl, rfl, (KeepsWalks.setCell W _ v).size, fun k _ hk => Below.heap_setCell _ _ _ k (fun e => hk (by rw [e]))⟩
theorem Blk_cell {W : World} {B : Nat} {cs : Array Value} {t : TypeId} (h : W.heap[B]? = some (.cells cs t (0, 0))) (j : Nat) : W.cell? ⟨B, j, none⟩ = cs[j]? := by simp [World.cell?, h]
theorem Blk_frozen {W : World} {B : Nat} {cs : Array Value} {t : TypeId} (h : W.heap[B]? = some (.cells cs t (0, 0))) (j : Nat) : W.frozen? ⟨B, j, none⟩ = false := by simp [World.frozen?, h]
theorem row_ne_blk {W : World} {B e size n t b : Nat} {v : Value} {xs : List Value} {cs : Array Value} (h : W.ownsRow B e size v n xs) (hb : W.heap[b]? = some (.cells cs t (0, 0))) (hne : e ≠ t) : v.ownBlock = none ∨ v.ownBlock ≠ some b := by
  rcases h.2 with ⟨rfl, _⟩ | ⟨g, cap, cur, rfl, _, hg, _⟩
  · exact .inl rfl
  · refine .inr fun e' => ?_
    simp [Value.ownBlock] at e'
    subst e'
    rw [hg] at hb; simp at hb; exact hne hb.2
theorem row_ne_new {W : World} {B e size n b : Nat} {v : Value} {xs : List Value} (h : W.ownsRow B e size v n xs) (hb : W.heap.size <= b) : v.ownBlock = none ∨ v.ownBlock ≠ some b := by
  rcases h.2 with ⟨rfl, _⟩ | ⟨g, cap, cur, rfl, _, hg, _⟩
  · exact .inl rfl
  · refine .inr fun e' => ?_
    simp [Value.ownBlock] at e'
    have := (Array.getElem?_eq_some_iff.1 hg).1
    omega
theorem row_some {W : World} {base : Nat} {e : TypeId} {size : Nat} {v : Value} {k : Nat} {xs : List Value} (h : W.ownsRow base e size v k xs) (hv : v ≠ .slice none 0 0) : ∃ g cap, v = .slice (some ⟨g, 0, none⟩) k cap /\ base <= g /\ g < W.heap.size := by
  rcases h.2 with ⟨rfl, _⟩ | ⟨g, cap, cur, rfl, hb, hg, _⟩
  · exact absurd rfl hv
  · exact ⟨g, cap, rfl, hb, (Array.getElem?_eq_some_iff.1 hg).1⟩
theorem new_cellsT (W : World) (t : TypeId) (l : List Value) (p : Nat) (hp : p = W.heap.size) : ∀ (j : Nat) (u : Value), l[j]? = some u -> (W.alloc (.cells l.toArray t)).cell? ((⟨p, 0, none⟩ : Addr).add j) = some u := fun j u h => by
  subst hp
  rw [Addr.add_lit, Nat.zero_add, World.cell?, heap_alloc_new]
  simpa using h
theorem nd_one (x : Nd) (A : Option Addr) (n c : Nat) : ∀ u ∈ (ndArr x (.slice A n c)).toList, u.oneCell' = true := fun u hu => by
  simp [ndArr] at hu
  rcases hu with rfl | rfl | rfl | rfl | rfl | rfl | rfl | rfl | rfl <;> rfl
theorem few_end {l : List Nd} {k : Nat} (hk : k = min l.length 700) : (l.take k).map cut = few l := by
  subst hk
  rw [few]
  congr 1
  rcases Nat.le_total l.length 700 with h | h
  · rw [Nat.min_eq_left h, List.take_of_length_le (Nat.le_refl _), List.take_of_length_le h]
  · rw [Nat.min_eq_right h]
theorem cut_take (l : List Nd) (k : Nat) (x : Nd) (h : l[k]? = some x) : (l.take (k + 1)).map cut = (l.take k).map cut ++ [cut x] := by
  have hk : k < l.length := (List.getElem?_eq_some_iff.1 h).1
  rw [List.take_succ_eq_append_getElem hk, List.map_append]
  have : l[k] = x := (List.getElem?_eq_some_iff.1 h).2
  simp [this]
theorem blk_set {W : World} {b : Nat} {x : Nd} {u v : Value} (h : W.heap[b]? = some (.cells (ndArr x u) 37 (0, 0))) : (W.setCell ⟨b, 7, none⟩ v).heap[b]? = some (.cells (ndArr x v) 37 (0, 0)) := by
  obtain ⟨hlt, hk⟩ := Array.getElem?_eq_some_iff.1 h
  show (W.heap.modify b _)[b]? = _
  rw [Array.getElem?_eq_getElem (by rw [Array.size_modify]; exact hlt), Array.getElem_modify_self, hk]
  rfl
theorem few_mid {wr w3 : World} {bo B m : Nat} {v v1 fv : Value} {ps : List (Nd × Value)} {x : Nd} {FD : List Fld} (hbo : Boxed wr bo 25 v) (ho : OwnN B wr v ps) (hm : FD.length = m)
    (hown : w3.ownsRow B 97 3 v1 m (fCells FD)) (hgrow : ((wr.alloc (.cells (ndArr x fv) 37)).alloc (.cells #[] 97)).grownBy w3 (some (wr.heap.size + 1))) :
    w3.heap[wr.heap.size]? = some (.cells (ndArr x fv) 37 (0, 0)) /\ (w3.setCell ⟨wr.heap.size, 7, none⟩ v1).heap[wr.heap.size]? = some (.cells (ndArr x v1) 37 (0, 0)) /\ Boxed (w3.setCell ⟨wr.heap.size, 7, none⟩ v1) bo 25 v /\
      OwnN B (w3.setCell ⟨wr.heap.size, 7, none⟩ v1) v ps /\ OwnF B (w3.setCell ⟨wr.heap.size, 7, none⟩ v1) v1 FD /\ Below bo wr (w3.setCell ⟨wr.heap.size, 7, none⟩ v1) /\ wr.heap.size < w3.heap.size := by
  have hb := hbo.lt
  have h3 : w3.heap[wr.heap.size]? = some (.cells (ndArr x fv) 37 (0, 0)) := by
    rw [hgrow.block wr.heap.size (by simp; omega) (by simp)]
    exact (Below.heap_alloc _ _ _ (by simp)).trans (heap_alloc_new wr _)
  have hk : ∀ {e size n : Nat} {u : Value} {xs : List Value}, e ≠ 37 -> wr.ownsRow B e size u n xs -> (w3.setCell ⟨wr.heap.size, 7, none⟩ v1).ownsRow B e size u n xs := fun he hr => by
    have h1 := ((hr.alloc (.cells (ndArr x fv) 37)).alloc (.cells #[] 97)).kept hgrow (row_ne_new hr (by omega))
    exact h1.kept (grown_set w3 _ 7 v1) (row_ne_blk h1 h3 he)
  have hv : (w3.setCell ⟨wr.heap.size, 7, none⟩ v1).ownsRow B 37 9 v ps.length (nCells ps) := by
    have h1 := ((ho.1.alloc (.cells (ndArr x fv) 37)).alloc (.cells #[] 97)).kept hgrow (row_ne_new ho.1 (by omega))
    exact h1.kept (grown_set w3 _ 7 v1) (row_ne_new ho.1 (Nat.le_refl _))
  refine ⟨h3, blk_set h3, (((hbo.alloc _).alloc _).kept hgrow (by simp; omega)).kept (grown_set w3 _ 7 v1) (by simp; omega), ⟨hv, fun y hy => hk (by decide) (ho.2 y hy)⟩, ?_, ?_, (Array.getElem?_eq_some_iff.1 h3).1⟩
  · unfold OwnF
    rw [hm]
    exact hown.kept (grown_set w3 _ 7 v1) (row_ne_blk hown h3 (by decide))
  · exact ((((Below.refl bo wr).alloc (by omega) _).alloc (by simp; omega) _).grown hgrow (by simp; omega) (fun k hk => by cases hk; omega)).setCell (p := ⟨wr.heap.size, 7, none⟩) (by simp; omega) _
theorem few_fin {W4 w5 : World} {bo B : Nat} {v v1 v2 : Value} {ps : List (Nd × Value)} {x : Nd} {T : Obj} (hbo : Boxed W4 bo 25 v) (ho : OwnN B W4 v ps) (hf : OwnF B W4 v1 (cut x).l) (hbB : bo <= B)
    (hown : w5.ownsRow B 37 9 v2 (ps.length + 1) (nCells ps ++ (ndArr x v1).toList)) (hgrow : (W4.alloc T).grownBy w5 v.ownBlock) :
    Boxed w5 bo 25 v /\ Boxed (w5.setCell ⟨bo, 0, none⟩ v2) bo 25 v2 /\ OwnN B (w5.setCell ⟨bo, 0, none⟩ v2) v2 (ps ++ [(cut x, v1)]) /\ Below bo W4 (w5.setCell ⟨bo, 0, none⟩ v2) := by
  have h5 : Boxed w5 bo 25 v := (hbo.alloc T).kept hgrow (hbo.not_row (by decide) ho.1)
  have hk : ∀ {n : Nat} {u : Value} {xs : List Value}, W4.ownsRow B 97 3 u n xs -> (w5.setCell ⟨bo, 0, none⟩ v2).ownsRow B 97 3 u n xs := fun hr => by
    have h1 := (hr.alloc T).kept hgrow (by rcases rows_ne hr ho.1 (by decide) with h | h; exact .inl h; exact .inr h)
    exact h1.kept (grown_set w5 bo 0 v2) (.inr (h5.not_row (by decide) h1).symm)
  refine ⟨h5, h5.set v2, ⟨?_, fun y hy => ?_⟩, ?_⟩
  · rw [nCells_snoc, List.length_append, List.length_singleton]
    exact hown.kept (grown_set w5 bo 0 v2) (.inr (h5.not_row (by decide) hown).symm)
  · rcases List.mem_append.1 hy with h | h
    · exact hk (ho.2 y h)
    · rw [List.mem_singleton.1 h]; exact hk hf
  · exact (((Below.refl bo W4).alloc (Nat.le_of_lt hbo.lt) T).grown hgrow (by have := hbo.lt; simp; omega) (fun k hk => Nat.le_trans hbB (ho.1.lt k hk).1)).setCell (p := ⟨bo, 0, none⟩) (Nat.le_refl _) _
theorem nd_cells {W : World} {b : Nat} {x : Nd} {v : Value} (h : W.heap[b]? = some (.cells (ndArr x v) 37 (0, 0))) :
    W.cell? ⟨b, 0, none⟩ = some (.int .i64 x.kind) /\ W.cell? ⟨b, 1, none⟩ = some (.int .i64 x.a) /\ W.cell? ⟨b, 2, none⟩ = some (.int .i64 x.b) /\ W.cell? ⟨b, 3, none⟩ = some (.int .i64 x.c) /\ W.cell? ⟨b, 4, none⟩ = some (.int .i64 x.n) /\
      W.cell? ⟨b, 5, none⟩ = some (.string x.nm) /\ W.cell? ⟨b, 6, none⟩ = some (.string x.s) /\ W.cell? ⟨b, 7, none⟩ = some v /\ W.cell? ⟨b, 8, none⟩ = some (.int .i64 x.pos) :=
  ⟨Blk_cell h 0, Blk_cell h 1, Blk_cell h 2, Blk_cell h 3, Blk_cell h 4, Blk_cell h 5, Blk_cell h 6, Blk_cell h 7, Blk_cell h 8⟩
theorem few_src {w wr : World} {fa : Addr} {n q : Nat} {x : Nd} {FD : List Fld} (hbw : Below w.heap.size w wr) (hpos : 0 < n -> ∃ b o, some fa = some (⟨b, o, none⟩ : Addr) /\ b < w.heap.size /\ FldsAt wr b o x.l) (hn : x.l.length = n) (hq : x.l.take q = FD) (o1 o2 : Obj) :
    ∀ j u, (fCells FD)[j]? = some u -> ((wr.alloc o1).alloc o2).cell? (fa.add j) = some u := fun j u hu => by
  have hj : j < (fCells FD).length := (List.getElem?_eq_some_iff.1 hu).1
  rw [fCells_len, <- hq, List.length_take, hn] at hj
  obtain ⟨b, o, e, hb, hf⟩ := hpos (by omega)
  cases e
  have h := fCells_of hf q j u (by rw [hq]; exact hu)
  rw [Addr.add_lit] at h ⊢
  have hbl : b < wr.heap.size := Nat.lt_of_lt_of_le hb hbw.size
  have e1 := (((Below.refl wr.heap.size wr).alloc (Nat.le_refl _) o1).alloc (by simp) o2).cell (p := ⟨b, o + j, none⟩) hbl
  rw [e1]; exact h
def FewPost (l : List Nd) (w : World) (e : Ending) (w' : World) : Prop := ∃ v ps, e = .returned (.agg #[v]) /\ ps.map Prod.fst = few l /\ OwnN w.heap.size w' v ps /\ Below w.heap.size w w'
theorem few_out {l : List Nd} {w wr : World} {v : Value} {ps : List (Nd × Value)} (h1 : ps.map Prod.fst = few l) (hr : Boxed wr (w.heap.size + 1) 25 (.slice none 0 0)) (ho : OwnN (w.heap.size + 3) wr v ps) (hb : Below w.heap.size w wr) :
    FewPost l w (.returned (.agg #[v])) (wr.setCell ⟨w.heap.size + 1, 0, none⟩ v) := by
  refine ⟨v, ps, rfl, h1, ⟨?_, fun y hy => ?_⟩, hb.setCell (p := ⟨w.heap.size + 1, 0, none⟩) (by simp) _⟩
  · exact row_mono (ho.1.kept (grown_set wr _ 0 v) (.inr (hr.not_row (by decide) ho.1).symm)) (by omega)
  · exact row_mono ((ho.2 y hy).kept (grown_set wr _ 0 v) (.inr (hr.not_row (by decide) (ho.2 y hy)).symm)) (by omega)
theorem few_pos (l : List Nd) (L c b o : Nat) (HL : Hid (l.length = L)) (hL0 : 0 < L) (hLc : L <= c) (hLm : L <= 9223372036854775807) (w : World) (hb : b < w.heap.size) (HN : Hid (∀ j x, l[j]? = some x -> NdAt w.heap.size w b (o + j * 9) x)) :
    Calls Tryz.prog 14 #[.agg #[.slice (some ⟨b, o, none⟩) L c]] w (FewPost l w) := by
  obtain ⟨i0, hi, hz0, hz1, hz2⟩ := info_parts fldInfo
  obtain ⟨j0, hj, hy0, hy1, hy2⟩ := info_parts ndInfo
  obtain ⟨W2, hW2⟩ : ∃ W2, (w.alloc (.cells #[.slice (some ⟨b, o, none⟩) L c] 25)).alloc (.cells #[.slice none 0 0] 25) = W2 := ⟨_, rfl⟩
  have HW2 := Lib.hid hW2
  clear hW2
  go_enter Tryz.func14, Tryz.ntmps14
  go_wp2
  go_loopw [4] (fun i wr => ∃ (k : Nat) (v : Value) (ps : List (Nd × Value)), i = .int .i64 (k : Int) /\ k <= L /\ k <= 700 /\ Hid (ps.map Prod.fst = (l.take k).map cut) /\ Hid (Boxed wr (w.heap.size + 1 + 1) 25 v) /\ Hid (OwnN (w.heap.size + 3) wr v ps) /\ Hid (Below (w.heap.size + 1 + 1) W2 wr)) (fun i _ => L - (intOf i).toNat)
  case atStart =>
    rw [HW2.out]
    have hs : W2.heap.size = w.heap.size + 1 + 1 := by rw [<- HW2.out]; simp
    refine ⟨0, _, [], rfl, by omega, by omega, Lib.hid (by simp), Lib.hid (by have := Boxed.new W2 25 (.slice none 0 0); rw [hs] at this; exact this), Lib.hid ⟨World.ownsRow_nil _ _ _ _, fun x hx => by simp at hx⟩, Lib.hid ((Below.refl _ _).alloc (by omega) _)⟩
  case round =>
    obtain ⟨k, v, ps, rfl, hk, hk7, HPS, HBO, HO, HB⟩ := hrel
    have hW2s : W2.heap.size = w.heap.size + 1 + 1 := by rw [<- HW2.out]; simp
    have hw2 : Below w.heap.size w W2 := by rw [<- HW2.out]; exact ((Below.refl _ w).alloc (Nat.le_refl _) _).alloc (by simp) _
    have hbw := hw2.trans (HB.out.mono (by omega))
    have cb1 : wr.cell? ⟨w.heap.size, 0, none⟩ = some (.slice (some ⟨b, o, none⟩) L c) := by
      rw [HB.out.cell (p := ⟨w.heap.size, 0, none⟩) (by show w.heap.size < w.heap.size + 1 + 1; omega), <- HW2.out]
      have h1 := (Boxed.new w 25 (.slice (some ⟨b, o, none⟩) L c)).alloc (.cells #[.slice none 0 0] 25)
      exact h1.cell
    have cO := HBO.out.cell
    have fO := HBO.out.frozen
    have hsz := HBO.out.lt
    have HBW := Lib.hid hbw
    have hpl : ps.length <= 700 := by have := congrArg List.length HPS.out; simp at this; omega
    clear hbw hw2
    by_cases hlt : k < L
    · by_cases h7 : k < 700
      · obtain ⟨x, hx⟩ : ∃ x, l[k]? = some x := ⟨_, List.getElem?_eq_getElem (by rw [HL.out]; exact hlt)⟩
        obtain ⟨fv, hfl, m0, m1, m2, m3, m4, m5, m6, m7, m8⟩ := (HN.out k x hx).below HBW.out hb
        obtain ⟨FA, fc, rfl, ⟨hfc, hxm⟩, hnil, hpos⟩ := hfl
        obtain ⟨n, hn⟩ : ∃ n, x.l.length = n := ⟨_, rfl⟩
        rw [hn] at m7 hfc hpos
        have HX := Lib.hid hx
        have HNN := Lib.hid hn
        clear hx hn
        cases FA with
        | none =>
          have hn0 : n = 0 := by
            rcases Nat.eq_zero_or_pos n with h | h
            · exact h
            · obtain ⟨_, _, e, _⟩ := hpos h; cases e
          subst hn0
          obtain rfl := hnil rfl
          have HNIL : Hid (x.l = []) := Lib.hid (List.eq_nil_of_length_eq_zero HNN.out)
          have HFL : Hid (x.l.length = 0) := HNN
          have HCUT : Hid ((cut x).l = x.l) := Lib.hid (List.take_of_length_le (by have := HNN.out; omega))
          have HR0 : Hid (((wr.alloc (.cells (ndArr x (.slice none 0 0)) 37)).alloc (.cells #[] 97)).ownsRow (w.heap.size + 3) 97 3 (.slice (some ⟨wr.heap.size + 1, 0, none⟩) 0 0) 0 []) := Lib.hid (by
            have := World.ownsRow_made (base := w.heap.size + 3) (e := 97) (size := 3) (wr.alloc (.cells (ndArr x (.slice none 0 0)) 37)) #[] 0 (by simp; omega) (by decide) rfl
            rw [World.size_alloc] at this; exact this)
          have tok1 := True.intro
          clear hpos hnil
          go_wp2_with (first | (at_builtin; have _t := tok1; refine wpList_append_own_none rfl _ _ 35 rfl (w.heap.size + 3) 97 i0 3 Tryz.underlying35 hi _ 0 [] rfl HR0.out rfl ?_; obtain ⟨w3, hw3⟩ : ∃ w3, (wr.alloc (.cells (ndArr x (.slice none 0 0)) 37)).alloc (.cells #[] 97) = w3 := ⟨_, rfl⟩; have hown1 : w3.ownsRow (w.heap.size + 3) 97 3 (.slice (some ⟨wr.heap.size + 1, 0, none⟩) 0 0) 0 (fCells x.l) := (by rw [<- hw3, HNIL.out]; exact HR0.out); have hgrow1 : ((wr.alloc (.cells (ndArr x (.slice none 0 0)) 37)).alloc (.cells #[] 97)).grownBy w3 (some (wr.heap.size + 1)) := (by rw [hw3]; exact World.grownBy.refl _ _); have e3 : (wr.alloc (.cells #[.int .i64 x.kind, .int .i64 x.a, .int .i64 x.b, .int .i64 x.c, .int .i64 x.n, .string x.nm, .string x.s, .slice none 0 0, .int .i64 x.pos] 37)).alloc (.cells #[] 97) = w3 := hw3; rw [e3]; clear hw3 e3; obtain ⟨p3, p4, pO, pN, pF, pB, plt⟩ := few_mid (x := x) (fv := .slice none 0 0) (FD := x.l) HBO.out HO.out HFL.out hown1 hgrow1; obtain ⟨_, _, _, _, _, _, _, n7, _⟩ := nd_cells p3; have f7 := Blk_frozen p3 7; obtain ⟨q0, q1, q2, q3, q4, q5, q6, q7, q8⟩ := nd_cells p4; have cX := pO.cell; have HR2 := Lib.hid (pN.1.alloc (.cells (ndArr x (.slice (some ⟨wr.heap.size + 1, 0, none⟩) 0 0)) 37)); have HC2 := Lib.hid (new_cellsT (w3.setCell ⟨wr.heap.size, 7, none⟩ (.slice (some ⟨wr.heap.size + 1, 0, none⟩) 0 0)) 37 (ndArr x (.slice (some ⟨wr.heap.size + 1, 0, none⟩) 0 0)).toList w3.heap.size (by simp)); have HMID := Lib.hid (And.intro pO (And.intro pN (And.intro pF pB))); clear p3 p4 pO pN pF pB hown1 hgrow1 tok1) | (at_builtin; refine wpList_append_own _ rfl _ _ 23 rfl (w.heap.size + 3) 37 j0 (.agg #[.int .i64 0, .int .i64 0, .int .i64 0, .int .i64 0, .int .i64 0, .string ⟨#[]⟩, .string ⟨#[]⟩, .slice none 0 0, .int .i64 0]) 9 104 Tryz.underlying23 hj hy0 hy1 hy2 rfl (by decide) _ _ _ rfl HR2.out ⟨_, 0, none⟩ 1 1 ((ndArr x (.slice (some ⟨wr.heap.size + 1, 0, none⟩) 0 0)).toList) rfl rfl HC2.out (nd_one _ _ _ _) (by unfold maxLen; omega) (by omega) (by simp; omega) ?_; intro v2 w5 hown2 hgrow2 _; obtain ⟨g2, c2, rfl⟩ := ownsRow_succ hown2; have HFIN := Lib.hid (few_fin (x := x) HMID.out.1 HMID.out.2.1 (by rw [show (cut x).l = x.l from HCUT.out]; exact HMID.out.2.2.1) (by omega) hown2 hgrow2); have cF := HFIN.out.1.cell; have fF := HFIN.out.1.frozen; clear hown2 hgrow2))
          go_roundw
          case rel =>
            obtain ⟨_, e2, e3, e4⟩ := HFIN.out
            refine ⟨k + 1, _, ps ++ [(cut x, _)], by go_num, by omega, by omega, Lib.hid ?_, Lib.hid e2, Lib.hid e3, Lib.hid (HB.out.trans (HMID.out.2.2.2.trans e4))⟩
            rw [List.map_append, HPS.out, cut_take l k x HX.out]; rfl
          case measure => simp [intOf]; omega
        | some fa =>
          by_cases h60 : n <= 60
          · have HFL : Hid (x.l.length = n) := HNN
            have HTK : Hid (x.l.take n = x.l) := Lib.hid (List.take_of_length_le (by have := HNN.out; omega))
            have HCUT : Hid ((cut x).l = x.l) := Lib.hid (List.take_of_length_le (by have := HNN.out; omega))
            have HL3 : Hid ((fCells (x.l)).length = n * 3) := Lib.hid (by rw [fCells_len, HFL.out])
            have HR0 : Hid (((wr.alloc (.cells (ndArr x (.slice (some fa) n fc)) 37)).alloc (.cells #[] 97)).ownsRow (w.heap.size + 3) 97 3 (.slice (some ⟨wr.heap.size + 1, 0, none⟩) 0 0) 0 []) := Lib.hid (by
              have := World.ownsRow_made (base := w.heap.size + 3) (e := 97) (size := 3) (wr.alloc (.cells (ndArr x (.slice (some fa) n fc)) 37)) #[] 0 (by simp; omega) (by decide) rfl
              rw [World.size_alloc] at this; exact this)
            have HC : Hid (∀ j u, (fCells (x.l))[j]? = some u -> ((wr.alloc (.cells (ndArr x (.slice (some fa) n fc)) 37)).alloc (.cells #[] 97)).cell? (fa.add j) = some u) := Lib.hid (few_src HBW.out hpos HNN.out HTK.out _ _)
            have tok1 := True.intro
            clear hpos hnil
            go_wp2_with (first | (at_builtin; have _t := tok1; refine wpList_append_own _ rfl _ _ 35 rfl (w.heap.size + 3) 97 i0 (.agg #[.string ⟨#[]⟩, .string ⟨#[]⟩, .int .i64 0]) 3 40 Tryz.underlying35 hi hz0 hz1 hz2 rfl (by decide) _ 0 [] rfl HR0.out fa n fc (fCells (x.l)) rfl HL3.out HC.out (fCells_one _) (by unfold maxLen; omega) (by omega) (by simp; omega) ?_; intro v1 w3 hown1 hgrow1 hnil1; simp only [Nat.zero_add, List.nil_append] at hown1; obtain ⟨g1, c1, rfl, _, _⟩ := row_some hown1 (fun e => by have := (hnil1.1 e).1; cases this); obtain ⟨p3, p4, pO, pN, pF, pB, plt⟩ := few_mid (x := x) (fv := .slice (some fa) n fc) (FD := x.l) HBO.out HO.out HFL.out hown1 hgrow1; obtain ⟨_, _, _, _, _, _, _, n7, _⟩ := nd_cells p3; have f7 := Blk_frozen p3 7; obtain ⟨q0, q1, q2, q3, q4, q5, q6, q7, q8⟩ := nd_cells p4; have cX := pO.cell; have HR2 := Lib.hid (pN.1.alloc (.cells (ndArr x (.slice (some ⟨g1, 0, none⟩) n c1)) 37)); have HC2 := Lib.hid (new_cellsT (w3.setCell ⟨wr.heap.size, 7, none⟩ (.slice (some ⟨g1, 0, none⟩) n c1)) 37 (ndArr x (.slice (some ⟨g1, 0, none⟩) n c1)).toList w3.heap.size (by simp)); have HMID := Lib.hid (And.intro pO (And.intro pN (And.intro pF pB))); clear p3 p4 pO pN pF pB hown1 hgrow1 tok1) | (at_builtin; refine wpList_append_own _ rfl _ _ 23 rfl (w.heap.size + 3) 37 j0 (.agg #[.int .i64 0, .int .i64 0, .int .i64 0, .int .i64 0, .int .i64 0, .string ⟨#[]⟩, .string ⟨#[]⟩, .slice none 0 0, .int .i64 0]) 9 104 Tryz.underlying23 hj hy0 hy1 hy2 rfl (by decide) _ _ _ rfl HR2.out ⟨_, 0, none⟩ 1 1 ((ndArr x (.slice (some ⟨g1, 0, none⟩) n c1)).toList) rfl rfl HC2.out (nd_one _ _ _ _) (by unfold maxLen; omega) (by omega) (by simp; omega) ?_; intro v2 w5 hown2 hgrow2 _; obtain ⟨g2, c2, rfl⟩ := ownsRow_succ hown2; have HFIN := Lib.hid (few_fin (x := x) HMID.out.1 HMID.out.2.1 (by rw [show (cut x).l = x.l from HCUT.out]; exact HMID.out.2.2.1) (by omega) hown2 hgrow2); have cF := HFIN.out.1.cell; have fF := HFIN.out.1.frozen; clear hown2 hgrow2))
            go_roundw
            case rel =>
              obtain ⟨_, e2, e3, e4⟩ := HFIN.out
              refine ⟨k + 1, _, ps ++ [(cut x, _)], by go_num, by omega, by omega, Lib.hid ?_, Lib.hid e2, Lib.hid e3, Lib.hid (HB.out.trans (HMID.out.2.2.2.trans e4))⟩
              rw [List.map_append, HPS.out, cut_take l k x HX.out]; rfl
            case measure => simp [intOf]; omega
          · have HFL : Hid ((x.l.take 60).length = 60) := Lib.hid (by rw [List.length_take]; have := HNN.out; omega)
            have HTK : Hid (x.l.take 60 = x.l.take 60) := Lib.hid rfl
            have HCUT : Hid ((cut x).l = x.l.take 60) := Lib.hid rfl
            have HL3 : Hid ((fCells (x.l.take 60)).length = 60 * 3) := Lib.hid (by rw [fCells_len, HFL.out])
            have HR0 : Hid (((wr.alloc (.cells (ndArr x (.slice (some fa) n fc)) 37)).alloc (.cells #[] 97)).ownsRow (w.heap.size + 3) 97 3 (.slice (some ⟨wr.heap.size + 1, 0, none⟩) 0 0) 0 []) := Lib.hid (by
              have := World.ownsRow_made (base := w.heap.size + 3) (e := 97) (size := 3) (wr.alloc (.cells (ndArr x (.slice (some fa) n fc)) 37)) #[] 0 (by simp; omega) (by decide) rfl
              rw [World.size_alloc] at this; exact this)
            have HC : Hid (∀ j u, (fCells (x.l.take 60))[j]? = some u -> ((wr.alloc (.cells (ndArr x (.slice (some fa) n fc)) 37)).alloc (.cells #[] 97)).cell? (fa.add j) = some u) := Lib.hid (few_src HBW.out hpos HNN.out HTK.out _ _)
            have tok1 := True.intro
            clear hpos hnil
            go_wp2_with (first | (at_builtin; have _t := tok1; refine wpList_append_own _ rfl _ _ 35 rfl (w.heap.size + 3) 97 i0 (.agg #[.string ⟨#[]⟩, .string ⟨#[]⟩, .int .i64 0]) 3 40 Tryz.underlying35 hi hz0 hz1 hz2 rfl (by decide) _ 0 [] rfl HR0.out fa 60 fc (fCells (x.l.take 60)) rfl HL3.out HC.out (fCells_one _) (by unfold maxLen; omega) (by omega) (by simp; omega) ?_; intro v1 w3 hown1 hgrow1 hnil1; simp only [Nat.zero_add, List.nil_append] at hown1; obtain ⟨g1, c1, rfl, _, _⟩ := row_some hown1 (fun e => by have := (hnil1.1 e).1; cases this); obtain ⟨p3, p4, pO, pN, pF, pB, plt⟩ := few_mid (x := x) (fv := .slice (some fa) n fc) (FD := x.l.take 60) HBO.out HO.out HFL.out hown1 hgrow1; obtain ⟨_, _, _, _, _, _, _, n7, _⟩ := nd_cells p3; have f7 := Blk_frozen p3 7; obtain ⟨q0, q1, q2, q3, q4, q5, q6, q7, q8⟩ := nd_cells p4; have cX := pO.cell; have HR2 := Lib.hid (pN.1.alloc (.cells (ndArr x (.slice (some ⟨g1, 0, none⟩) 60 c1)) 37)); have HC2 := Lib.hid (new_cellsT (w3.setCell ⟨wr.heap.size, 7, none⟩ (.slice (some ⟨g1, 0, none⟩) 60 c1)) 37 (ndArr x (.slice (some ⟨g1, 0, none⟩) 60 c1)).toList w3.heap.size (by simp)); have HMID := Lib.hid (And.intro pO (And.intro pN (And.intro pF pB))); clear p3 p4 pO pN pF pB hown1 hgrow1 tok1) | (at_builtin; refine wpList_append_own _ rfl _ _ 23 rfl (w.heap.size + 3) 37 j0 (.agg #[.int .i64 0, .int .i64 0, .int .i64 0, .int .i64 0, .int .i64 0, .string ⟨#[]⟩, .string ⟨#[]⟩, .slice none 0 0, .int .i64 0]) 9 104 Tryz.underlying23 hj hy0 hy1 hy2 rfl (by decide) _ _ _ rfl HR2.out ⟨_, 0, none⟩ 1 1 ((ndArr x (.slice (some ⟨g1, 0, none⟩) 60 c1)).toList) rfl rfl HC2.out (nd_one _ _ _ _) (by unfold maxLen; omega) (by omega) (by simp; omega) ?_; intro v2 w5 hown2 hgrow2 _; obtain ⟨g2, c2, rfl⟩ := ownsRow_succ hown2; have HFIN := Lib.hid (few_fin (x := x) HMID.out.1 HMID.out.2.1 (by rw [show (cut x).l = x.l.take 60 from HCUT.out]; exact HMID.out.2.2.1) (by omega) hown2 hgrow2); have cF := HFIN.out.1.cell; have fF := HFIN.out.1.frozen; clear hown2 hgrow2))
            go_roundw
            case rel =>
              obtain ⟨_, e2, e3, e4⟩ := HFIN.out
              refine ⟨k + 1, _, ps ++ [(cut x, _)], by go_num, by omega, by omega, Lib.hid ?_, Lib.hid e2, Lib.hid e3, Lib.hid (HB.out.trans (HMID.out.2.2.2.trans e4))⟩
              rw [List.map_append, HPS.out, cut_take l k x HX.out]; rfl
            case measure => simp [intOf]; omega
      · obtain rfl : k = 700 := by omega
        have HPE : Hid (ps.map Prod.fst = few l) := Lib.hid (by rw [HPS.out]; exact few_end (by rw [HL.out]; omega))
        have HRS : Hid (Boxed wr (w.heap.size + 1) 25 (.slice none 0 0)) := Lib.hid (by
          have h1 := Boxed.new (w.alloc (.cells #[.slice (some ⟨b, o, none⟩) L c] 25)) 25 (.slice none 0 0)
          rw [World.size_alloc, HW2.out] at h1
          exact (HB.out.block (w.heap.size + 1) (by omega)).trans h1)
        have cR := HRS.out.cell
        have fR := HRS.out.frozen
        obtain ⟨A1, n1, c1, rfl⟩ : ∃ A1 n1 c1, v = .slice A1 n1 c1 := by
          rcases HO.out.1.2 with ⟨rfl, _⟩ | ⟨g, cap, cur, rfl, _⟩
          · exact ⟨_, _, _, rfl⟩
          · exact ⟨_, _, _, rfl⟩
        go_wp2
        refine bodyPost_ret (v := .agg #[.slice A1 n1 c1]) (by simp [results, Tryz.results14, go_sem, cR]) rfl ?_
        exact few_out HPE.out HRS.out HO.out HBW.out
    · obtain rfl : k = L := by omega
      have HPE : Hid (ps.map Prod.fst = few l) := Lib.hid (by rw [HPS.out]; exact few_end (by rw [HL.out]; omega))
      have HRS : Hid (Boxed wr (w.heap.size + 1) 25 (.slice none 0 0)) := Lib.hid (by
        have h1 := Boxed.new (w.alloc (.cells #[.slice (some ⟨b, o, none⟩) k c] 25)) 25 (.slice none 0 0)
        rw [World.size_alloc, HW2.out] at h1
        exact (HB.out.block (w.heap.size + 1) (by omega)).trans h1)
      have cR := HRS.out.cell
      have fR := HRS.out.frozen
      obtain ⟨A1, n1, c1, rfl⟩ : ∃ A1 n1 c1, v = .slice A1 n1 c1 := by
        rcases HO.out.1.2 with ⟨rfl, _⟩ | ⟨g, cap, cur, rfl, _⟩
        · exact ⟨_, _, _, rfl⟩
        · exact ⟨_, _, _, rfl⟩
      go_wp2
      refine bodyPost_ret (v := .agg #[.slice A1 n1 c1]) (by simp [results, Tryz.results14, go_sem, cR]) rfl ?_
      exact few_out HPE.out HRS.out HO.out HBW.out
theorem few_zero (A : Option Addr) (c : Nat) (w : World) : Calls Tryz.prog 14 #[.agg #[.slice A 0 c]] w (FewPost [] w) := by
  go_enter Tryz.func14, Tryz.ntmps14
  go_wp2
  go_loop [4] (fun i => i = .int .i64 0) (fun _ => 0)
  case atStart => exact rfl
  case round =>
    obtain rfl := hrel
    go_wp2
    refine bodyPost_ret (v := .agg #[.slice none 0 0]) (by simp [results, Tryz.results14, go_sem]) rfl ?_
    exact ⟨_, [], rfl, rfl, ⟨World.ownsRow_nil _ _ _ _, fun y hy => by simp at hy⟩, (((Below.refl _ w).alloc (Nat.le_refl _) _).alloc (by simp) _).alloc (by simp; omega) _⟩
theorem few_any (vl : Value) (l : List Nd) (w : World) (hv : Nodes w.heap.size w vl l) : Calls Tryz.prog 14 #[.agg #[vl]] w (FewPost l w) := by
  obtain ⟨A, c, rfl, ⟨h1, h2⟩, _, hp⟩ := hv
  by_cases h0 : 0 < l.length
  · obtain ⟨b, o, rfl, hb, hn⟩ := hp h0
    exact few_pos l _ c b o (Lib.hid rfl) h0 h1 (by omega) w hb (Lib.hid hn)
  · obtain rfl : l = [] := List.eq_nil_of_length_eq_zero (by omega)
    exact few_zero A c w
theorem ownF_flds {B : Nat} {W : World} {v : Value} {l : List Fld} (h : OwnF B W v l) : Flds W.heap.size W v l := by
  have hc := fun g (hg : v.ownBlock = some g) => World.ownsRow.cells h (g := g) hg
  rcases h.2 with ⟨rfl, h0⟩ | ⟨g, cap, cur, rfl, _, hh, hle, hmx, _⟩
  · exact ⟨none, 0, by rw [h0], ⟨by omega, by omega⟩, fun _ => rfl, fun h => by omega⟩
  · refine ⟨_, cap, rfl, ⟨hle, by unfold maxLen at hmx; exact hmx⟩, (fun h => by cases h), fun _ => ⟨g, 0, rfl, (Array.getElem?_eq_some_iff.1 hh).1, fun j f hj => ?_⟩⟩
    obtain ⟨c0, c1, c2⟩ := fCells_at l j f hj
    have a0 := hc g rfl _ _ c0
    have a1 := hc g rfl _ _ c1
    have a2 := hc g rfl _ _ c2
    rw [Addr.add_lit] at a0 a1 a2
    exact ⟨a0, by rw [show 0 + j * 3 + 1 = 0 + (j * 3 + 1) by omega]; exact a1, by rw [show 0 + j * 3 + 2 = 0 + (j * 3 + 2) by omega]; exact a2⟩
theorem nCells_at : ∀ (ps : List (Nd × Value)) (j : Nat) (p : Nd × Value), ps[j]? = some p -> ∀ f, f < 9 -> (nCells ps)[j * 9 + f]? = (ndArr p.1 p.2).toList[f]?
  | [], _, _, h, _, _ => by simp at h
  | y :: r, 0, p, h, f, hf => by
    simp at h; subst h
    have e : nCells (y :: r) = (ndArr y.1 y.2).toList ++ nCells r := by simp [nCells]
    rw [e, List.getElem?_append_left (by simp [ndArr]; omega), Nat.zero_mul, Nat.zero_add]
  | y :: r, j + 1, p, h, f, hf => by
    have ih := nCells_at r j p (by simpa using h) f hf
    have e : nCells (y :: r) = (ndArr y.1 y.2).toList ++ nCells r := by simp [nCells]
    have hl : (ndArr y.1 y.2).toList.length = 9 := rfl
    rw [e, List.getElem?_append_right (by omega), hl, show (j + 1) * 9 + f - 9 = j * 9 + f by omega]
    exact ih
theorem own_nodes {v : Value} {ps : List (Nd × Value)} {B : Nat} {W : World} (h : OwnN B W v ps) : Nodes W.heap.size W v (ps.map Prod.fst) := by
  have hc := fun g (hg : v.ownBlock = some g) => World.ownsRow.cells h.1 (g := g) hg
  rcases h.1.2 with ⟨rfl, h0⟩ | ⟨g, cap, cur, rfl, _, hh, hle, hmx, _⟩
  · exact ⟨none, 0, by rw [List.length_map, h0], ⟨by rw [List.length_map]; omega, by omega⟩, fun _ => rfl, fun h => by rw [List.length_map] at h; omega⟩
  · refine ⟨_, cap, by rw [List.length_map], ⟨by rw [List.length_map]; exact hle, by unfold maxLen at hmx; exact hmx⟩, (fun h => by cases h), fun _ => ⟨g, 0, rfl, (Array.getElem?_eq_some_iff.1 hh).1, fun j x hj => ?_⟩⟩
    rw [List.getElem?_map] at hj
    obtain ⟨p, hp, rfl⟩ := Option.map_eq_some_iff.1 hj
    have e : ∀ f u, f < 9 -> (ndArr p.1 p.2).toList[f]? = some u -> W.cell? ⟨g, 0 + j * 9 + f, none⟩ = some u := fun f u hf hu => by
      have a := hc g rfl (j * 9 + f) u (by rw [nCells_at ps j p hp f hf]; exact hu)
      rw [Addr.add_lit] at a
      rw [show 0 + j * 9 + f = 0 + (j * 9 + f) by omega]; exact a
    exact ⟨p.2, ownF_flds (h.2 p (List.mem_of_getElem? hp)), e 0 _ (by omega) rfl, e 1 _ (by omega) rfl, e 2 _ (by omega) rfl, e 3 _ (by omega) rfl, e 4 _ (by omega) rfl, e 5 _ (by omega) rfl, e 6 _ (by omega) rfl, e 7 _ (by omega) rfl, e 8 _ (by omega) rfl⟩
open Go.RowKit
def ownN (k : Int) : Nat := if k = 5 ∨ k = 12 ∨ k = 13 ∨ k = 14 then 1 else if k = 6 ∨ k = 7 ∨ k = 8 ∨ k = 10 then 2 else if k = 9 then 3 else 0
def partsB (k : Int) : Bool := decide (k = 11 ∨ k = 14)
theorem ownN_le (k : Int) : ownN k <= 3 := by unfold ownN; split; omega; split; omega; split <;> omega
theorem neI {k m : Int} (h : k ≠ m) : (k == m) = false := by simpa using h
theorem ownKids_any (k : Int) (w : World) : Calls Tryz.prog 103 #[.int .i64 k] w fun e w' => e = .returned (.int .i64 (ownN k : Nat)) /\ w = w' := by
  by_cases h1 : k = 5 ∨ k = 12 ∨ k = 13 ∨ k = 14
  · rcases h1 with rfl | rfl | rfl | rfl
    all_goals
      go_enter Tryz.func103, Tryz.ntmps103
      go_wp2
      go_ret
      exact ⟨rfl, rfl⟩
  · by_cases h2 : k = 6 ∨ k = 7 ∨ k = 8 ∨ k = 10
    · rcases h2 with rfl | rfl | rfl | rfl
      all_goals
        go_enter Tryz.func103, Tryz.ntmps103
        go_wp2
        go_ret
        exact ⟨rfl, rfl⟩
    · by_cases h3 : k = 9
      · subst h3
        go_enter Tryz.func103, Tryz.ntmps103
        go_wp2
        go_ret
        exact ⟨rfl, rfl⟩
      · have e : ownN k = 0 := by unfold ownN; rw [if_neg h1, if_neg h2, if_neg h3]
        rw [e]
        have q1 := neI (k := k) (m := 5) (by omega)
        have q2 := neI (k := k) (m := 12) (by omega)
        have q3 := neI (k := k) (m := 13) (by omega)
        have q4 := neI (k := k) (m := 14) (by omega)
        have q5 := neI (k := k) (m := 6) (by omega)
        have q6 := neI (k := k) (m := 7) (by omega)
        have q7 := neI (k := k) (m := 8) (by omega)
        have q8 := neI (k := k) (m := 10) (by omega)
        have q9 := neI (k := k) (m := 9) (by omega)
        clear h1 h2 h3 e
        go_enter Tryz.func103, Tryz.ntmps103
        go_wp2
        go_ret
        exact ⟨rfl, rfl⟩
theorem hasParts_any (k : Int) (w : World) : Calls Tryz.prog 104 #[.int .i64 k] w fun e w' => e = .returned (.bool (partsB k)) /\ w = w' := by
  by_cases h1 : k = 11
  · subst h1
    go_enter Tryz.func104, Tryz.ntmps104
    go_wp2
    go_ret
    exact ⟨rfl, rfl⟩
  · by_cases h2 : k = 14
    · subst h2
      go_enter Tryz.func104, Tryz.ntmps104
      go_wp2
      go_ret
      exact ⟨rfl, rfl⟩
    · have e : partsB k = false := by unfold partsB; exact decide_eq_false (by omega)
      rw [e]
      have q1 := neI h1
      have q2 := neI h2
      clear h1 h2 e
      go_enter Tryz.func104, Tryz.ntmps104
      go_wp2
      go_ret
      exact ⟨rfl, rfl⟩
theorem ownKids_is {k : Int} {m : Nat} (h : ownN k = m) (w : World) : Calls Tryz.prog 103 #[.int .i64 k] w fun e w' => e = .returned (.int .i64 (m : Int)) /\ w = w' := by subst h; exact ownKids_any k w
theorem hasParts_is {k : Int} {b : Bool} (h : partsB k = b) (w : World) : Calls Tryz.prog 104 #[.int .i64 k] w fun e w' => e = .returned (.bool b) /\ w = w' := by subst h; exact hasParts_any k w
theorem ints_of {B g n : Nat} {W : World} {l : List Int} (h : W.heap[g]? = some (.cells (l.map (Value.int .i64)).toArray 3)) (hB : B <= g) (hn : n = l.length) (hm : l.length <= maxLen) : Ints B W (.slice (some ⟨g, 0, none⟩) n n) l := by
  subst hn
  exact ⟨by simp, .inr ⟨g, l.length, _, rfl, hB, h, Nat.le_refl _, hm, by simp, by rw [Nat.mul_one]; exact List.take_of_length_le (by simp)⟩⟩
theorem splice_all {α : Type} (L cs : List α) (h : L.length = cs.length) : splice L 0 cs = cs := by
  unfold splice
  simp [h]
theorem oneInt {l : List Int} : ∀ v ∈ l.map (Value.int .i64), v.oneCell' = true := fun v hv => by
  obtain ⟨i, _, rfl⟩ := List.mem_map.1 hv
  rfl
theorem kids_own (x : Nd) : kids0 x = [x.a, x.b, x.c].take (ownN x.kind) := by
  unfold kids0 ownN
  split
  · rfl
  · split
    · rfl
    · split <;> rfl
theorem sz3 : (Tryz.prog.info? 3).map (·.size) = some 1 := by kernel_rfl
theorem mk0 (w : World) : (Instr.makeSlice 74 (.int .i64 0) (.int .i64 0)).run Tryz.prog w = .ok (.slice (some ⟨w.heap.size, 0, none⟩) 0 0) (w.alloc (.cells #[] 3)) := by kernel_rfl
theorem mk1 (w : World) : (Instr.makeSlice 74 (.int .i64 1) (.int .i64 1)).run Tryz.prog w = .ok (.slice (some ⟨w.heap.size, 0, none⟩) 1 1) (w.alloc (.cells #[.int .i64 0] 3)) := by kernel_rfl
theorem mk2 (w : World) : (Instr.makeSlice 74 (.int .i64 2) (.int .i64 2)).run Tryz.prog w = .ok (.slice (some ⟨w.heap.size, 0, none⟩) 2 2) (w.alloc (.cells #[.int .i64 0, .int .i64 0] 3)) := by kernel_rfl
theorem mk3 (w : World) : (Instr.makeSlice 74 (.int .i64 3) (.int .i64 3)).run Tryz.prog w = .ok (.slice (some ⟨w.heap.size, 0, none⟩) 3 3) (w.alloc (.cells #[.int .i64 0, .int .i64 0, .int .i64 0] 3)) := by kernel_rfl
theorem copy_at (W : World) (g dl dc : Nat) (A : Addr) (sl sc : Nat) (cur cs : List Value) (t : TypeId) (hg : W.heap[g]? = some (.cells cur.toArray t)) (hn : cs.length = Nat.min sl dl)
    (hsrc : ∀ (j : Nat) (v : Value), cs[j]? = some v -> W.cell? (A.add j) = some v) (hfit : cs.length <= cur.length) (h1 : ∀ v ∈ cs, v.oneCell' = true) :
    ∃ W', Sem.run Tryz.prog (Builtin.copy_ #[74, 74] 3 #[.slice (some ⟨g, 0, none⟩) dl dc, .slice (some A) sl sc]) W = .ok (.int .i64 (cs.length : Int)) W' /\ W'.heap[g]? = some (.cells (splice cur 0 cs).toArray t) /\ Below g W W' /\ ∀ k, k ≠ g -> W'.heap[k]? = W.heap[k]? := by
  refine ⟨_, run_copy_row Tryz.prog W 74 74 3 3 g 0 dl dc A sl sc cur.toArray t cs Tryz.underlying74 sz3 hg hn hsrc (by simpa using hfit) h1, ?_, below_setRow (Below.refl g W) (Nat.le_refl g) _, fun k hk => setRow_other W g k _ hk⟩
  have h := setRow_heap W g _ (cur.toArray.toList.take 0 ++ cs ++ cur.toArray.toList.drop (0 + cs.length)).toArray t (0, 0) hg
  rw [h]
  simp [splice]
theorem arr3 (w : World) (a b c : Int) (m j : Nat) (v : Value) (hv : (([a, b, c].take m).map (Value.int .i64))[j]? = some v) : (w.alloc (.cells #[.int .i64 a, .int .i64 b, .int .i64 c] 115)).cell? ((⟨w.heap.size, 0, none⟩ : Addr).add j) = some v :=
  new_cellsT w 115 [.int .i64 a, .int .i64 b, .int .i64 c] w.heap.size rfl j v (by
    rw [List.map_take, List.getElem?_take] at hv
    split at hv
    · exact hv
    · cases hv)
theorem cell_under (w : World) (o1 o2 : Obj) (b j : Nat) (hb : b < w.heap.size) : ((w.alloc o1).alloc o2).cell? ⟨b, j, none⟩ = w.cell? ⟨b, j, none⟩ :=
  (((Below.refl w.heap.size w).alloc (Nat.le_refl _) o1).alloc (by simp) o2).cell (p := ⟨b, j, none⟩) hb
theorem cell_under1 (w : World) (o1 : Obj) (b j : Nat) (hb : b < w.heap.size) : (w.alloc o1).cell? ⟨b, j, none⟩ = w.cell? ⟨b, j, none⟩ :=
  ((Below.refl w.heap.size w).alloc (Nat.le_refl _) o1).cell (p := ⟨b, j, none⟩) hb
theorem heap_new (w : World) (o : Obj) (p : Nat) (hp : p = w.heap.size) : (w.alloc o).heap[p]? = some o := by subst hp; exact heap_alloc_new w o
theorem pkids_0 {B : Nat} (k a b c n pos : Int) (nm s : ByteArray) (vl : Value) (HO : Hid (ownN k = 0)) (HP : Hid (partsB k = false)) (w : World) (hB : B <= w.heap.size) :
    Calls Tryz.prog 61 #[.agg #[.int .i64 k, .int .i64 a, .int .i64 b, .int .i64 c, .int .i64 n, .string nm, .string s, vl, .int .i64 pos]] w (KidsPost [] B w) := by
  have hmk := mk0
  have hcp : ∀ W : World, Sem.run Tryz.prog (Builtin.copy_ #[74, 74] 3 #[.slice (some ⟨w.heap.size + 1 + 1, 0, none⟩) 0 0, .slice (some ⟨w.heap.size + 1, 0, none⟩) 3 3]) W = .ok (.int .i64 0) W := fun W => by kernel_rfl
  go_enter Tryz.func61, Tryz.ntmps61
  go_wp2_with (first | (go_at_call 103; refine (ownKids_is HO.out _).mono ?_; rintro e w1 ⟨rfl, rfl⟩) | (go_at_call 104; refine (hasParts_is HP.out _).mono ?_; rintro e w1 ⟨rfl, rfl⟩))
  go_ret
  exact KidsPost.of rfl (w.heap.size + 1 + 1) 0 0 rfl rfl (Ints.at (B := B) _ _ 0 [] (by simp) rfl (by simp; omega) (by simp [maxLen])) (below3 hB _ _ _)
theorem pkids_1 {B : Nat} (k a b c n pos : Int) (nm s : ByteArray) (vl : Value) (HO : Hid (ownN k = 1)) (HP : Hid (partsB k = false)) (w : World) (hB : B <= w.heap.size) :
    Calls Tryz.prog 61 #[.agg #[.int .i64 k, .int .i64 a, .int .i64 b, .int .i64 c, .int .i64 n, .string nm, .string s, vl, .int .i64 pos]] w (KidsPost [a] B w) := by
  have hmk := mk1
  obtain ⟨w1, hw1⟩ : ∃ w1, w.alloc (.cells #[.int .i64 k, .int .i64 a, .int .i64 b, .int .i64 c, .int .i64 n, .string nm, .string s, vl, .int .i64 pos] 37) = w1 := ⟨_, rfl⟩
  have hs1 : w1.heap.size = w.heap.size + 1 := by rw [<- hw1, World.size_alloc]
  obtain ⟨W4, hcp, hg4, hb4, _⟩ := copy_at ((w1.alloc (.cells #[.int .i64 a, .int .i64 b, .int .i64 c] 115)).alloc (.cells #[.int .i64 0] 3)) (w.heap.size + 1 + 1) 1 1 ⟨w.heap.size + 1, 0, none⟩ 3 3 [.int .i64 0] (([a] : List Int).map (Value.int .i64)) 3
    (heap_new _ _ _ (by simp [hs1])) rfl (fun j v hv => by
      rw [Addr.add_lit, Nat.zero_add, cell_under1 _ _ _ _ (by simp [hs1])]
      have h := arr3 w1 a b c 1 j v hv
      rw [Addr.add_lit, Nat.zero_add, hs1] at h
      exact h) (Nat.le_refl _) oneInt
  have hk0 : W4.cell? ⟨w.heap.size, 0, none⟩ = some (.int .i64 k) := by
    rw [hb4.cell (p := ⟨w.heap.size, 0, none⟩) (by simp; omega), cell_under _ _ _ _ _ (by omega), <- hw1]
    have h := new_cellsT w 37 (#[.int .i64 k, .int .i64 a, .int .i64 b, .int .i64 c, .int .i64 n, .string nm, .string s, vl, .int .i64 pos].toList) w.heap.size rfl 0 _ rfl
    rw [Addr.add_lit] at h
    exact h
  rw [<- hw1] at hcp hb4
  have HB4 := Lib.hid hb4
  have HG4 := Lib.hid hg4
  clear hb4 hg4 hs1 hw1
  go_enter Tryz.func61, Tryz.ntmps61
  go_wp2_with (first | (go_at_call 103; refine (ownKids_is HO.out _).mono ?_; rintro e w1 ⟨rfl, rfl⟩) | (go_at_call 104; refine (hasParts_is HP.out _).mono ?_; rintro e w1 ⟨rfl, rfl⟩))
  go_ret
  refine KidsPost.of rfl (w.heap.size + 1 + 1) 1 1 rfl rfl (ints_of (l := [a]) ?_ (by omega) rfl (by simp [maxLen])) ((below3 hB _ _ _).trans (HB4.out.mono (by omega)))
  have h := HG4.out
  rw [splice_all _ _ (by simp)] at h
  exact h
theorem pkids_2 {B : Nat} (k a b c n pos : Int) (nm s : ByteArray) (vl : Value) (HO : Hid (ownN k = 2)) (HP : Hid (partsB k = false)) (w : World) (hB : B <= w.heap.size) :
    Calls Tryz.prog 61 #[.agg #[.int .i64 k, .int .i64 a, .int .i64 b, .int .i64 c, .int .i64 n, .string nm, .string s, vl, .int .i64 pos]] w (KidsPost [a, b] B w) := by
  have hmk := mk2
  obtain ⟨w1, hw1⟩ : ∃ w1, w.alloc (.cells #[.int .i64 k, .int .i64 a, .int .i64 b, .int .i64 c, .int .i64 n, .string nm, .string s, vl, .int .i64 pos] 37) = w1 := ⟨_, rfl⟩
  have hs1 : w1.heap.size = w.heap.size + 1 := by rw [<- hw1, World.size_alloc]
  obtain ⟨W4, hcp, hg4, hb4, _⟩ := copy_at ((w1.alloc (.cells #[.int .i64 a, .int .i64 b, .int .i64 c] 115)).alloc (.cells #[.int .i64 0, .int .i64 0] 3)) (w.heap.size + 1 + 1) 2 2 ⟨w.heap.size + 1, 0, none⟩ 3 3 [.int .i64 0, .int .i64 0] (([a, b] : List Int).map (Value.int .i64)) 3
    (heap_new _ _ _ (by simp [hs1])) rfl (fun j v hv => by
      rw [Addr.add_lit, Nat.zero_add, cell_under1 _ _ _ _ (by simp [hs1])]
      have h := arr3 w1 a b c 2 j v hv
      rw [Addr.add_lit, Nat.zero_add, hs1] at h
      exact h) (Nat.le_refl _) oneInt
  have hk0 : W4.cell? ⟨w.heap.size, 0, none⟩ = some (.int .i64 k) := by
    rw [hb4.cell (p := ⟨w.heap.size, 0, none⟩) (by simp; omega), cell_under _ _ _ _ _ (by omega), <- hw1]
    have h := new_cellsT w 37 (#[.int .i64 k, .int .i64 a, .int .i64 b, .int .i64 c, .int .i64 n, .string nm, .string s, vl, .int .i64 pos].toList) w.heap.size rfl 0 _ rfl
    rw [Addr.add_lit] at h
    exact h
  rw [<- hw1] at hcp hb4
  have HB4 := Lib.hid hb4
  have HG4 := Lib.hid hg4
  clear hb4 hg4 hs1 hw1
  go_enter Tryz.func61, Tryz.ntmps61
  go_wp2_with (first | (go_at_call 103; refine (ownKids_is HO.out _).mono ?_; rintro e w1 ⟨rfl, rfl⟩) | (go_at_call 104; refine (hasParts_is HP.out _).mono ?_; rintro e w1 ⟨rfl, rfl⟩))
  go_ret
  refine KidsPost.of rfl (w.heap.size + 1 + 1) 2 2 rfl rfl (ints_of (l := [a, b]) ?_ (by omega) rfl (by simp [maxLen])) ((below3 hB _ _ _).trans (HB4.out.mono (by omega)))
  have h := HG4.out
  rw [splice_all _ _ (by simp)] at h
  exact h
theorem pkids_3 {B : Nat} (k a b c n pos : Int) (nm s : ByteArray) (vl : Value) (HO : Hid (ownN k = 3)) (HP : Hid (partsB k = false)) (w : World) (hB : B <= w.heap.size) :
    Calls Tryz.prog 61 #[.agg #[.int .i64 k, .int .i64 a, .int .i64 b, .int .i64 c, .int .i64 n, .string nm, .string s, vl, .int .i64 pos]] w (KidsPost [a, b, c] B w) := by
  have hmk := mk3
  obtain ⟨w1, hw1⟩ : ∃ w1, w.alloc (.cells #[.int .i64 k, .int .i64 a, .int .i64 b, .int .i64 c, .int .i64 n, .string nm, .string s, vl, .int .i64 pos] 37) = w1 := ⟨_, rfl⟩
  have hs1 : w1.heap.size = w.heap.size + 1 := by rw [<- hw1, World.size_alloc]
  obtain ⟨W4, hcp, hg4, hb4, _⟩ := copy_at ((w1.alloc (.cells #[.int .i64 a, .int .i64 b, .int .i64 c] 115)).alloc (.cells #[.int .i64 0, .int .i64 0, .int .i64 0] 3)) (w.heap.size + 1 + 1) 3 3 ⟨w.heap.size + 1, 0, none⟩ 3 3 [.int .i64 0, .int .i64 0, .int .i64 0] (([a, b, c] : List Int).map (Value.int .i64)) 3
    (heap_new _ _ _ (by simp [hs1])) rfl (fun j v hv => by
      rw [Addr.add_lit, Nat.zero_add, cell_under1 _ _ _ _ (by simp [hs1])]
      have h := arr3 w1 a b c 3 j v hv
      rw [Addr.add_lit, Nat.zero_add, hs1] at h
      exact h) (Nat.le_refl _) oneInt
  have hk0 : W4.cell? ⟨w.heap.size, 0, none⟩ = some (.int .i64 k) := by
    rw [hb4.cell (p := ⟨w.heap.size, 0, none⟩) (by simp; omega), cell_under _ _ _ _ _ (by omega), <- hw1]
    have h := new_cellsT w 37 (#[.int .i64 k, .int .i64 a, .int .i64 b, .int .i64 c, .int .i64 n, .string nm, .string s, vl, .int .i64 pos].toList) w.heap.size rfl 0 _ rfl
    rw [Addr.add_lit] at h
    exact h
  rw [<- hw1] at hcp hb4
  have HB4 := Lib.hid hb4
  have HG4 := Lib.hid hg4
  clear hb4 hg4 hs1 hw1
  go_enter Tryz.func61, Tryz.ntmps61
  go_wp2_with (first | (go_at_call 103; refine (ownKids_is HO.out _).mono ?_; rintro e w1 ⟨rfl, rfl⟩) | (go_at_call 104; refine (hasParts_is HP.out _).mono ?_; rintro e w1 ⟨rfl, rfl⟩))
  go_ret
  refine KidsPost.of rfl (w.heap.size + 1 + 1) 3 3 rfl rfl (ints_of (l := [a, b, c]) ?_ (by omega) rfl (by simp [maxLen])) ((below3 hB _ _ _).trans (HB4.out.mono (by omega)))
  have h := HG4.out
  rw [splice_all _ _ (by simp)] at h
  exact h
open Go.RowKit
theorem pkids_p0 {B : Nat} (k a b c n pos : Int) (nm s : ByteArray) (l : List Fld) (L cp fb fo : Nat) (HO : Hid (ownN k = 0)) (HP : Hid (partsB k = true)) (HL : Hid (l.length = L)) (hL : L <= 1000000) (w : World) (hB : B <= w.heap.size) (hfb : fb < w.heap.size) (HF : Hid (FldsAt w fb fo l)) (R : List Int) (HRR : Hid (R = ([] : List Int) ++ l.map Fld.pl)) :
    Calls Tryz.prog 61 #[.agg #[.int .i64 k, .int .i64 a, .int .i64 b, .int .i64 c, .int .i64 n, .string nm, .string s, .slice (some ⟨fb, fo, none⟩) L cp, .int .i64 pos]] w (KidsPost R B w) := by
  obtain ⟨i0, hi, hz0, hz1, hz2⟩ := info_parts intInfo
  have hmk := mk0
  obtain ⟨w1, hw1⟩ : ∃ w1, w.alloc (.cells #[.int .i64 k, .int .i64 a, .int .i64 b, .int .i64 c, .int .i64 n, .string nm, .string s, .slice (some ⟨fb, fo, none⟩) L cp, .int .i64 pos] 37) = w1 := ⟨_, rfl⟩
  have hs1 : w1.heap.size = w.heap.size + 1 := by rw [<- hw1, World.size_alloc]
  obtain ⟨W4, hcp, hg4, hb4⟩ : ∃ W4, Sem.run Tryz.prog (Builtin.copy_ #[74, 74] 3 #[.slice (some ⟨w.heap.size + 1 + 1, 0, none⟩) 0 0, .slice (some ⟨w.heap.size + 1, 0, none⟩) 3 3]) ((w1.alloc (.cells #[.int .i64 a, .int .i64 b, .int .i64 c] 115)).alloc (.cells #[] 3)) = .ok (.int .i64 0) W4 /\ W4.heap[w.heap.size + 1 + 1]? = some (.cells ((([] : List Int) : List Int).map (Value.int .i64)).toArray 3) /\ Below (w.heap.size + 1 + 1) ((w1.alloc (.cells #[.int .i64 a, .int .i64 b, .int .i64 c] 115)).alloc (.cells #[] 3)) W4 :=
    ⟨_, by kernel_rfl, heap_new _ _ _ (by simp [hs1]), Below.refl _ _⟩
  have hc : ∀ j u, #[.int .i64 k, .int .i64 a, .int .i64 b, .int .i64 c, .int .i64 n, .string nm, .string s, .slice (some ⟨fb, fo, none⟩) L cp, .int .i64 pos].toList[j]? = some u -> W4.cell? ⟨w.heap.size, j, none⟩ = some u := fun j u hj => by
    rw [hb4.cell (p := ⟨w.heap.size, j, none⟩) (by simp; omega), cell_under _ _ _ _ _ (by omega), <- hw1]
    have h := new_cellsT w 37 (#[.int .i64 k, .int .i64 a, .int .i64 b, .int .i64 c, .int .i64 n, .string nm, .string s, .slice (some ⟨fb, fo, none⟩) L cp, .int .i64 pos].toList) w.heap.size rfl j u hj
    rw [Addr.add_lit, Nat.zero_add] at h
    exact h
  have hk0 := hc 0 _ rfl
  have hk7 := hc 7 _ rfl
  have h4s := hb4.size
  rw [World.size_alloc, World.size_alloc, hs1] at h4s
  rw [<- hw1] at hcp hb4
  have HB4 := Lib.hid ((below3 hB _ _ _).trans (hb4.mono (B' := B) (by omega)))
  have HG4 := Lib.hid hg4
  have HB4B := Lib.hid ((below3 (Nat.le_refl w.heap.size) _ _ _).trans (hb4.mono (B' := w.heap.size) (by omega)))
  clear hb4 hg4 hs1 hw1 hc
  go_enter Tryz.func61, Tryz.ntmps61
  go_wp2_with (first | (go_at_call 103; refine (ownKids_is HO.out _).mono ?_; rintro e w1 ⟨rfl, rfl⟩) | (go_at_call 104; refine (hasParts_is HP.out _).mono ?_; rintro e w1 ⟨rfl, rfl⟩))
  go_loopw [4, 27] (fun v i wr => ∃ q g c' : Nat, v = .slice (some ⟨g, 0, none⟩) q c' /\ i = .int .i64 (q : Int) /\ q <= L /\ Hid (wr.ownsRow (w.heap.size + 1) 3 1 (.slice (some ⟨g, 0, none⟩) q c') q ((([] : List Int) ++ (l.take q).map Fld.pl).map (Value.int .i64))) /\ Hid (Below (w.heap.size + 1) W4 wr)) (fun _ i _ => L - (intOf i).toNat)
  case atStart => exact ⟨0, _, _, rfl, rfl, by omega, Lib.hid (by rw [List.take_zero]; exact ints_of (B := w.heap.size + 1) (l := ([] : List Int)) HG4.out (by omega) rfl (by simp [maxLen])), Lib.hid (Below.refl _ _)⟩
  case round =>
    obtain ⟨q, g, c', rfl, rfl, hq, HI, HB⟩ := hrel
    have hcb : wr.cell? ⟨w.heap.size, 7, none⟩ = some (.slice (some ⟨fb, fo, none⟩) L cp) := (HB.out.cell (p := ⟨w.heap.size, 7, none⟩) (by simp)).trans hk7
    have hsz := HB.out.size
    by_cases hlt : q < L
    · obtain ⟨fd, hfd⟩ : ∃ fd, l[q]? = some fd := ⟨_, List.getElem?_eq_getElem (by rw [HL.out]; exact hlt)⟩
      obtain ⟨z0, z1, z2⟩ := (HF.out.below (W' := wr) (HB4B.out.trans (HB.out.mono (by omega))) hfb) q fd hfd
      have HX := Lib.hid (pl_take l q fd hfd)
      clear hfd
      go_wp2_with (at_builtin; refine wpList_append_own _ rfl _ _ 74 rfl (w.heap.size + 1) 3 i0 (.int .i64 0) 1 8 Tryz.underlying74 hi hz0 hz1 hz2 rfl (by decide) _ _ _ rfl ((HI.out.alloc _).alloc _) ⟨wr.heap.size + 1, 0, none⟩ 1 1 [.int .i64 fd.pl] rfl rfl (new_cellsT _ 3 [.int .i64 fd.pl] _ (by simp)) (fun u hu => by rw [List.mem_singleton.1 hu]; rfl) (by unfold maxLen; omega) (by omega) (by simp; omega) ?_; intro v' w2 hown' hgrow _; obtain ⟨g', cap', rfl⟩ := ownsRow_succ hown'; have HO := Lib.hid hown'; have HG := Lib.hid hgrow; clear hown' hgrow)
      go_roundw
      case rel =>
        refine ⟨q + 1, g', cap', rfl, by go_num, by omega, Lib.hid ?_, Lib.hid (((HB.out.alloc (by omega) _).alloc (by simp; omega) _).grown HG.out (by simp; omega) (fun k hk => (HI.out.lt k hk).1))⟩
        have h := HO.out
        rw [HX.out, <- List.append_assoc, List.map_append]
        exact h
      case measure => simp [intOf]; omega
    · obtain rfl : q = L := by omega
      go_wp2
      go_ret
      refine KidsPost.of rfl _ _ _ rfl (by have := HL.out; rw [HRR.out]; simp; omega) ?_ ?_
      · have h := HI.out
        rw [List.take_of_length_le (by have := HL.out; omega)] at h
        have e : (([] : List Int) ++ l.map Fld.pl).length = q := by have := HL.out; simp; omega
        unfold Ints
        rw [HRR.out, e]
        exact row_mono h (by omega)
      · exact HB4.out.trans (HB.out.mono (by omega))
theorem pkids_p1 {B : Nat} (k a b c n pos : Int) (nm s : ByteArray) (l : List Fld) (L cp fb fo : Nat) (HO : Hid (ownN k = 1)) (HP : Hid (partsB k = true)) (HL : Hid (l.length = L)) (hL : L <= 1000000) (w : World) (hB : B <= w.heap.size) (hfb : fb < w.heap.size) (HF : Hid (FldsAt w fb fo l)) (R : List Int) (HRR : Hid (R = [a] ++ l.map Fld.pl)) :
    Calls Tryz.prog 61 #[.agg #[.int .i64 k, .int .i64 a, .int .i64 b, .int .i64 c, .int .i64 n, .string nm, .string s, .slice (some ⟨fb, fo, none⟩) L cp, .int .i64 pos]] w (KidsPost R B w) := by
  obtain ⟨i0, hi, hz0, hz1, hz2⟩ := info_parts intInfo
  have hmk := mk1
  obtain ⟨w1, hw1⟩ : ∃ w1, w.alloc (.cells #[.int .i64 k, .int .i64 a, .int .i64 b, .int .i64 c, .int .i64 n, .string nm, .string s, .slice (some ⟨fb, fo, none⟩) L cp, .int .i64 pos] 37) = w1 := ⟨_, rfl⟩
  have hs1 : w1.heap.size = w.heap.size + 1 := by rw [<- hw1, World.size_alloc]
  obtain ⟨W4, hcp, hg4, hb4, _⟩ := copy_at ((w1.alloc (.cells #[.int .i64 a, .int .i64 b, .int .i64 c] 115)).alloc (.cells #[.int .i64 0] 3)) (w.heap.size + 1 + 1) 1 1 ⟨w.heap.size + 1, 0, none⟩ 3 3 [.int .i64 0] (([a] : List Int).map (Value.int .i64)) 3
    (heap_new _ _ _ (by simp [hs1])) rfl (fun j v hv => by
      rw [Addr.add_lit, Nat.zero_add, cell_under1 _ _ _ _ (by simp [hs1])]
      have h := arr3 w1 a b c 1 j v hv
      rw [Addr.add_lit, Nat.zero_add, hs1] at h
      exact h) (Nat.le_refl _) oneInt
  rw [splice_all _ _ (by simp)] at hg4
  have hc : ∀ j u, #[.int .i64 k, .int .i64 a, .int .i64 b, .int .i64 c, .int .i64 n, .string nm, .string s, .slice (some ⟨fb, fo, none⟩) L cp, .int .i64 pos].toList[j]? = some u -> W4.cell? ⟨w.heap.size, j, none⟩ = some u := fun j u hj => by
    rw [hb4.cell (p := ⟨w.heap.size, j, none⟩) (by simp; omega), cell_under _ _ _ _ _ (by omega), <- hw1]
    have h := new_cellsT w 37 (#[.int .i64 k, .int .i64 a, .int .i64 b, .int .i64 c, .int .i64 n, .string nm, .string s, .slice (some ⟨fb, fo, none⟩) L cp, .int .i64 pos].toList) w.heap.size rfl j u hj
    rw [Addr.add_lit, Nat.zero_add] at h
    exact h
  have hk0 := hc 0 _ rfl
  have hk7 := hc 7 _ rfl
  have h4s := hb4.size
  rw [World.size_alloc, World.size_alloc, hs1] at h4s
  rw [<- hw1] at hcp hb4
  have HB4 := Lib.hid ((below3 hB _ _ _).trans (hb4.mono (B' := B) (by omega)))
  have HG4 := Lib.hid hg4
  have HB4B := Lib.hid ((below3 (Nat.le_refl w.heap.size) _ _ _).trans (hb4.mono (B' := w.heap.size) (by omega)))
  clear hb4 hg4 hs1 hw1 hc
  go_enter Tryz.func61, Tryz.ntmps61
  go_wp2_with (first | (go_at_call 103; refine (ownKids_is HO.out _).mono ?_; rintro e w1 ⟨rfl, rfl⟩) | (go_at_call 104; refine (hasParts_is HP.out _).mono ?_; rintro e w1 ⟨rfl, rfl⟩))
  go_loopw [4, 27] (fun v i wr => ∃ q g c' : Nat, v = .slice (some ⟨g, 0, none⟩) (q + 1) c' /\ i = .int .i64 (q : Int) /\ q <= L /\ Hid (wr.ownsRow (w.heap.size + 1) 3 1 (.slice (some ⟨g, 0, none⟩) (q + 1) c') (q + 1) (([a] ++ (l.take q).map Fld.pl).map (Value.int .i64))) /\ Hid (Below (w.heap.size + 1) W4 wr)) (fun _ i _ => L - (intOf i).toNat)
  case atStart => exact ⟨0, _, _, rfl, rfl, by omega, Lib.hid (by rw [List.take_zero]; exact ints_of (B := w.heap.size + 1) (l := [a]) HG4.out (by omega) rfl (by simp [maxLen])), Lib.hid (Below.refl _ _)⟩
  case round =>
    obtain ⟨q, g, c', rfl, rfl, hq, HI, HB⟩ := hrel
    have hcb : wr.cell? ⟨w.heap.size, 7, none⟩ = some (.slice (some ⟨fb, fo, none⟩) L cp) := (HB.out.cell (p := ⟨w.heap.size, 7, none⟩) (by simp)).trans hk7
    have hsz := HB.out.size
    by_cases hlt : q < L
    · obtain ⟨fd, hfd⟩ : ∃ fd, l[q]? = some fd := ⟨_, List.getElem?_eq_getElem (by rw [HL.out]; exact hlt)⟩
      obtain ⟨z0, z1, z2⟩ := (HF.out.below (W' := wr) (HB4B.out.trans (HB.out.mono (by omega))) hfb) q fd hfd
      have HX := Lib.hid (pl_take l q fd hfd)
      clear hfd
      go_wp2_with (at_builtin; refine wpList_append_own _ rfl _ _ 74 rfl (w.heap.size + 1) 3 i0 (.int .i64 0) 1 8 Tryz.underlying74 hi hz0 hz1 hz2 rfl (by decide) _ _ _ rfl ((HI.out.alloc _).alloc _) ⟨wr.heap.size + 1, 0, none⟩ 1 1 [.int .i64 fd.pl] rfl rfl (new_cellsT _ 3 [.int .i64 fd.pl] _ (by simp)) (fun u hu => by rw [List.mem_singleton.1 hu]; rfl) (by unfold maxLen; omega) (by omega) (by simp; omega) ?_; intro v' w2 hown' hgrow _; obtain ⟨g', cap', rfl⟩ := ownsRow_succ hown'; have HO := Lib.hid hown'; have HG := Lib.hid hgrow; clear hown' hgrow)
      go_roundw
      case rel =>
        refine ⟨q + 1, g', cap', rfl, by go_num, by omega, Lib.hid ?_, Lib.hid (((HB.out.alloc (by omega) _).alloc (by simp; omega) _).grown HG.out (by simp; omega) (fun k hk => (HI.out.lt k hk).1))⟩
        have h := HO.out
        rw [HX.out, <- List.append_assoc, List.map_append]
        exact h
      case measure => simp [intOf]; omega
    · obtain rfl : q = L := by omega
      go_wp2
      go_ret
      refine KidsPost.of rfl _ _ _ rfl (by have := HL.out; rw [HRR.out]; simp; omega) ?_ ?_
      · have h := HI.out
        rw [List.take_of_length_le (by have := HL.out; omega)] at h
        have e : ([a] ++ l.map Fld.pl).length = (q + 1) := by have := HL.out; simp; omega
        unfold Ints
        rw [HRR.out, e]
        exact row_mono h (by omega)
      · exact HB4.out.trans (HB.out.mono (by omega))
theorem pkids_z0 {B : Nat} (k a b c n pos : Int) (nm s : ByteArray) (A : Option Addr) (cp : Nat) (HO : Hid (ownN k = 0)) (HP : Hid (partsB k = true)) (w : World) (hB : B <= w.heap.size) :
    Calls Tryz.prog 61 #[.agg #[.int .i64 k, .int .i64 a, .int .i64 b, .int .i64 c, .int .i64 n, .string nm, .string s, .slice A 0 cp, .int .i64 pos]] w (KidsPost ([] : List Int) B w) := by
  have hmk := mk0
  obtain ⟨w1, hw1⟩ : ∃ w1, w.alloc (.cells #[.int .i64 k, .int .i64 a, .int .i64 b, .int .i64 c, .int .i64 n, .string nm, .string s, .slice A 0 cp, .int .i64 pos] 37) = w1 := ⟨_, rfl⟩
  have hs1 : w1.heap.size = w.heap.size + 1 := by rw [<- hw1, World.size_alloc]
  obtain ⟨W4, hcp, hg4, hb4⟩ : ∃ W4, Sem.run Tryz.prog (Builtin.copy_ #[74, 74] 3 #[.slice (some ⟨w.heap.size + 1 + 1, 0, none⟩) 0 0, .slice (some ⟨w.heap.size + 1, 0, none⟩) 3 3]) ((w1.alloc (.cells #[.int .i64 a, .int .i64 b, .int .i64 c] 115)).alloc (.cells #[] 3)) = .ok (.int .i64 0) W4 /\ W4.heap[w.heap.size + 1 + 1]? = some (.cells ((([] : List Int) : List Int).map (Value.int .i64)).toArray 3) /\ Below (w.heap.size + 1 + 1) ((w1.alloc (.cells #[.int .i64 a, .int .i64 b, .int .i64 c] 115)).alloc (.cells #[] 3)) W4 :=
    ⟨_, by kernel_rfl, heap_new _ _ _ (by simp [hs1]), Below.refl _ _⟩
  have hc : ∀ j u, #[.int .i64 k, .int .i64 a, .int .i64 b, .int .i64 c, .int .i64 n, .string nm, .string s, .slice A 0 cp, .int .i64 pos].toList[j]? = some u -> W4.cell? ⟨w.heap.size, j, none⟩ = some u := fun j u hj => by
    rw [hb4.cell (p := ⟨w.heap.size, j, none⟩) (by simp; omega), cell_under _ _ _ _ _ (by omega), <- hw1]
    have h := new_cellsT w 37 (#[.int .i64 k, .int .i64 a, .int .i64 b, .int .i64 c, .int .i64 n, .string nm, .string s, .slice A 0 cp, .int .i64 pos].toList) w.heap.size rfl j u hj
    rw [Addr.add_lit, Nat.zero_add] at h
    exact h
  have hk0 := hc 0 _ rfl
  have hk7 := hc 7 _ rfl
  have h4s := hb4.size
  rw [World.size_alloc, World.size_alloc, hs1] at h4s
  rw [<- hw1] at hcp hb4
  have HB4 := Lib.hid ((below3 hB _ _ _).trans (hb4.mono (B' := B) (by omega)))
  have HG4 := Lib.hid hg4
  clear hb4 hg4 hs1 hw1 hc
  go_enter Tryz.func61, Tryz.ntmps61
  go_wp2_with (first | (go_at_call 103; refine (ownKids_is HO.out _).mono ?_; rintro e w1 ⟨rfl, rfl⟩) | (go_at_call 104; refine (hasParts_is HP.out _).mono ?_; rintro e w1 ⟨rfl, rfl⟩))
  go_loop [4, 27] (fun v i => v = .slice (some ⟨w.heap.size + 1 + 1, 0, none⟩) 0 0 /\ i = .int .i64 0) (fun _ _ => 0)
  case atStart => exact ⟨rfl, rfl⟩
  case round =>
    obtain ⟨rfl, rfl⟩ := hrel
    go_wp2
    go_ret
    exact KidsPost.of rfl _ _ _ rfl rfl (ints_of (l := ([] : List Int)) HG4.out (by omega) rfl (by simp [maxLen])) (HB4.out)
theorem pkids_z1 {B : Nat} (k a b c n pos : Int) (nm s : ByteArray) (A : Option Addr) (cp : Nat) (HO : Hid (ownN k = 1)) (HP : Hid (partsB k = true)) (w : World) (hB : B <= w.heap.size) :
    Calls Tryz.prog 61 #[.agg #[.int .i64 k, .int .i64 a, .int .i64 b, .int .i64 c, .int .i64 n, .string nm, .string s, .slice A 0 cp, .int .i64 pos]] w (KidsPost [a] B w) := by
  have hmk := mk1
  obtain ⟨w1, hw1⟩ : ∃ w1, w.alloc (.cells #[.int .i64 k, .int .i64 a, .int .i64 b, .int .i64 c, .int .i64 n, .string nm, .string s, .slice A 0 cp, .int .i64 pos] 37) = w1 := ⟨_, rfl⟩
  have hs1 : w1.heap.size = w.heap.size + 1 := by rw [<- hw1, World.size_alloc]
  obtain ⟨W4, hcp, hg4, hb4, _⟩ := copy_at ((w1.alloc (.cells #[.int .i64 a, .int .i64 b, .int .i64 c] 115)).alloc (.cells #[.int .i64 0] 3)) (w.heap.size + 1 + 1) 1 1 ⟨w.heap.size + 1, 0, none⟩ 3 3 [.int .i64 0] (([a] : List Int).map (Value.int .i64)) 3
    (heap_new _ _ _ (by simp [hs1])) rfl (fun j v hv => by
      rw [Addr.add_lit, Nat.zero_add, cell_under1 _ _ _ _ (by simp [hs1])]
      have h := arr3 w1 a b c 1 j v hv
      rw [Addr.add_lit, Nat.zero_add, hs1] at h
      exact h) (Nat.le_refl _) oneInt
  rw [splice_all _ _ (by simp)] at hg4
  have hc : ∀ j u, #[.int .i64 k, .int .i64 a, .int .i64 b, .int .i64 c, .int .i64 n, .string nm, .string s, .slice A 0 cp, .int .i64 pos].toList[j]? = some u -> W4.cell? ⟨w.heap.size, j, none⟩ = some u := fun j u hj => by
    rw [hb4.cell (p := ⟨w.heap.size, j, none⟩) (by simp; omega), cell_under _ _ _ _ _ (by omega), <- hw1]
    have h := new_cellsT w 37 (#[.int .i64 k, .int .i64 a, .int .i64 b, .int .i64 c, .int .i64 n, .string nm, .string s, .slice A 0 cp, .int .i64 pos].toList) w.heap.size rfl j u hj
    rw [Addr.add_lit, Nat.zero_add] at h
    exact h
  have hk0 := hc 0 _ rfl
  have hk7 := hc 7 _ rfl
  have h4s := hb4.size
  rw [World.size_alloc, World.size_alloc, hs1] at h4s
  rw [<- hw1] at hcp hb4
  have HB4 := Lib.hid ((below3 hB _ _ _).trans (hb4.mono (B' := B) (by omega)))
  have HG4 := Lib.hid hg4
  clear hb4 hg4 hs1 hw1 hc
  go_enter Tryz.func61, Tryz.ntmps61
  go_wp2_with (first | (go_at_call 103; refine (ownKids_is HO.out _).mono ?_; rintro e w1 ⟨rfl, rfl⟩) | (go_at_call 104; refine (hasParts_is HP.out _).mono ?_; rintro e w1 ⟨rfl, rfl⟩))
  go_loop [4, 27] (fun v i => v = .slice (some ⟨w.heap.size + 1 + 1, 0, none⟩) 1 1 /\ i = .int .i64 0) (fun _ _ => 0)
  case atStart => exact ⟨rfl, rfl⟩
  case round =>
    obtain ⟨rfl, rfl⟩ := hrel
    go_wp2
    go_ret
    exact KidsPost.of rfl _ _ _ rfl rfl (ints_of (l := [a]) HG4.out (by omega) rfl (by simp [maxLen])) (HB4.out)
theorem own_parts (k : Int) (h : partsB k = true) : (k = 11 /\ ownN k = 0) ∨ (k = 14 /\ ownN k = 1) := by
  unfold partsB at h
  rcases of_decide_eq_true h with rfl | rfl
  · exact .inl ⟨rfl, rfl⟩
  · exact .inr ⟨rfl, rfl⟩
theorem pkids_any {B : Nat} (x : Nd) (vl : Value) (w : World) (hB : B <= w.heap.size) (hv : Flds w.heap.size w vl x.l) (hL : x.l.length <= 1000000) :
    Calls Tryz.prog 61 #[.agg (ndArr x vl)] w (KidsPost (kids x) B w) := by
  have e : kids x = [x.a, x.b, x.c].take (ownN x.kind) ++ if partsB x.kind = true then x.l.map Fld.pl else [] := by rw [kids, kids_own]; rfl
  rw [e]
  clear e
  obtain ⟨k, a, b, c, n, nm, s, l, pos⟩ := x
  unfold ndArr
  simp only at hv hL ⊢
  cases hp : partsB k with
  | false =>
    rw [if_neg (by simp), List.append_nil]
    have hle := ownN_le k
    match hm : ownN k, hle with
    | 0, _ => exact pkids_0 k a b c n pos nm s vl (Lib.hid hm) (Lib.hid hp) w hB
    | 1, _ => exact pkids_1 k a b c n pos nm s vl (Lib.hid hm) (Lib.hid hp) w hB
    | 2, _ => exact pkids_2 k a b c n pos nm s vl (Lib.hid hm) (Lib.hid hp) w hB
    | 3, _ => exact pkids_3 k a b c n pos nm s vl (Lib.hid hm) (Lib.hid hp) w hB
    | m + 4, h => omega
  | true =>
    rw [if_pos rfl]
    obtain ⟨A, cp, rfl, _, _, hq⟩ := hv
    rcases own_parts k hp with ⟨hk, hm⟩ | ⟨hk, hm⟩
    · rw [hm]
      by_cases h0 : 0 < l.length
      · obtain ⟨fb, fo, rfl, hlt, hf⟩ := hq h0
        exact pkids_p0 k a b c n pos nm s l _ cp fb fo (Lib.hid hm) (Lib.hid hp) (Lib.hid rfl) hL w hB hlt (Lib.hid hf) _ (Lib.hid rfl)
      · obtain rfl : l = [] := List.eq_nil_of_length_eq_zero (by omega)
        exact pkids_z0 k a b c n pos nm s _ _ (Lib.hid hm) (Lib.hid hp) w hB
    · rw [hm]
      by_cases h0 : 0 < l.length
      · obtain ⟨fb, fo, rfl, hlt, hf⟩ := hq h0
        exact pkids_p1 k a b c n pos nm s l _ cp fb fo (Lib.hid hm) (Lib.hid hp) (Lib.hid rfl) hL w hB hlt (Lib.hid hf) _ (Lib.hid rfl)
      · obtain rfl : l = [] := List.eq_nil_of_length_eq_zero (by omega)
        exact pkids_z1 k a b c n pos nm s _ _ (Lib.hid hm) (Lib.hid hp) w hB
end Go.Proofs.YtjakeidbajkdcaaGreatDoor.T
