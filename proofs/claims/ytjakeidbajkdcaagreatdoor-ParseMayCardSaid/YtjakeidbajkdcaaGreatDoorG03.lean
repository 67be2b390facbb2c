/- Joined by program: TFew, TFewW. -/
import Derived.Test.YtjakeidbajkdcaaGreatDoorG01
import Derived.Laws.AppendOwnNone
import Derived.RangeFuncBox
/- Few: a copy of the first nodes, each with a copy of its first parts. -/
namespace Go.Proofs.YtjakeidbajkdcaaGreatDoor.T
open Go.RowKit
def cut (x : Nd) : Nd := { x with l := x.l.take 60 }
def fCells (l : List Fld) : List Value := l.flatMap fun f => [.string f.nm, .string f.vr, .int .i64 f.pl]
theorem fCells_len : ∀ l : List Fld, (fCells l).length = l.length * 3
  | [] => rfl
  | f :: r => by
    have := fCells_len r
    have e : fCells (f :: r) = [.string f.nm, .string f.vr, .int .i64 f.pl] ++ fCells r := by simp [fCells]
    rw [e, List.length_append, this, List.length_cons]; simp; omega
theorem fCells_at : ∀ (l : List Fld) (j : Nat) (f : Fld), l[j]? = some f → (fCells l)[j * 3]? = some (.string f.nm) ∧ (fCells l)[j * 3 + 1]? = some (.string f.vr) ∧ (fCells l)[j * 3 + 2]? = some (.int .i64 f.pl)
  | [], _, _, h => by simp at h
  | y :: r, 0, f, h => by
    simp at h; subst h
    have e : fCells (y :: r) = [.string y.nm, .string y.vr, .int .i64 y.pl] ++ fCells r := by simp [fCells]
    rw [e]; simp
  | y :: r, j + 1, f, h => by
    have ih := fCells_at r j f (by simpa using h)
    have e : fCells (y :: r) = [.string y.nm, .string y.vr, .int .i64 y.pl] ++ fCells r := by simp [fCells]
    rw [e]
    refine ⟨?_, ?_, ?_⟩
    · rw [List.getElem?_append_right (by simp; omega), show (j + 1) * 3 - [Value.string y.nm, .string y.vr, .int .i64 y.pl].length = j * 3 by simp; omega]; exact ih.1
    · rw [List.getElem?_append_right (by simp; omega), show (j + 1) * 3 + 1 - [Value.string y.nm, .string y.vr, .int .i64 y.pl].length = j * 3 + 1 by simp; omega]; exact ih.2.1
    · rw [List.getElem?_append_right (by simp; omega), show (j + 1) * 3 + 2 - [Value.string y.nm, .string y.vr, .int .i64 y.pl].length = j * 3 + 2 by simp; omega]; exact ih.2.2
/-- Parts of the call's own. -/
def OwnF (B : Nat) (W : World) (v : Value) (l : List Fld) : Prop := W.ownsRow B 97 3 v l.length (fCells l)
/-- Nodes of the call's own, with the slices of their parts. -/
def nCells (l : List (Nd × Value)) : List Value := l.flatMap fun x => (ndArr x.1 x.2).toList
theorem nCells_snoc (l : List (Nd × Value)) (x : Nd × Value) : nCells (l ++ [x]) = nCells l ++ (ndArr x.1 x.2).toList := by simp [nCells]
def OwnN (B : Nat) (W : World) (v : Value) (l : List (Nd × Value)) : Prop := W.ownsRow B 37 9 v l.length (nCells l) ∧ ∀ x ∈ l, OwnF B W x.2 x.1.l
theorem rows_ne {W : World} {B1 B2 e1 e2 s1 s2 n1 n2 : Nat} {v1 v2 : Value} {x1 x2 : List Value} (h1 : W.ownsRow B1 e1 s1 v1 n1 x1) (h2 : W.ownsRow B2 e2 s2 v2 n2 x2) (hne : e1 ≠ e2) : v1.ownBlock = none ∨ v1.ownBlock ≠ v2.ownBlock := by
  rcases h1.2 with ⟨rfl, _⟩ | ⟨g, cap, cur, rfl, _, hg, _⟩
  · exact .inl rfl
  · refine .inr fun e => ?_
    rcases h2.2 with ⟨rfl, _⟩ | ⟨g', cap', cur', rfl, _, hg', _⟩
    · simp [Value.ownBlock] at e
    · simp [Value.ownBlock] at e
      subst e
      rw [hg] at hg'
      simp at hg'
      exact hne hg'.2
theorem fldInfo : (Tryz.prog.info? 97).map (fun i => (i.zero, i.size, i.bytes)) = some (some (.agg #[.string ⟨#[]⟩, .string ⟨#[]⟩, .int .i64 0]), 3, 40) := by kernel_rfl
theorem ndInfo : (Tryz.prog.info? 37).map (fun i => (i.zero, i.size, i.bytes)) = some (some (.agg #[.int .i64 0, .int .i64 0, .int .i64 0, .int .i64 0, .int .i64 0, .string ⟨#[]⟩, .string ⟨#[]⟩, .slice none 0 0, .int .i64 0]), 9, 104) := by kernel_rfl
end Go.Proofs.YtjakeidbajkdcaaGreatDoor.T
/- The walk of Few. -/
namespace Go.Proofs.YtjakeidbajkdcaaGreatDoor.T
open Go.RowKit
theorem grown_set (W : World) (b o : Nat) (v : Value) : W.grownBy (W.setCell ⟨b, o, none⟩ v) (some b) :=
  ⟨rfl, rfl, rfl, (KeepsWalks.setCell W _ v).size, fun k _ hk => Below.heap_setCell _ _ _ k (fun e => hk (by rw [e]))⟩
theorem Blk_cell {W : World} {B : Nat} {cs : Array Value} {t : TypeId} (h : W.heap[B]? = some (.cells cs t (0, 0))) (j : Nat) : W.cell? ⟨B, j, none⟩ = cs[j]? := by simp [World.cell?, h]
theorem Blk_frozen {W : World} {B : Nat} {cs : Array Value} {t : TypeId} (h : W.heap[B]? = some (.cells cs t (0, 0))) (j : Nat) : W.frozen? ⟨B, j, none⟩ = false := by simp [World.frozen?, h]
theorem new_cellsT (W : World) (t : TypeId) (l : List Value) (p : Nat) (hp : p = W.heap.size) : ∀ (j : Nat) (u : Value), l[j]? = some u → (W.alloc (.cells l.toArray t)).cell? ((⟨p, 0, none⟩ : Addr).add j) = some u := fun j u h => by
  subst hp
  rw [Addr.add_lit, Nat.zero_add, World.cell?, heap_alloc_new]
  simpa using h
theorem nd_one (x : Nd) (A : Option Addr) (n c : Nat) : ∀ u ∈ (ndArr x (.slice A n c)).toList, u.oneCell' = true := fun u hu => by
  simp [ndArr] at hu
  rcases hu with rfl | rfl | rfl | rfl | rfl | rfl | rfl | rfl | rfl <;> rfl
theorem nd_cells {W : World} {b : Nat} {x : Nd} {v : Value} (h : W.heap[b]? = some (.cells (ndArr x v) 37 (0, 0))) :
    W.cell? ⟨b, 0, none⟩ = some (.int .i64 x.kind) ∧ W.cell? ⟨b, 1, none⟩ = some (.int .i64 x.a) ∧ W.cell? ⟨b, 2, none⟩ = some (.int .i64 x.b) ∧ W.cell? ⟨b, 3, none⟩ = some (.int .i64 x.c) ∧ W.cell? ⟨b, 4, none⟩ = some (.int .i64 x.n) ∧
      W.cell? ⟨b, 5, none⟩ = some (.string x.nm) ∧ W.cell? ⟨b, 6, none⟩ = some (.string x.s) ∧ W.cell? ⟨b, 7, none⟩ = some v ∧ W.cell? ⟨b, 8, none⟩ = some (.int .i64 x.pos) :=
  ⟨Blk_cell h 0, Blk_cell h 1, Blk_cell h 2, Blk_cell h 3, Blk_cell h 4, Blk_cell h 5, Blk_cell h 6, Blk_cell h 7, Blk_cell h 8⟩
theorem ownF_flds {B : Nat} {W : World} {v : Value} {l : List Fld} (h : OwnF B W v l) : Flds W.heap.size W v l := by
  have hc := fun g (hg : v.ownBlock = some g) => World.ownsRow.cells h (g := g) hg
  rcases h.2 with ⟨rfl, h0⟩ | ⟨g, cap, cur, rfl, _, hh, hle, hmx, _⟩
  · exact ⟨none, 0, by rw [h0], ⟨by omega, by omega⟩, fun _ => rfl, fun h => by omega⟩
  · refine ⟨_, cap, rfl, ⟨hle, by unfold maxLen at hmx; exact hmx⟩, (fun h => by cases h), fun _ => ⟨g, 0, rfl, (Array.getElem?_eq_some_iff.1 hh).1, fun j f hj => ?_⟩⟩
    obtain ⟨c0, c1, c2⟩ := fCells_at l j f hj
    have a0 := hc g rfl _ _ c0
    have a1 := hc g rfl _ _ c1
    have a2 := hc g rfl _ _ c2
    rw [Addr.add_lit] at a0 a1 a2
    exact ⟨a0, by rw [show 0 + j * 3 + 1 = 0 + (j * 3 + 1) by omega]; exact a1, by rw [show 0 + j * 3 + 2 = 0 + (j * 3 + 2) by omega]; exact a2⟩
theorem nCells_at : ∀ (ps : List (Nd × Value)) (j : Nat) (p : Nd × Value), ps[j]? = some p → ∀ f, f < 9 → (nCells ps)[j * 9 + f]? = (ndArr p.1 p.2).toList[f]?
  | [], _, _, h, _, _ => by simp at h
  | y :: r, 0, p, h, f, hf => by
    simp at h; subst h
    have e : nCells (y :: r) = (ndArr y.1 y.2).toList ++ nCells r := by simp [nCells]
    rw [e, List.getElem?_append_left (by simp [ndArr]; omega), Nat.zero_mul, Nat.zero_add]
  | y :: r, j + 1, p, h, f, hf => by
    have ih := nCells_at r j p (by simpa using h) f hf
    have e : nCells (y :: r) = (ndArr y.1 y.2).toList ++ nCells r := by simp [nCells]
    have hl : (ndArr y.1 y.2).toList.length = 9 := rfl
    rw [e, List.getElem?_append_right (by omega), hl, show (j + 1) * 9 + f - 9 = j * 9 + f by omega]
    exact ih
/-- Nodes of the call's own, as nodes in memory. -/
theorem own_nodes {v : Value} {ps : List (Nd × Value)} {B : Nat} {W : World} (h : OwnN B W v ps) : Nodes W.heap.size W v (ps.map Prod.fst) := by
  have hc := fun g (hg : v.ownBlock = some g) => World.ownsRow.cells h.1 (g := g) hg
  rcases h.1.2 with ⟨rfl, h0⟩ | ⟨g, cap, cur, rfl, _, hh, hle, hmx, _⟩
  · exact ⟨none, 0, by rw [List.length_map, h0], ⟨by rw [List.length_map]; omega, by omega⟩, fun _ => rfl, fun h => by rw [List.length_map] at h; omega⟩
  · refine ⟨_, cap, by rw [List.length_map], ⟨by rw [List.length_map]; exact hle, by unfold maxLen at hmx; exact hmx⟩, (fun h => by cases h), fun _ => ⟨g, 0, rfl, (Array.getElem?_eq_some_iff.1 hh).1, fun j x hj => ?_⟩⟩
    rw [List.getElem?_map] at hj
    obtain ⟨p, hp, rfl⟩ := Option.map_eq_some_iff.1 hj
    have e : ∀ f u, f < 9 → (ndArr p.1 p.2).toList[f]? = some u → W.cell? ⟨g, 0 + j * 9 + f, none⟩ = some u := fun f u hf hu => by
      have a := hc g rfl (j * 9 + f) u (by rw [nCells_at ps j p hp f hf]; exact hu)
      rw [Addr.add_lit] at a
      rw [show 0 + j * 9 + f = 0 + (j * 9 + f) by omega]; exact a
    exact ⟨p.2, ownF_flds (h.2 p (List.mem_of_getElem? hp)), e 0 _ (by omega) rfl, e 1 _ (by omega) rfl, e 2 _ (by omega) rfl, e 3 _ (by omega) rfl, e 4 _ (by omega) rfl, e 5 _ (by omega) rfl, e 6 _ (by omega) rfl, e 7 _ (by omega) rfl, e 8 _ (by omega) rfl⟩
end Go.Proofs.YtjakeidbajkdcaaGreatDoor.T
