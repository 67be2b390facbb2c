/- Joined by program: SDownA. -/
import Derived.Test.YteikpeaakmbihaaDoorG29
import Derived.Test.YteikpeaakmbihaaDoorG06
import Derived.Test.YteikpeaakmbihaaDoorG16
/- Down the reaches: what the closure finds in memory. -/
namespace Go.Proofs.YteikpeaakmbihaaDoor.T
open Go.RowKit
/-- A row of binders, two cells each. -/
def bCells (xs : List (Int × Int)) : List Value := xs.flatMap fun p => [.int .i64 p.1, .int .i64 p.2]
theorem bCells_len : ∀ xs : List (Int × Int), (bCells xs).length = 2 * xs.length
  | [] => rfl
  | p :: xs => by have := bCells_len xs; simp only [bCells, List.flatMap_cons, List.length_append, List.length_cons, List.length_nil] at this ⊢; omega
theorem bCells_at : ∀ (xs : List (Int × Int)) (i : Nat) (p : Int × Int), xs[i]? = some p → (bCells xs)[2 * i]? = some (.int .i64 p.1) ∧ (bCells xs)[2 * i + 1]? = some (.int .i64 p.2)
  | [], i, p, h => by simp at h
  | q :: xs, 0, p, h => by obtain rfl : q = p := by simpa using h
                           exact ⟨rfl, rfl⟩
  | q :: xs, i + 1, p, h => by
    have := bCells_at xs i p (by simpa using h)
    have e : bCells (q :: xs) = .int .i64 q.1 :: .int .i64 q.2 :: bCells xs := rfl
    rw [e, show 2 * (i + 1) = 2 * i + 1 + 1 by omega, List.getElem?_cons_succ, List.getElem?_cons_succ, List.getElem?_cons_succ, List.getElem?_cons_succ]
    exact this
theorem bCells_set : ∀ (xs : List (Int × Int)) (i : Nat) (p : Int × Int), ((bCells xs).set (2 * i) (.int .i64 p.1)).set (2 * i + 1) (.int .i64 p.2) = bCells (xs.set i p)
  | [], i, p => by simp [bCells]
  | q :: xs, 0, p => rfl
  | q :: xs, i + 1, p => by
    have := bCells_set xs i p
    have e : ∀ (a : Int × Int) ys, bCells (a :: ys) = .int .i64 a.1 :: .int .i64 a.2 :: bCells ys := fun _ _ => rfl
    rw [List.set_cons_succ, e, e, show 2 * (i + 1) = 2 * i + 1 + 1 by omega, List.set_cons_succ, List.set_cons_succ, List.set_cons_succ, List.set_cons_succ, this]
theorem bCells_rep (n : Nat) : (List.replicate (2 * n) (-1 : Int)).map (Value.int .i64) = bCells (List.replicate n (-1, -1)) := by
  induction n with
  | zero => rfl
  | succ n ih =>
    rw [show 2 * (n + 1) = 2 * n + 1 + 1 by omega, List.replicate_succ, List.replicate_succ, List.map_cons, List.map_cons, ih, List.replicate_succ]
    rfl
structure DSt (w W : World) (pe pl pd gl : Nat) (A : Option Addr) (c cl : Nat) (l : List Nd) (xs : List (Int × Int)) : Prop where
  low : Below w.heap.size w W
  e : W.heap[pe]? = some (.cells #[.slice A l.length c] 24 (0, 0))
  r : W.heap[pl]? = some (.cells #[.slice (some ⟨gl, 0, none⟩) l.length cl] 51 (0, 0))
  d : W.heap[pd]? = some (.cells #[.func (.func 56) #[] #[.pointer (some ⟨pe, 0, none⟩), .pointer (some ⟨pl, 0, none⟩), .pointer (some ⟨pd, 0, none⟩)]] 89 (0, 0))
  g : W.heap[gl]? = some (.cells (bCells xs).toArray 59 (0, 0))
  len : xs.length = l.length
  hg : w.heap.size ≤ gl
section
variable {w W W' : World} {pe pl pd gl c cl : Nat} {A : Option Addr} {l : List Nd} {xs : List (Int × Int)} {v : Value} {env : List Rch}
theorem blk_ne {g k t t' : Nat} {cs cs' : Array Value} (h : W.heap[g]? = some (.cells cs t (0, 0))) (h' : W.heap[k]? = some (.cells cs' t' (0, 0))) (hne : t ≠ t') : g ≠ k := fun e => by
  subst e
  rw [h] at h'
  cases h'
  exact hne rfl
theorem blk_grown {g k : Nat} {o : Obj} (hgr : W.grownBy W' (some g)) (h : W.heap[k]? = some o) (hne : k ≠ g) : W'.heap[k]? = some o := (hgr.block k (Array.getElem?_eq_some_iff.1 h).1 (by simpa using hne)).trans h
theorem grown_trans {a b d : World} {row : Option Nat} (h : a.grownBy b row) (k : b.grownBy d row) : a.grownBy d row :=
  ⟨k.os.trans h.os, k.tape.trans h.tape, k.output.trans h.output, Nat.le_trans h.size k.size, fun i hi hn => (k.block i (Nat.lt_of_lt_of_le hi h.size) hn).trans (h.block i hi hn)⟩
theorem DSt.next (h : DSt w W pe pl pd gl A c cl l xs) (hb : Below W.heap.size W W') : DSt w W' pe pl pd gl A c cl l xs := by
  have k : ∀ {b : Nat} {o : Obj}, W.heap[b]? = some o → W'.heap[b]? = some o := fun hh => (hb.block _ (Array.getElem?_eq_some_iff.1 hh).1).trans hh
  exact ⟨h.low.trans (hb.mono h.low.size), k h.e, k h.r, k h.d, k h.g, h.len, h.hg⟩
theorem DSt.drew (h : DSt w W pe pl pd gl A c cl l xs) : DSt w W.drew pe pl pd gl A c cl l xs := h.next (Below.refl _ _).drew
theorem DSt.ce (h : DSt w W pe pl pd gl A c cl l xs) : W.cell? ⟨pe, 0, none⟩ = some (.slice A l.length c) := (Blk_cell h.e 0).trans rfl
theorem DSt.cr (h : DSt w W pe pl pd gl A c cl l xs) : W.cell? ⟨pl, 0, none⟩ = some (.slice (some ⟨gl, 0, none⟩) l.length cl) := (Blk_cell h.r 0).trans rfl
theorem DSt.cd (h : DSt w W pe pl pd gl A c cl l xs) : W.cell? ⟨pd, 0, none⟩ = some (.func (.func 56) #[] #[.pointer (some ⟨pe, 0, none⟩), .pointer (some ⟨pl, 0, none⟩), .pointer (some ⟨pd, 0, none⟩)]) := (Blk_cell h.d 0).trans rfl
theorem chain_grown (hgr : W.grownBy W' (some gl)) {cs : Array Value} (hg : W.heap[gl]? = some (.cells cs 59 (0, 0))) (h : Chain W v env) : Chain W' v env :=
  h.next fun k _ hk => blk_grown hgr hk (blk_ne hk hg (by decide))
theorem DSt.cells (h : DSt w W pe pl pd gl A c cl l xs) {i : Nat} (hi : i < l.length) : (∃ v, W.cell? ⟨gl, i * 2, none⟩ = some (.int .i64 v)) ∧ ∃ v, W.cell? ⟨gl, i * 2 + 1, none⟩ = some (.int .i64 v) := by
  obtain ⟨p, hp⟩ : ∃ p, xs[i]? = some p := ⟨_, List.getElem?_eq_getElem (by rw [h.len]; exact hi)⟩
  have := bCells_at xs i p hp
  rw [Nat.mul_comm] at this
  exact ⟨⟨p.1, (Blk_cell h.g _).trans (by simpa using this.1)⟩, ⟨p.2, (Blk_cell h.g _).trans (by simpa using this.2)⟩⟩
theorem DSt.froz (h : DSt w W pe pl pd gl A c cl l xs) (i : Nat) : W.frozen? ⟨gl, i * 2, none⟩ = false ∧ W.frozen? ⟨gl, i * 2 + 1, none⟩ = false := ⟨Blk_frozen h.g _, Blk_frozen h.g _⟩
/-- A binder stored into the row. -/
theorem DSt.set (h : DSt w W pe pl pd gl A c cl l xs) (i : Nat) (p : Int × Int) :
    DSt w ((W.setCell ⟨gl, i * 2, none⟩ (.int .i64 p.1)).setCell ⟨gl, i * 2 + 1, none⟩ (.int .i64 p.2)) pe pl pd gl A c cl l (xs.set i p) ∧
    W.grownBy ((W.setCell ⟨gl, i * 2, none⟩ (.int .i64 p.1)).setCell ⟨gl, i * 2 + 1, none⟩ (.int .i64 p.2)) (some gl) := by
  have hgr : W.grownBy ((W.setCell ⟨gl, i * 2, none⟩ (.int .i64 p.1)).setCell ⟨gl, i * 2 + 1, none⟩ (.int .i64 p.2)) (some gl) :=
    grown_trans (grown_set W gl _ _) (grown_set _ gl _ _)
  refine ⟨⟨(h.low.setCell (p := ⟨gl, i * 2, none⟩) h.hg _).setCell (p := ⟨gl, i * 2 + 1, none⟩) h.hg _, blk_grown hgr h.e (blk_ne h.e h.g (by decide)), blk_grown hgr h.r (blk_ne h.r h.g (by decide)), blk_grown hgr h.d (blk_ne h.d h.g (by decide)), ?_, by simpa using h.len, h.hg⟩, hgr⟩
  have := blk_put (j := i * 2 + 1) (v := .int .i64 p.2) (blk_put (j := i * 2) (v := .int .i64 p.1) h.g)
  rw [this, ← bCells_set, Nat.mul_comm]
  simp
end
end Go.Proofs.YteikpeaakmbihaaDoor.T
