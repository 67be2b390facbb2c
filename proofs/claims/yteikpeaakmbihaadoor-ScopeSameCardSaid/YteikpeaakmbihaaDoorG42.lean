/- Joined by program: SNamelA. -/
import Derived.Test.YteikpeaakmbihaaDoorG28
import Derived.Test.YteikpeaakmbihaaDoorG41
import Derived.Laws.OwnMore
/- nameless: what it makes, and what stays through its walk. -/
namespace Go.Proofs.YteikpeaakmbihaaDoor.T
open Go.RowKit Go.Shelf
def xnm : ByteArray := ⟨#[120]⟩
def fbl (f : Fld) : Fld := { f with vr := xnm }
/-- A node without the names that it binds, or that are bound. -/
def bl (x : Nd) (p : Int × Int) : Nd :=
  if x.kind = 5 ∨ x.kind = 7 ∨ x.kind = 8 then { x with nm := xnm }
  else if x.kind = 14 then { x with l := x.l.map fbl }
  else if x.kind = 4 ∧ p ≠ (-1, -1) then { x with nm := xnm } else x
def bls (N : List Nd) (B : List (Int × Int)) : List Nd := List.zipWith bl N B
theorem flat_set {α : Type} (f : α → List Value) (k : Nat) (hk : ∀ a, (f a).length = k) : ∀ (l : List α) (i j : Nat) (a a' : α) (u : Value), l[i]? = some a → j < k → f a' = (f a).set j u → (l.flatMap f).set (i * k + j) u = (l.set i a').flatMap f
  | [], i, j, a, a', u, h, _, _ => by simp at h
  | b :: l, 0, j, a, a', u, h, hj, he => by
    obtain rfl : b = a := by simpa using h
    rw [List.set_cons_zero, List.flatMap_cons, List.flatMap_cons, he, Nat.zero_mul, Nat.zero_add, List.set_append_left _ _ (by rw [hk]; exact hj)]
  | b :: l, i + 1, j, a, a', u, h, hj, he => by
    rw [List.set_cons_succ, List.flatMap_cons, List.flatMap_cons, List.set_append_right _ _ (by rw [hk, Nat.add_mul]; omega), hk, ← flat_set f k hk l i j a a' u (by simpa using h) hj he]
    congr 2
    rw [Nat.add_mul]; omega
theorem nset {x x' : Nd} {fv : Value} {j : Nat} {u : Value} (h : (ndArr x' fv).toList = (ndArr x fv).toList.set j u) (hj : j < 9) {ps : List (Nd × Value)} {i : Nat} (hi : ps[i]? = some (x, fv)) : (nCells ps).set (i * 9 + j) u = nCells (ps.set i (x', fv)) :=
  flat_set (fun (x : Nd × Value) => (ndArr x.1 x.2).toList) 9 (fun _ => rfl) ps i j (x, fv) (x', fv) u hi hj h
theorem fset {l : List Fld} {k : Nat} {f : Fld} (hk : l[k]? = some f) : (fCells l).set (k * 3 + 1) (.string xnm) = fCells (l.set k (fbl f)) :=
  flat_set (fun (f : Fld) => [.string f.nm, .string f.vr, .int .i64 f.pl]) 3 (fun _ => rfl) l k 1 f (fbl f) (.string xnm) hk (by omega) rfl
theorem apt_set {ps : List (Nd × Value)} (h : Apt ps) {i : Nat} {x x' : Nd} {fv : Value} (hi : ps[i]? = some (x, fv)) : Apt (ps.set i (x', fv)) := by
  have key : ∀ qs : List (Nd × Value), Apt qs ↔ (qs.map Prod.snd).Pairwise fun a b => a.ownBlock = none ∨ a.ownBlock ≠ b.ownBlock := fun qs => by rw [List.pairwise_map]; rfl
  rw [key] at h ⊢
  have e : (ps.set i (x', fv)).map Prod.snd = ps.map Prod.snd := by
    refine List.ext_getElem? fun m => ?_
    rw [List.getElem?_map, List.getElem?_map]
    by_cases hm : m = i
    · subst hm
      rw [List.getElem?_set_self (List.getElem?_eq_some_iff.1 hi).1, hi]; rfl
    · rw [List.getElem?_set_ne (by omega)]
  rw [e]; exact h
/-- Where nameless stands. -/
structure NSt (w W : World) (gn kn : Nat) (ps : List (Nd × Value)) (gl : Nat) (B : List (Int × Int)) : Prop where
  low : Below w.heap.size w W
  e : W.heap[w.heap.size]? = some (.cells #[.slice (some ⟨gn, 0, none⟩) ps.length kn] 24 (0, 0))
  r : W.heap[w.heap.size + 1]? = some (.cells #[.slice none 0 0] 24 (0, 0))
  o : OwnN (w.heap.size + 2) W (.slice (some ⟨gn, 0, none⟩) ps.length kn) ps
  b : RowB W gl B
  a : Apt ps
section
variable {w W W' : World} {gn kn gl : Nat} {ps : List (Nd × Value)} {B : List (Int × Int)}
theorem NSt.next (h : NSt w W gn kn ps gl B) (hb : Below W.heap.size W W') : NSt w W' gn kn ps gl B :=
  ⟨below_next h.low hb (Nat.le_refl _), blk_next h.e hb, blk_next h.r hb, ownN_grow h.o (grown_of hb), h.b.next hb, h.a⟩
theorem NSt.ce (h : NSt w W gn kn ps gl B) : W.cell? ⟨w.heap.size, 0, none⟩ = some (.slice (some ⟨gn, 0, none⟩) ps.length kn) := (Blk_cell h.e 0).trans rfl
theorem NSt.size (h : NSt w W gn kn ps gl B) : w.heap.size + 2 ≤ W.heap.size := (Array.getElem?_eq_some_iff.1 h.r).1
theorem NSt.gnl (h : NSt w W gn kn ps gl B) : w.heap.size + 2 ≤ gn := (World.ownsRow.lt h.o.1 gn rfl).1
theorem NSt.cell (h : NSt w W gn kn ps gl B) {i : Nat} {p : Nd × Value} (hi : ps[i]? = some p) (j : Nat) (hj : j < 9) : W.cell? ⟨gn, i * 9 + j, none⟩ = (ndArr p.1 p.2).toList[j]? := by
  have h1 := nCells_at ps i p hi j hj
  obtain ⟨u, hu⟩ : ∃ u, (ndArr p.1 p.2).toList[j]? = some u := ⟨_, List.getElem?_eq_getElem (by simpa [ndArr] using hj)⟩
  have := World.ownsRow.cells h.o.1 (g := gn) rfl (i * 9 + j) u (by rw [h1, hu])
  rwa [Addr.add_lit, Nat.zero_add, ← hu] at this
theorem NSt.blk (h : NSt w W gn kn ps gl B) : ∃ cs, W.heap[gn]? = some (.cells cs 27 (0, 0)) := by
  rcases h.o.1.2 with ⟨h, _⟩ | ⟨g', cap, cur, h, _, hh, _⟩
  · exact absurd h (by simp)
  · cases h; exact ⟨cur, hh⟩
theorem NSt.froz (h : NSt w W gn kn ps gl B) (j : Nat) : W.frozen? ⟨gn, j, none⟩ = false := by
  obtain ⟨cs, h⟩ := h.blk
  exact Blk_frozen h j
theorem below_set {n g j : Nat} {u : Value} (h : Below n w W) (hg : n ≤ g) : Below n w (W.setCell ⟨g, j, none⟩ u) := h.setCell (p := ⟨g, j, none⟩) hg u
theorem row_set {Bs e s n g j t : Nat} {v u : Value} {xs : List Value} {cs : Array Value} (h : W.ownsRow Bs e s v n xs) (hg : W.heap[g]? = some (.cells cs t (0, 0))) (hne : t ≠ e) : (W.setCell ⟨g, j, none⟩ u).ownsRow Bs e s v n xs := by
  refine h.kept (grown_set W g j u) ?_
  rcases h.2 with ⟨rfl, _⟩ | ⟨g', cap, cur, rfl, _, hh, _⟩
  · exact .inl rfl
  · right
    intro e'
    have : g' = g := by simpa [Value.ownBlock] using e'
    subst this
    exact blk_ne hg hh hne rfl
theorem rowb_set {g j t : Nat} {u : Value} {cs : Array Value} (h : RowB W gl B) (hg : W.heap[g]? = some (.cells cs t (0, 0))) (hne : t ≠ 59 ∧ t ≠ 60) : RowB (W.setCell ⟨g, j, none⟩ u) gl B := by
  obtain ⟨cs', t', h1, h2, h3⟩ := h
  have hn : gl ≠ g := fun e => by
    subst e
    rw [hg] at h1
    cases h1
    rcases h2 with rfl | rfl
    · exact hne.1 rfl
    · exact hne.2 rfl
  exact ⟨cs', t', (set_far _ _ _ _ _ hn).trans h1, h2, h3⟩
/-- A node's name is put. -/
theorem NSt.name (h : NSt w W gn kn ps gl B) {i : Nat} {x : Nd} {fv : Value} (hi : ps[i]? = some (x, fv)) : NSt w (W.setCell ⟨gn, i * 9 + 5, none⟩ (.string xnm)) gn kn (ps.set i ({ x with nm := xnm }, fv)) gl B := by
  obtain ⟨cs, hb⟩ := h.blk
  have hg := h.gnl
  have hil : i < ps.length := (List.getElem?_eq_some_iff.1 hi).1
  have h1 := (World.ownsRow.stored h.o.1 (i * 9 + 5) (.string xnm)).1
  rw [nset (x := x) (x' := { x with nm := xnm }) (fv := fv) rfl (by omega) hi] at h1
  refine ⟨below_set h.low (by omega), ?_, (set_far _ _ _ _ _ (by omega)).trans h.r, ?_, rowb_set h.b hb (by decide), ?_⟩
  · rw [List.length_set]; exact (set_far _ _ _ _ _ (by omega)).trans h.e
  · rw [List.length_set]
    refine ⟨by rw [List.length_set]; exact h1, fun y hy => ?_⟩
    rcases List.mem_or_eq_of_mem_set hy with hy | rfl
    · exact row_set (h.o.2 y hy) hb (by decide)
    · exact row_set (h.o.2 (x, fv) (List.mem_of_getElem? hi)) hb (by decide)
  · exact apt_set h.a hi
/-- A part's variable is put. -/
theorem NSt.vars (h : NSt w W gn kn ps gl B) {i k gf cf : Nat} {x : Nd} {f : Fld} (hi : ps[i]? = some (x, .slice (some ⟨gf, 0, none⟩) x.l.length cf)) (hk : x.l[k]? = some f) :
    NSt w (W.setCell ⟨gf, k * 3 + 1, none⟩ (.string xnm)) gn kn (ps.set i ({ x with l := x.l.set k (fbl f) }, .slice (some ⟨gf, 0, none⟩) x.l.length cf)) gl B := by
  have hof := h.o.2 _ (List.mem_of_getElem? hi)
  have hgf := (World.ownsRow.lt hof gf rfl).1
  have hil : i < ps.length := (List.getElem?_eq_some_iff.1 hi).1
  obtain ⟨cs, hb⟩ : ∃ cs, W.heap[gf]? = some (.cells cs 75 (0, 0)) := by
    rcases hof.2 with ⟨h, _⟩ | ⟨g', cap, cur, h, _, hh, _⟩
    · exact absurd h (by simp)
    · cases h; exact ⟨cur, hh⟩
  have h1 := (World.ownsRow.stored hof (k * 3 + 1) (.string xnm)).1
  rw [fset hk] at h1
  have hn : nCells (ps.set i ({ x with l := x.l.set k (fbl f) }, .slice (some ⟨gf, 0, none⟩) x.l.length cf)) = nCells ps := by
    rw [← nset (x := x) (x' := { x with l := x.l.set k (fbl f) }) (fv := .slice (some ⟨gf, 0, none⟩) x.l.length cf) (j := 0) (u := .int .i64 x.kind) rfl (by omega) hi]
    refine List.ext_getElem? fun m => ?_
    by_cases hm : m = i * 9 + 0
    · subst hm
      have := nCells_at ps i _ hi 0 (by omega)
      have hlt : i * 9 + 0 < (nCells ps).length := by
        rw [(h.o.1).1]; omega
      rw [List.getElem?_set_self hlt, this]; rfl
    · rw [List.getElem?_set_ne (by omega)]
  refine ⟨below_set h.low (by omega), ?_, (set_far _ _ _ _ _ (by omega)).trans h.r, ?_, rowb_set h.b hb (by decide), apt_set h.a hi⟩
  · rw [List.length_set]; exact (set_far _ _ _ _ _ (by omega)).trans h.e
  · rw [List.length_set]
    refine ⟨by rw [List.length_set, hn]; exact row_set h.o.1 hb (by decide), fun y hy => ?_⟩
    obtain ⟨m, hm⟩ := List.getElem?_of_mem hy
    by_cases he : m = i
    · subst he
      rw [List.getElem?_set_self hil] at hm
      obtain rfl := Option.some.inj hm
      show World.ownsRow _ _ 75 3 _ (x.l.set k (fbl f)).length _
      rw [List.length_set]; exact h1
    · rw [List.getElem?_set_ne (by omega)] at hm
      have hy' := h.o.2 y (List.mem_of_getElem? hm)
      refine World.ownsRow.kept hy' (grown_set W gf _ _) ?_
      have hap := h.a
      rw [Apt, List.pairwise_iff_getElem] at hap
      obtain ⟨hml, hme⟩ := List.getElem?_eq_some_iff.1 hm
      obtain ⟨_, hie⟩ := List.getElem?_eq_some_iff.1 hi
      rcases Nat.lt_or_gt_of_ne he with hlt | hlt
      · have := hap m i hml hil hlt
        rw [hme, hie] at this
        simpa [Value.ownBlock] using this
      · have := hap i m hil hml hlt
        rw [hme, hie] at this
        right
        rcases this with h | h
        · simp [Value.ownBlock] at h
        · exact fun e => h e.symm
end
end Go.Proofs.YteikpeaakmbihaaDoor.T
