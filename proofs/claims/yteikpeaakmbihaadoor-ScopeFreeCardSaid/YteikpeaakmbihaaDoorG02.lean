/- Joined by program: TOpen. -/
import Derived.Test.YteikpeaakmbihaaDoorG01
import Derived.Test.YteikpeaakmbihaaDoorRows
import Derived.Deep.Slices
import Derived.Deep.Fields
import Derived.ChangeSame
import Derived.Lib.SmallJoins
import Derived.ProofKit
import Derived.OpenShut
import Derived.SizedLaws
/- What came in, opened: nodes and their parts as they lie in memory. -/
namespace Go.Proofs.YteikpeaakmbihaaDoor.T
open Go.RowKit Go.ChangeShapes Go.WideShapes Go.Deep Go.Joins
theorem c53 : Tryd.prog.cellsOf 75 = 3 := by kernel_rfl
theorem c27 : Tryd.prog.cellsOf 27 = 9 := by kernel_rfl
theorem c24 : Tryd.prog.cellsOf 24 = 1 := by kernel_rfl
theorem c3 : Tryd.prog.cellsOf 3 = 1 := by kernel_rfl
theorem c2 : Tryd.prog.cellsOf 2 = 1 := by kernel_rfl
theorem c9 : Tryd.prog.cellsOf 9 = 1 := by kernel_rfl
theorem c25 : Tryd.prog.cellsOf 25 = 1 := by kernel_rfl
theorem c22 : Tryd.prog.cellsOf 22 = 1 := by kernel_rfl
/-- One after the other: what each place has makes a list. -/
theorem choose_list {α : Type} {P : Nat → α → Prop} : ∀ n : Nat, (∀ i, i < n → ∃ x, P i x) → ∃ l : List α, l.length = n ∧ ∀ i x, l[i]? = some x → P i x
  | 0, _ => ⟨[], rfl, fun i x h => by simp at h⟩
  | n + 1, h => by
    obtain ⟨l, hl, hp⟩ := choose_list n (fun i hi => h i (by omega))
    obtain ⟨x, hx⟩ := h n (by omega)
    refine ⟨l ++ [x], by simp [hl], fun i y hy => ?_⟩
    rcases Nat.lt_trichotomy i n with hi | hi | hi
    · rw [List.getElem?_append_left (by omega)] at hy; exact hp i y hy
    · subst hi
      rw [List.getElem?_append_right (by omega), hl, Nat.sub_self] at hy
      simp at hy; subst hy; exact hx
    · rw [List.getElem?_append_right (by omega)] at hy
      rw [List.getElem?_eq_none (by simp; omega)] at hy; cases hy
/-- Texts that a process's memory can hold. -/
def FitF (f : Fld) : Prop := f.nm.size ≤ reachBytes ∧ f.vr.size ≤ reachBytes
def Fit (x : Nd) : Prop := x.nm.size ≤ reachBytes ∧ x.s.size ≤ reachBytes ∧ x.l.length ≤ 3518437208780 ∧ ∀ f ∈ x.l, FitF f
/-- All that is weighed of a reading is within a process's memory. -/
def Light {H : Type} (t : TypeId) (d : DataW H) : Prop := ∀ n ∈ d.weights Tryd.prog t, n ≤ reachBytes
theorem light_all {H : Type} {e : TypeId} : ∀ {ds : List (DataW H)} {d : DataW H}, d ∈ ds → ∀ n ∈ d.weights Tryd.prog e, n ∈ DataW.weightsAll Tryd.prog e ds
  | d0 :: ds, d, hd, n, hn => by
    simp only [DataW.weightsAll, List.mem_append]
    rcases List.mem_cons.1 hd with rfl | hd
    · exact .inl hn
    · exact .inr (light_all hd n hn)
section
variable {H : Type} {enc : TypeId × Value → H} {w : World} {base : Nat} {spare : Nat → Bool} {held : Bool}
theorem one_field {n t j N : Nat} {cs : List Value} {ys : List (DataW H × List MemPlace)} (hc : Tryd.prog.cellsOf t = 1) (hcs : cs.length = N) (hys : ys.length = N) (hj : j < N)
    (h : DataW.trod enc Tryd.prog w base spare held n t ((cs.drop j).take (Tryd.prog.cellsOf t)) = ys[j]?) : ∃ c y, cs[j]? = some c ∧ ys[j]? = some y ∧ DataW.trod enc Tryd.prog w base spare held n t [c] = some y := by
  have hv : cs[j]? = some (cs[j]'(by omega)) := List.getElem?_eq_getElem (by omega)
  have hy : ys[j]? = some (ys[j]'(by omega)) := List.getElem?_eq_getElem (by omega)
  have hone : (cs.drop j).take 1 = [cs[j]'(by omega)] := by rw [List.drop_eq_getElem_cons (by omega)]; rfl
  rw [hc, hone] at h
  exact ⟨_, _, hv, hy, h.trans hy⟩
theorem block_of {a : Addr} {v : Value} (h : w.cell? a = some v) : a.block < w.heap.size := by
  unfold World.cell? at h
  split at h
  · rename_i hh
    exact (Array.getElem?_eq_some_iff.1 hh).1
  · cases h
set_option maxRecDepth 100000 in
theorem open_fld {n : Nat} {cs : List Value} {x : DataW H × List MemPlace} (h : DataW.trod enc Tryd.prog w base spare held n 75 cs = some x) : ∃ f : Fld, cs = [.string f.nm, .string f.vr, .int .i64 f.pl] ∧ (Light 75 x.1 → FitF f) := by
  obtain ⟨ys, n', _, hx, hlen, hyl, hf⟩ := DataW.trod_struct Tryd.underlying75 h
  rw [c53] at hlen
  obtain ⟨v0, y0, e0, z0, t0⟩ := one_field (t := 9) (j := 0) (N := 3) c9 hlen hyl (by omega) (hf 0 _ rfl)
  obtain ⟨v1, y1, e1, z1, t1⟩ := one_field (t := 9) (j := 1) (N := 3) c9 hlen hyl (by omega) (hf 1 _ rfl)
  obtain ⟨v2, y2, e2, _, t2⟩ := one_field (t := 3) (j := 2) (N := 3) c3 hlen hyl (by omega) (hf 2 _ rfl)
  obtain ⟨s0, h0, k0, _⟩ := DataW.trod_string Tryd.underlying9 t0
  obtain ⟨s1, h1, k1, _⟩ := DataW.trod_string Tryd.underlying9 t1
  obtain ⟨i2, h2, _⟩ := DataW.trod_int Tryd.underlying3 t2
  simp only [List.cons.injEq, and_true] at h0 h1 h2
  subst h0 h1 h2
  match cs, hlen with
  | [a, b, c], _ =>
    simp at e0 e1 e2
    refine ⟨⟨s0, s1, i2⟩, by rw [e0, e1, e2], fun hw => ?_⟩
    rw [hx] at hw
    have hw' : ∀ n ∈ DataW.weightsEach Tryd.prog [9, 9, 3] (ys.map (·.1)), n ≤ reachBytes := fun n hn => hw n (by rw [DataW.weights, Tryd.underlying75]; exact hn)
    have g0 := hw' s0.data.toList.length (DataW.weights_mem_each (j := 0) (t := 9) rfl (by rw [List.getElem?_map, z0, k0]; rfl) _ (by simp [DataW.weights]))
    have g1 := hw' s1.data.toList.length (DataW.weights_mem_each (j := 1) (t := 9) rfl (by rw [List.getElem?_map, z1, k1]; rfl) _ (by simp [DataW.weights]))
    exact ⟨g0, g1⟩
theorem open_flds {fuel : Nat} {v : Value} {x : DataW H × List MemPlace} (h : DataW.trod enc Tryd.prog w base spare held fuel 25 [v] = some x) : ∃ l, Flds w.heap.size w v l ∧ (Light 25 x.1 → l.length ≤ 3518437208780 ∧ ∀ f ∈ l, FitF f) := by
  rcases open_slice Tryd.underlying25 h with ⟨hcs, _⟩ | ⟨a, len, cap, m, n, D, Pl, hcs, _, hl, hcm, hmm, hx, hi⟩
  · simp at hcs; exact ⟨[], ⟨none, 0, hcs, ⟨by simp, by omega⟩, fun _ => rfl, fun h => by simp at h⟩, fun _ => ⟨by simp, fun f hf => by simp at hf⟩⟩
  · simp at hcs
    have hlm : len ≤ m := by rw [hmm]; split <;> omega
    obtain ⟨l, hll, hp⟩ := choose_list (P := fun i (f : Fld) => w.cell? (a.add (i * 3)) = some (.string f.nm) ∧ w.cell? (a.add (i * 3 + 1)) = some (.string f.vr) ∧ w.cell? (a.add (i * 3 + 2)) = some (.int .i64 f.pl) ∧ (Light 75 (D i) → FitF f)) len (fun i hlt => by
      obtain ⟨cs', hc, ht⟩ := hi i (by omega)
      rw [c53] at hc
      obtain ⟨f, rfl, hfit⟩ := open_fld ht
      obtain ⟨_, _, hat⟩ := World.cells?_some hc
      refine ⟨f, ?_, ?_, ?_, hfit⟩
      · have := hat 0 (by omega); rw [add_add] at this; exact this
      · have := hat 1 (by omega); rw [add_add] at this; exact this
      · have := hat 2 (by omega); rw [add_add] at this; exact this)
    refine ⟨l, ⟨some a, cap, by rw [hcs, hll], ⟨by omega, by unfold maxLen at hcm; exact hcm⟩, (fun h => by cases h), fun h0 => ?_⟩, fun hw => ?_⟩
    rotate_left
    · rw [hx] at hw
      have hw' : ∀ n, n = (len + (m - len)) * Tryd.prog.bytesOf 75 ∨ n ∈ DataW.weightsAll Tryd.prog 75 ((List.range len).map D) → n ≤ reachBytes := fun n hn => hw n (by
        simp only [DataW.weights, Tryd.underlying25, List.length_map, List.length_range, List.mem_cons, List.mem_append]
        rcases hn with h | h
        · exact .inl h
        · exact .inr (.inl h))
      refine ⟨?_, fun f hf => ?_⟩
      · have h40 : Tryd.prog.bytesOf 75 = 40 := by kernel_rfl
        have := hw' _ (.inl rfl)
        rw [h40] at this
        have e : reachBytes = 140737488351232 := rfl
        omega
      · obtain ⟨i, hi⟩ := List.getElem?_of_mem hf
        have hil : i < len := by rw [← hll]; exact (List.getElem?_eq_some_iff.1 hi).1
        exact (hp i f hi).2.2.2 fun n hn => hw' n (.inr (light_all (List.mem_map.2 ⟨i, List.mem_range.2 hil, rfl⟩) n hn))
    obtain ⟨b, o, spot⟩ := a
    obtain ⟨h00, _⟩ := hp 0 (l[0]'h0) (List.getElem?_eq_getElem h0)
    have hs : spot = none := by simpa [Addr.add] using World.cell?_spot h00
    subst hs
    refine ⟨b, o, rfl, by have := block_of h00; rw [add_plain] at this; exact this, fun j f hj => ?_⟩
    have := hp j f hj
    rw [add_plain, add_plain, add_plain] at this
    exact ⟨this.1, this.2.1, this.2.2.1⟩
set_option maxRecDepth 100000 in
theorem open_nd {n : Nat} {cs : List Value} {x : DataW H × List MemPlace} (h : DataW.trod enc Tryd.prog w base spare held n 27 cs = some x) : ∃ (y : Nd) (vl : Value), cs = (ndArr y vl).toList ∧ Flds w.heap.size w vl y.l ∧ (Light 27 x.1 → Fit y) := by
  obtain ⟨ys, n', _, hx, hlen, hyl, hf⟩ := DataW.trod_struct Tryd.underlying27 h
  rw [c27] at hlen
  obtain ⟨v0, y0, e0, _, t0⟩ := one_field (t := 3) (j := 0) (N := 9) c3 hlen hyl (by omega) (hf 0 _ rfl)
  obtain ⟨v1, y1, e1, _, t1⟩ := one_field (t := 3) (j := 1) (N := 9) c3 hlen hyl (by omega) (hf 1 _ rfl)
  obtain ⟨v2, y2, e2, _, t2⟩ := one_field (t := 3) (j := 2) (N := 9) c3 hlen hyl (by omega) (hf 2 _ rfl)
  obtain ⟨v3, y3, e3, _, t3⟩ := one_field (t := 3) (j := 3) (N := 9) c3 hlen hyl (by omega) (hf 3 _ rfl)
  obtain ⟨v4, y4, e4, _, t4⟩ := one_field (t := 2) (j := 4) (N := 9) c2 hlen hyl (by omega) (hf 4 _ rfl)
  obtain ⟨v5, y5, e5, z5, t5⟩ := one_field (t := 9) (j := 5) (N := 9) c9 hlen hyl (by omega) (hf 5 _ rfl)
  obtain ⟨v6, y6, e6, z6, t6⟩ := one_field (t := 9) (j := 6) (N := 9) c9 hlen hyl (by omega) (hf 6 _ rfl)
  obtain ⟨v7, y7, e7, z7, t7⟩ := one_field (t := 25) (j := 7) (N := 9) c25 hlen hyl (by omega) (hf 7 _ rfl)
  obtain ⟨v8, y8, e8, _, t8⟩ := one_field (t := 3) (j := 8) (N := 9) c3 hlen hyl (by omega) (hf 8 _ rfl)
  obtain ⟨i0, h0, _⟩ := DataW.trod_int Tryd.underlying3 t0
  obtain ⟨i1, h1, _⟩ := DataW.trod_int Tryd.underlying3 t1
  obtain ⟨i2, h2, _⟩ := DataW.trod_int Tryd.underlying3 t2
  obtain ⟨i3, h3, _⟩ := DataW.trod_int Tryd.underlying3 t3
  obtain ⟨i4, h4, _⟩ := DataW.trod_int Tryd.underlying2 t4
  obtain ⟨s5, h5, k5, _⟩ := DataW.trod_string Tryd.underlying9 t5
  obtain ⟨s6, h6, k6, _⟩ := DataW.trod_string Tryd.underlying9 t6
  obtain ⟨l, hl, hlf⟩ := open_flds t7
  obtain ⟨i8, h8, _⟩ := DataW.trod_int Tryd.underlying3 t8
  simp only [List.cons.injEq, and_true] at h0 h1 h2 h3 h4 h5 h6 h8
  subst h0 h1 h2 h3 h4 h5 h6 h8
  match cs, hlen with
  | [a0, a1, a2, a3, a4, a5, a6, a7, a8], _ =>
    simp at e0 e1 e2 e3 e4 e5 e6 e7 e8
    refine ⟨⟨i0, i1, i2, i3, i4, s5, s6, l, i8⟩, v7, by rw [e0, e1, e2, e3, e4, e5, e6, e7, e8]; rfl, hl, fun hw => ?_⟩
    rw [hx] at hw
    have hw' : ∀ n ∈ DataW.weightsEach Tryd.prog [3, 3, 3, 3, 2, 9, 9, 25, 3] (ys.map (·.1)), n ≤ reachBytes := fun n hn => hw n (by rw [DataW.weights, Tryd.underlying27]; exact hn)
    have g5 := hw' s5.data.toList.length (DataW.weights_mem_each (j := 5) (t := 9) rfl (by rw [List.getElem?_map, z5, k5]; rfl) _ (by simp [DataW.weights]))
    have g6 := hw' s6.data.toList.length (DataW.weights_mem_each (j := 6) (t := 9) rfl (by rw [List.getElem?_map, z6, k6]; rfl) _ (by simp [DataW.weights]))
    have g7 := hlf fun n hn => hw' n (DataW.weights_mem_each (j := 7) (t := 25) rfl (by rw [List.getElem?_map, z7]; rfl) _ hn)
    exact ⟨g5, g6, g7.1, g7.2⟩
theorem open_nodes {fuel : Nat} {v : Value} {x : DataW H × List MemPlace} (h : DataW.trod enc Tryd.prog w base spare held fuel 22 [v] = some x) : ∃ l, Nodes w.heap.size w v l ∧ (Light 22 x.1 → ∀ y ∈ l, Fit y) := by
  rcases open_slice Tryd.underlying22 h with ⟨hcs, _⟩ | ⟨a, len, cap, m, n, D, Pl, hcs, _, hl, hcm, hmm, hx, hi⟩
  · simp at hcs; exact ⟨[], ⟨none, 0, hcs, ⟨by simp, by omega⟩, fun _ => rfl, fun h => by simp at h⟩, fun _ y hy => by simp at hy⟩
  · simp at hcs
    have hlm : len ≤ m := by rw [hmm]; split <;> omega
    obtain ⟨l, hll, hp⟩ := choose_list (P := fun i (y : Nd) => (∃ vl, Flds w.heap.size w vl y.l ∧ ∀ j, j < 9 → w.cell? (a.add (i * 9 + j)) = (ndArr y vl).toList[j]?) ∧ (Light 27 (D i) → Fit y)) len (fun i hlt => by
      obtain ⟨cs', hc, ht⟩ := hi i (by omega)
      rw [c27] at hc
      obtain ⟨y, vl, rfl, hfl, hfit⟩ := open_nd ht
      obtain ⟨_, _, hat⟩ := World.cells?_some hc
      refine ⟨y, ⟨vl, hfl, fun j hj => ?_⟩, hfit⟩
      have := hat j hj; rw [add_add] at this; exact this)
    refine ⟨l, ⟨some a, cap, by rw [hcs, hll], ⟨by omega, by unfold maxLen at hcm; exact hcm⟩, (fun h => by cases h), fun h0 => ?_⟩, fun hw y hy => ?_⟩
    rotate_left
    · rw [hx] at hw
      obtain ⟨i, hi⟩ := List.getElem?_of_mem hy
      have hil : i < len := by rw [← hll]; exact (List.getElem?_eq_some_iff.1 hi).1
      exact (hp i y hi).2 fun n hn => hw n (by
        simp only [DataW.weights, Tryd.underlying22, List.mem_cons, List.mem_append]
        exact .inr (.inl (light_all (List.mem_map.2 ⟨i, List.mem_range.2 hil, rfl⟩) n hn)))
    obtain ⟨b, o, spot⟩ := a
    obtain ⟨⟨vl0, _, h00⟩, _⟩ := hp 0 (l[0]'h0) (List.getElem?_eq_getElem h0)
    have h00' := h00 0 (by omega)
    have hs : spot = none := by simpa [Addr.add] using World.cell?_spot (h00'.trans rfl)
    subst hs
    refine ⟨b, o, rfl, by have := block_of (h00'.trans rfl); rw [add_plain] at this; exact this, fun j y hj => ?_⟩
    obtain ⟨⟨vl, hfl, hc⟩, _⟩ := hp j y hj
    have e : ∀ k, k < 9 → w.cell? ⟨b, o + j * 9 + k, none⟩ = (ndArr y vl).toList[k]? := fun k hk => by
      have := hc k hk; rw [add_plain] at this; rw [show o + j * 9 + k = o + (j * 9 + k) by omega]; exact this
    exact ⟨vl, hfl, e 0 (by omega), e 1 (by omega), e 2 (by omega), e 3 (by omega), e 4 (by omega), e 5 (by omega), e 6 (by omega), e 7 (by omega), e 8 (by omega)⟩
set_option maxRecDepth 100000 in
/-- An Expr's one cell. -/
theorem open_expr {fuel : Nat} {cs : List Value} {x : DataW H × List MemPlace} (h : DataW.trod enc Tryd.prog w base spare held fuel 24 cs = some x) : ∃ v l, cs = [v] ∧ Nodes w.heap.size w v l ∧ (Light 24 x.1 → ∀ y ∈ l, Fit y) := by
  obtain ⟨ys, n', _, hx, hlen, hyl, hf⟩ := DataW.trod_struct Tryd.underlying24 h
  rw [c24] at hlen
  obtain ⟨v0, y0, e0, z0, t0⟩ := one_field (t := 22) (j := 0) (N := 1) c22 hlen hyl (by omega) (hf 0 _ rfl)
  obtain ⟨l, hl, hlf⟩ := open_nodes t0
  match cs, hlen with
  | [a], _ =>
    simp at e0
    refine ⟨v0, l, by rw [e0], hl, fun hw => hlf fun n hn => hw n ?_⟩
    rw [hx, DataW.weights, Tryd.underlying24]
    exact DataW.weights_mem_each (ts := [22]) (j := 0) (t := 22) rfl (by rw [List.getElem?_map, z0]; rfl) n hn
end
end Go.Proofs.YteikpeaakmbihaaDoor.T
