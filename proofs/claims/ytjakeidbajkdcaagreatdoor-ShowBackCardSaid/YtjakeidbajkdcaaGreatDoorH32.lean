/- Joined by program. -/
import Derived.Test.YtjakeidbajkdcaaGreatDoorH31
import Derived.Test.YtjakeidbajkdcaaGreatDoorH18
namespace Go.Proofs.YtjakeidbajkdcaaGreatDoor.T
def slim (t : List Nd) : Prop := ∀ x ∈ t, x.l.length <= 30
theorem relab_le : ∀ (l : List Fld) (ks : List Int), (relab l ks).length <= l.length := fun l ks => by rw [relab, List.length_zipWith]; omega
theorem wk_slim (x : Nd) (ks : List Int) : (wk x ks).l.length <= x.l.length := by
  unfold wk
  simp only
  split
  · exact relab_le _ _
  · exact Nat.zero_le _
theorem jn_slim : ∀ ll : List (List Nd), (∀ e ∈ ll, slim e) -> slim (jn ll).1 := by
  intro ll
  induction ll using snocInd with
  | h0 => intro _ x hx; simp [jn] at hx
  | h1 ll e ih =>
    intro h x hx
    rw [jn_snoc, jstep, List.mem_append] at hx
    rcases hx with hx | hx
    · exact ih (fun y hy => h y (by simp [hy])) x hx
    · obtain ⟨y, hy, rfl⟩ := List.mem_map.1 hx
      exact Nat.le_trans (wk_slim _ _) (h e (by simp) y hy)
theorem slimN {x : Nd} {ll : List (List Nd)} (h : ∀ e ∈ ll, slim e) (hx : x.l.length <= 30) : slim (joinN x ll) := fun y hy => by
  rw [joinN, List.mem_append, List.mem_singleton] at hy
  rcases hy with hy | rfl
  · exact jn_slim ll h y hy
  · exact Nat.le_trans (wk_slim _ _) hx
theorem slim0 {x : Nd} (hx : x.l.length <= 30) : slim (joinN x []) := slimN (by simp) hx
theorem slim1 {x : Nd} {a : List Nd} (hx : x.l.length <= 30) (ha : slim a) : slim (joinN x [a]) := slimN (by simpa using ha) hx
theorem slim2 {x : Nd} {a b : List Nd} (hx : x.l.length <= 30) (ha : slim a) (hb : slim b) : slim (joinN x [a, b]) := slimN (by simp [ha, hb]) hx
theorem slim3 {x : Nd} {a b c : List Nd} (hx : x.l.length <= 30) (ha : slim a) (hb : slim b) (hc : slim c) : slim (joinN x [a, b, c]) := slimN (by simp [ha, hb, hc]) hx
theorem jlN (x : Nd) (ll : List (List Nd)) : (joinN x ll).length = (ll.map List.length).sum + 1 := by rw [joinN, List.length_append, (jn_len ll).1]; rfl
theorem jl0 (x : Nd) : (joinN x []).length = 1 := jlN x []
theorem jl1 (x : Nd) (a : List Nd) : (joinN x [a]).length = a.length + 1 := by rw [jlN]; simp
theorem jl2 (x : Nd) (a b : List Nd) : (joinN x [a, b]).length = a.length + b.length + 1 := by rw [jlN]; simp
theorem jl3 (x : Nd) (a b c : List Nd) : (joinN x [a, b, c]).length = a.length + b.length + c.length + 1 := by rw [jlN]; simp; omega
def fitS : Pr -> Prop
  | .sumL a => slim a
  | .prodL a => slim a
  | .appL a => slim a
  | .postL a => slim a
  | .recL _ _ ts => ∀ e ∈ ts, slim e
  | .casL _ _ ts => ∀ e ∈ ts, slim e
  | _ => True
def base : Pr -> Nat
  | .sumL a => a.length
  | .prodL a => a.length
  | .appL a => a.length
  | .postL a => a.length
  | .recL _ _ ts => (ts.map List.length).sum
  | .casL _ _ ts => (ts.map List.length).sum
  | _ => 0
theorem label_slim {E k : Int} {fs : List Fld} {l r : List Tk} {f : ByteArray -> List Tk -> Rs} {t : List Nd} (h : labelT E k fs l f = .ok t r) : ∃ x m, m.length + 1 = l.length /\ fs.length < 30 /\ f x m = .ok t r := by
  obtain ⟨x, m, hm, h⟩ := text_ok h
  split at h
  · cases h
  · split at h
    · cases h
    · exact ⟨x, m, hm, by omega, h⟩
theorem G_size (E : Int) : ∀ (f : Nat) (X : Pr) (d : Nat) (l : List Tk) (t : List Nd) (r : List Tk), fitS X -> G E f X d l = .ok t r -> slim t /\ t.length + eats X + 2 * r.length <= base X + 2 * l.length := by
  intro f
  induction f with
  | zero => intro X d l t r _ h; cases h
  | succ f ih =>
    intro X d l t r hX h
    cases X with
    | expr =>
      rw [G] at h
      split at h
      · cases h
      split at h
      · rename_i _ hw
        have h0 := isT_len hw
        obtain ⟨x, l1, h1, h⟩ := text_ok h
        obtain ⟨h2, h⟩ := must_ok h
        obtain ⟨a, l3, ha, h⟩ := go_ok h
        obtain ⟨oa, h3⟩ := ih .expr _ _ _ _ trivial ha
        cases h
        simp only [eats, base, jl1, Nat.zero_add] at h3 ⊢
        exact ⟨slim1 (Nat.zero_le _) oa, by omega⟩
      split at h
      · rename_i _ _ hw
        have h0 := isT_len hw
        split at h
        · rename_i hr
          have h0' := isT_len hr
          obtain ⟨x, l1, h1, h⟩ := text_ok h
          obtain ⟨h2, h⟩ := must_ok h
          obtain ⟨a, l3, ha, h⟩ := go_ok h
          obtain ⟨oa, h3⟩ := ih .expr _ _ _ _ trivial ha
          split at h
          · obtain ⟨h4, h⟩ := must_ok h
            obtain ⟨b, l5, hb, h⟩ := go_ok h
            obtain ⟨ob, h5⟩ := ih .expr _ _ _ _ trivial hb
            cases h
            simp only [eats, base, jl2, Nat.zero_add] at h3 h5 ⊢
            exact ⟨slim2 (Nat.zero_le _) oa ob, by omega⟩
          · cases h
        · obtain ⟨x, l1, h1, h⟩ := text_ok h
          obtain ⟨h2, h⟩ := must_ok h
          obtain ⟨a, l3, ha, h⟩ := go_ok h
          obtain ⟨oa, h3⟩ := ih .expr _ _ _ _ trivial ha
          obtain ⟨h4, h⟩ := must_ok h
          obtain ⟨b, l5, hb, h⟩ := go_ok h
          obtain ⟨ob, h5⟩ := ih .expr _ _ _ _ trivial hb
          cases h
          simp only [eats, base, jl2, Nat.zero_add] at h3 h5 ⊢
          exact ⟨slim2 (Nat.zero_le _) oa ob, by omega⟩
      split at h
      · rename_i _ _ _ hw
        have h0 := isT_len hw
        obtain ⟨a, l1, ha, h⟩ := go_ok h
        obtain ⟨oa, h1⟩ := ih .expr _ _ _ _ trivial ha
        obtain ⟨h2, h⟩ := must_ok h
        obtain ⟨b, l3, hb, h⟩ := go_ok h
        obtain ⟨ob, h3⟩ := ih .expr _ _ _ _ trivial hb
        obtain ⟨h4, h⟩ := must_ok h
        obtain ⟨c, l5, hc, h⟩ := go_ok h
        obtain ⟨oc, h5⟩ := ih .expr _ _ _ _ trivial hc
        cases h
        simp only [eats, base, jl3, Nat.zero_add] at h1 h3 h5 ⊢
        exact ⟨slim3 (Nat.zero_le _) oa ob oc, by omega⟩
      · exact ih .cmp _ _ _ _ trivial h
    | cmp =>
      rw [G] at h
      obtain ⟨a, l1, ha, h⟩ := go_ok h
      obtain ⟨oa, h1⟩ := ih .sum _ _ _ _ trivial ha
      simp only [eats, base, Nat.zero_add] at h1 ⊢
      split at h
      · cases h; exact ⟨oa, h1⟩
      · rename_i n hn
        have h0 := op_len hn
        obtain ⟨b, l2, hb, h⟩ := go_ok h
        obtain ⟨ob, h2⟩ := ih .sum _ _ _ _ trivial hb
        cases h
        simp only [eats, base, jl2, Nat.zero_add] at h2 ⊢
        exact ⟨slim2 (Nat.zero_le _) oa ob, by omega⟩
    | sum =>
      rw [G] at h
      obtain ⟨a, l1, ha, h⟩ := go_ok h
      obtain ⟨oa, h1⟩ := ih .prod _ _ _ _ trivial ha
      obtain ⟨ot, h2⟩ := ih (.sumL a) _ _ _ _ oa h
      simp only [eats, base, Nat.add_zero, Nat.zero_add] at h1 h2 ⊢
      exact ⟨ot, by omega⟩
    | sumL a =>
      rw [G] at h
      have oa : slim a := hX
      split at h
      · cases h; exact ⟨oa, Nat.le_refl _⟩
      · rename_i n hn
        have h0 := op_len hn
        obtain ⟨b, l2, hb, h⟩ := go_ok h
        obtain ⟨ob, h2⟩ := ih .prod _ _ _ _ trivial hb
        obtain ⟨ot, h3⟩ := ih (.sumL _) _ _ _ _ (slim2 (x := { mk 10 (plc E l) with n := n }) (Nat.zero_le _) oa ob) h
        simp only [eats, base, jl2, Nat.add_zero, Nat.zero_add] at h2 h3 ⊢
        exact ⟨ot, by omega⟩
    | prod =>
      rw [G] at h
      obtain ⟨a, l1, ha, h⟩ := go_ok h
      obtain ⟨oa, h1⟩ := ih .app _ _ _ _ trivial ha
      obtain ⟨ot, h2⟩ := ih (.prodL a) _ _ _ _ oa h
      simp only [eats, base, Nat.add_zero, Nat.zero_add] at h1 h2 ⊢
      exact ⟨ot, by omega⟩
    | prodL a =>
      rw [G] at h
      have oa : slim a := hX
      split at h
      · cases h; exact ⟨oa, Nat.le_refl _⟩
      · rename_i n hn
        have h0 := op_len hn
        obtain ⟨b, l2, hb, h⟩ := go_ok h
        obtain ⟨ob, h2⟩ := ih .app _ _ _ _ trivial hb
        obtain ⟨ot, h3⟩ := ih (.prodL _) _ _ _ _ (slim2 (x := { mk 10 (plc E l) with n := n }) (Nat.zero_le _) oa ob) h
        simp only [eats, base, jl2, Nat.add_zero, Nat.zero_add] at h2 h3 ⊢
        exact ⟨ot, by omega⟩
    | app =>
      rw [G] at h
      split at h
      · obtain ⟨x, l1, h1, h⟩ := text_ok h
        obtain ⟨a, l2, ha, h⟩ := go_ok h
        obtain ⟨oa, h2⟩ := ih .post _ _ _ _ trivial ha
        cases h
        simp only [eats, base, jl1, Nat.zero_add] at h2 ⊢
        exact ⟨slim1 (Nat.zero_le _) oa, by omega⟩
      · obtain ⟨a, l1, ha, h⟩ := go_ok h
        obtain ⟨oa, h1⟩ := ih .post _ _ _ _ trivial ha
        obtain ⟨ot, h2⟩ := ih (.appL a) _ _ _ _ oa h
        simp only [eats, base, Nat.add_zero, Nat.zero_add] at h1 h2 ⊢
        exact ⟨ot, by omega⟩
    | appL a =>
      rw [G] at h
      have oa : slim a := hX
      split at h
      · obtain ⟨b, l1, hb, h⟩ := go_ok h
        obtain ⟨ob, h1⟩ := ih .post _ _ _ _ trivial hb
        obtain ⟨ot, h2⟩ := ih (.appL _) _ _ _ _ (slim2 (x := mk 6 (lastP a)) (Nat.zero_le _) oa ob) h
        simp only [eats, base, jl2, Nat.add_zero, Nat.zero_add] at h1 h2 ⊢
        exact ⟨ot, by omega⟩
      · cases h; exact ⟨oa, Nat.le_refl _⟩
    | post =>
      rw [G] at h
      obtain ⟨a, l1, ha, h⟩ := go_ok h
      obtain ⟨oa, h1⟩ := ih .atom _ _ _ _ trivial ha
      obtain ⟨ot, h2⟩ := ih (.postL a) _ _ _ _ oa h
      simp only [eats, base, Nat.add_zero, Nat.zero_add] at h1 h2 ⊢
      exact ⟨ot, by omega⟩
    | postL a =>
      rw [G] at h
      have oa : slim a := hX
      split at h
      · rename_i hw
        have h0 := isT_len hw
        obtain ⟨x, l1, h1, h⟩ := text_ok h
        obtain ⟨ot, h2⟩ := ih (.postL _) _ _ _ _ (slim1 (x := { mk 12 (plc E l) with nm := x }) (Nat.zero_le _) oa) h
        simp only [eats, base, jl1, Nat.add_zero] at h2 ⊢
        exact ⟨ot, by omega⟩
      · cases h; exact ⟨oa, Nat.le_refl _⟩
    | atom =>
      cases l with
      | nil => rw [G] at h; cases h
      | cons y m =>
        rw [G] at h
        simp only [eats, base, List.length_cons, Nat.zero_add]
        split at h
        · cases h; exact ⟨slim0 (Nat.zero_le _), by rw [jl0]; omega⟩
        split at h
        · cases h; exact ⟨slim0 (Nat.zero_le _), by rw [jl0]; omega⟩
        split at h
        · cases h; exact ⟨slim0 (Nat.zero_le _), by rw [jl0]; omega⟩
        split at h
        · cases h; exact ⟨slim0 (Nat.zero_le _), by rw [jl0]; omega⟩
        split at h
        · cases h; exact ⟨slim0 (Nat.zero_le _), by rw [jl0]; omega⟩
        split at h
        · obtain ⟨a, l1, ha, h⟩ := go_ok h
          obtain ⟨oa, h1⟩ := ih .expr _ _ _ _ trivial ha
          obtain ⟨h2, h⟩ := must_ok h
          cases h
          simp only [eats, base, Nat.zero_add] at h1
          exact ⟨oa, by omega⟩
        split at h
        · split at h
          · rename_i hr
            have h0 := isT_len hr
            cases h
            exact ⟨slim0 (Nat.zero_le _), by rw [jl0]; omega⟩
          · obtain ⟨ot, h1⟩ := ih (.recL _ _ _) _ _ _ _ (by intro e he; cases he) h
            simp only [eats, base, List.map_nil, List.sum_nil, Nat.zero_add] at h1
            exact ⟨ot, by omega⟩
        split at h
        · obtain ⟨a, l1, ha, h⟩ := go_ok h
          obtain ⟨oa, h1⟩ := ih .expr _ _ _ _ trivial ha
          obtain ⟨h2, h⟩ := must_ok h
          obtain ⟨ot, h3⟩ := ih (.casL _ _ _) _ _ _ _ (by intro e he; rw [List.mem_singleton] at he; exact he ▸ oa) h
          simp only [eats, base, List.map_cons, List.map_nil, List.sum_cons, List.sum_nil, Nat.add_zero, Nat.zero_add] at h1 h3
          exact ⟨ot, by omega⟩
        · cases h
    | recL p fs ts =>
      rw [G] at h
      have ho : ∀ e ∈ ts, slim e := hX
      obtain ⟨x, l1, h1, hf, h⟩ := label_slim h
      obtain ⟨h2, h⟩ := must_ok h
      obtain ⟨a, l3, ha, h⟩ := go_ok h
      obtain ⟨oa, h3⟩ := ih .expr _ _ _ _ trivial ha
      have ho' : ∀ e ∈ ts ++ [a], slim e := fun e he => by
        rw [List.mem_append, List.mem_singleton] at he
        rcases he with he | rfl
        · exact ho e he
        · exact oa
      split at h
      · rename_i hw
        have h0 := isT_len hw
        obtain ⟨ot, h4⟩ := ih (.recL _ _ _) _ _ _ _ ho' h
        simp only [eats, base, List.map_append, List.sum_append, List.map_cons, List.map_nil, List.sum_cons, List.sum_nil, Nat.add_zero, Nat.zero_add] at h3 h4 ⊢
        exact ⟨ot, by omega⟩
      · obtain ⟨h4, h⟩ := must_ok h
        cases h
        simp only [eats, base, Nat.zero_add] at h3 ⊢
        exact ⟨slimN ho' (by simp only [List.length_append, List.length_singleton]; omega), by simp only [jlN, List.map_append, List.sum_append, List.map_cons, List.map_nil, List.sum_cons, List.sum_nil]; omega⟩
    | casL p fs ts =>
      rw [G] at h
      have ho : ∀ e ∈ ts, slim e := hX
      obtain ⟨x, l1, h1, hf, h⟩ := label_slim h
      obtain ⟨v, l2, h1', h⟩ := text_ok h
      obtain ⟨h2, h⟩ := must_ok h
      obtain ⟨a, l3, ha, h⟩ := go_ok h
      obtain ⟨oa, h3⟩ := ih .expr _ _ _ _ trivial ha
      have ho' : ∀ e ∈ ts ++ [a], slim e := fun e he => by
        rw [List.mem_append, List.mem_singleton] at he
        rcases he with he | rfl
        · exact ho e he
        · exact oa
      split at h
      · rename_i hw
        have h0 := isT_len hw
        obtain ⟨ot, h4⟩ := ih (.casL _ _ _) _ _ _ _ ho' h
        simp only [eats, base, List.map_append, List.sum_append, List.map_cons, List.map_nil, List.sum_cons, List.sum_nil, Nat.add_zero, Nat.zero_add] at h3 h4 ⊢
        exact ⟨ot, by omega⟩
      · obtain ⟨h4, h⟩ := must_ok h
        cases h
        simp only [eats, base, Nat.zero_add] at h3 ⊢
        exact ⟨slimN ho' (by simp only [List.length_append, List.length_singleton]; omega), by simp only [jlN, List.map_append, List.sum_append, List.map_cons, List.map_nil, List.sum_cons, List.sum_nil]; omega⟩
def ex (E : Int) (l : List Tk) : Rs := G E (need .expr l.length) .expr 0 l
def whole (E : Int) (l : List Tk) : Rs := match ex E l with | .bad e p => .bad e p | .ok t [] => .ok t [] | .ok _ (y :: _) => .bad 5 y.p
def far (t : List Nd) : Bool := t.any fun x => decide (1048576 < x.pos)
noncomputable def told (r : Rs) : List Nd × Int × Int := match r with
  | .bad e p => ([], p, e)
  | .ok t _ => if far t = true then ([], 0, 7) else if may t = 0 then (t, 0, 0) else ([], 0, may t)
theorem ex_ok {E : Int} {l : List Tk} {t : List Nd} {r : List Tk} (h : ex E l = .ok t r) : inOrd t /\ slim t /\ t.length <= 2 * l.length /\ r <:+ l /\ r.length < l.length := by
  obtain ⟨h1, h2⟩ := G_ok E _ .expr _ _ _ _ trivial h
  obtain ⟨h3, h4⟩ := G_size E _ .expr _ _ _ _ trivial h
  obtain ⟨h5, _⟩ := G_suf E _ .expr _ _ _ _ h
  simp only [eats, base] at h2 h4
  exact ⟨h1, h3, by omega, h5, by omega⟩
theorem ex_ok0 {E : Int} {l : List Tk} {t : List Nd} {r : List Tk} (h : ex E l = .ok t r) : inOrd t /\ slim t /\ t.length <= 2 * l.length := by
  obtain ⟨h1, h2⟩ := G_ok E _ .expr _ _ _ _ trivial h
  obtain ⟨h3, h4⟩ := G_size E _ .expr _ _ _ _ trivial h
  simp only [eats, base] at h2 h4
  exact ⟨h1, h3, by omega⟩
theorem whole_ok {E : Int} {l r : List Tk} {t : List Nd} (h : whole E l = .ok t r) : ex E l = .ok t [] := by
  unfold whole at h
  split at h
  · cases h
  · rename_i h1; cases h; exact h1
  · cases h
def lay (N e : List Nd) : List Nd := N ++ e.map (sh N.length)
theorem lay_len (N e : List Nd) : (lay N e).length = N.length + e.length := by simp [lay]
theorem jn_from (N : List Nd) : ∀ ll : List (List Nd), ll.foldl jstep (N, []) = (N ++ (jn ll).1.map (sh N.length), (jn ll).2.map (· + (N.length : Int))) := by
  intro ll
  induction ll using snocInd with
  | h0 => simp [jn]
  | h1 ll e ih =>
    rw [List.foldl_append, ih, jn_snoc]
    simp only [List.foldl_cons, List.foldl_nil, jstep, List.map_append, List.map_cons, List.map_nil, List.length_append, List.length_map, List.map_map, List.append_assoc]
    refine Prod.ext ?_ ?_
    · simp only
      congr 2
      apply List.map_congr_left
      intro m _
      simp only [Function.comp]
      rw [sh_sh, Nat.add_comm]
    · simp only
      congr 2
      omega
theorem lay_join (N : List Nd) (x : Nd) (ll : List (List Nd)) (hl : ll.length = (kids x).length) : lay N (joinN x ll) = (ll.foldl jstep (N, [])).1 ++ [wk x (ll.foldl jstep (N, [])).2] := by
  have hJ : (jn ll).2.length = (kids x).length := (jn_len ll).2.trans hl
  rw [jn_from, lay, joinN, List.map_append, List.map_cons, List.map_nil, <- List.append_assoc]
  congr 2
  unfold sh
  rw [kids_wk hJ, wk_two hJ]
theorem lay0 (N : List Nd) (x : Nd) (hl : (kids x).length = 0) : lay N (joinN x []) = N ++ [wk x []] := lay_join N x [] hl.symm
theorem lay1 (N a : List Nd) (x : Nd) (hl : (kids x).length = 1) : lay N (joinN x [a]) = lay N a ++ [wk x [((lay N a).length : Int) - 1]] := by
  rw [lay_join N x [a] hl.symm, lay_len]; rfl
theorem lay2 (N a b : List Nd) (x : Nd) (hl : (kids x).length = 2) : lay N (joinN x [a, b]) = lay (lay N a) b ++ [wk x [((lay N a).length : Int) - 1, ((lay (lay N a) b).length : Int) - 1]] := by
  rw [lay_join N x [a, b] hl.symm, lay_len, lay_len, lay_len]
  simp only [List.foldl_cons, List.foldl_nil, jstep, List.nil_append, List.length_append, List.length_map, lay, List.cons_append]
theorem lay3 (N a b c : List Nd) (x : Nd) (hl : (kids x).length = 3) : lay N (joinN x [a, b, c]) = lay (lay (lay N a) b) c ++ [wk x [((lay N a).length : Int) - 1, ((lay (lay N a) b).length : Int) - 1, ((lay (lay (lay N a) b) c).length : Int) - 1]] := by
  rw [lay_join N x [a, b, c] hl.symm, lay_len, lay_len, lay_len, lay_len, lay_len, lay_len]
  simp only [List.foldl_cons, List.foldl_nil, jstep, List.nil_append, List.length_append, List.length_map, lay, List.cons_append]
def lays (N : List Nd) (ll : List (List Nd)) : List Nd × List Int := ll.foldl jstep (N, [])
theorem lays_snoc (N : List Nd) (ll : List (List Nd)) (e : List Nd) : lays N (ll ++ [e]) = (lay (lays N ll).1 e, (lays N ll).2 ++ [((lay (lays N ll).1 e).length : Int) - 1]) := by
  unfold lays
  rw [List.foldl_append, lay_len]
  rfl
theorem lays_len (N : List Nd) (ll : List (List Nd)) : (lays N ll).2.length = ll.length := by
  unfold lays
  rw [jn_from]
  simp only [List.length_map]
  exact (jn_len ll).2
theorem layN (N : List Nd) (x : Nd) (ll : List (List Nd)) (hl : ll.length = (kids x).length) : lay N (joinN x ll) = (lays N ll).1 ++ [wk x (lays N ll).2] := lay_join N x ll hl
theorem sh_zero {x : Nd} (h : wk x (kids x) = x) : sh 0 x = x := by
  unfold sh
  have : (kids x).map (· + ((0 : Nat) : Int)) = kids x := by
    conv => rhs; rw [<- List.map_id (kids x)]
    apply List.map_congr_left
    intro k _
    simp
  rw [this, h]
def neat (x : Nd) : Prop := wk x (kids x) = x
theorem wk_neat {x : Nd} {ks : List Int} (h : ks.length = (kids x).length) : neat (wk x ks) := by unfold neat; rw [kids_wk h, wk_two h]
theorem cp_neat {l : List Nd} (hk : kidsOk l) : ∀ i, i < l.length -> ∀ out : List Nd, (∀ x ∈ out, neat x) -> ∀ x ∈ cp l i out, neat x := by
  intro i
  induction i using Nat.strongRecOn with
  | ind i ih =>
    intro hi out ho
    have hx : l[i]? = some (l[i]'hi) := List.getElem?_eq_getElem hi
    obtain ⟨x, hx'⟩ : ∃ x, l[i]'hi = x := ⟨_, rfl⟩
    rw [hx'] at hx
    have ha : ahead i x := fun k hk' => hk i x hx k hk'
    have key : ∀ ks : List Int, (∀ k ∈ ks, 0 <= k /\ k < (i : Int)) -> ∀ y ∈ (cps l (out, []) ks).1, neat y := by
      intro ks
      induction ks using snocInd with
      | h0 => intro _; exact ho
      | h1 ks k ih2 =>
        intro hks
        have hkk := hks k (by simp)
        rw [cps_snoc]
        exact ih k.toNat (toNat_lt hkk) (by omega) _ (ih2 fun k' hk' => hks k' (by simp [hk']))
    have hlen : (cps l (out, []) (kids x)).2.length = (kids x).length := by rw [cps_len2]; simp
    rw [cp_eq hx ha out]
    intro y hy
    rcases List.mem_append.1 hy with hy | hy
    · exact key _ (fun k hk' => ha k hk') y hy
    · obtain rfl := List.mem_singleton.1 hy
      exact wk_neat hlen
theorem ord_neat {e : List Nd} (h : inOrd e) : ∀ x ∈ e, neat x := by
  obtain ⟨h1, h2, h3⟩ := h
  have hl : 0 < e.length := List.length_pos_iff.2 h1
  have := cp_neat h2 (e.length - 1) (by omega) [] (by simp)
  rwa [h3] at this
theorem lay_nil {e : List Nd} (h : inOrd e) : lay [] e = e := by
  have h1 := ord_neat h
  rw [lay, List.nil_append]
  conv => rhs; rw [<- List.map_id e]
  exact List.map_congr_left fun x hx => sh_zero (h1 x hx)
theorem lastK_eq {a : List Nd} {y : Nd} {m : List Nd} (h : a = m ++ [y]) : lastK a = y.kind /\ lastP a = y.pos := by subst h; simp [lastK, lastP]
theorem lay_last (N : List Nd) {a : List Nd} (h : a ≠ []) : ∃ y, (lay N a)[(lay N a).length - 1]? = some y /\ y.kind = lastK a /\ y.pos = lastP a := by
  induction a using snocInd with
  | h0 => exact absurd rfl h
  | h1 m y _ =>
    obtain ⟨h1, h2⟩ := lastK_eq (a := m ++ [y]) rfl
    refine ⟨sh N.length y, ?_, h1.symm, h2.symm⟩
    rw [lay_len, lay, List.map_append, <- List.append_assoc]
    have e : N.length + (m ++ [y]).length - 1 = (N ++ m.map (sh N.length)).length := by simp
    rw [e]
    simp
end Go.Proofs.YtjakeidbajkdcaaGreatDoor.T
namespace Go.Proofs.YtjakeidbajkdcaaGreatDoor.A
open T
structure PS where
  l : List Tk
  E : Int
  dead : Bool
  err : Int
  place : Int
  N : List Nd
  d : Nat
def PS.pk (s : PS) : Tk := match s.l with | [] => ⟨0, ⟨#[]⟩, 0, s.E⟩ | t :: _ => t
def PS.nx (s : PS) : PS := { s with l := s.l.tail }
def PS.no (s : PS) (p e : Int) : PS := { s with l := [], E := 0, dead := true, err := if s.err = 0 then e else s.err, place := if s.err = 0 then p else s.place }
def PS.is (s : PS) (k : Int) (x : List UInt8) : Bool := isT k x s.l
def PS.tk (s : PS) (k : Int) (x : List UInt8) : PS := if s.is k x = true then s.nx else s
def PS.must (s : PS) (k : Int) (x : List UInt8) : PS := if s.is k x = true then s.nx else s.no s.pk.p 5
def PS.txt (s : PS) (k : Int) : ByteArray × PS := if s.pk.k = k then (s.pk.s, s.nx) else (⟨#[]⟩, s.no s.pk.p 5)
def PS.lab (s : PS) (k : Int) (fs : List Fld) : ByteArray × PS :=
  if fs.length = 30 then ((s.txt k).1, (s.txt k).2.no s.pk.p 8) else if (fs.any fun y => y.nm.toList == (s.txt k).1.toList) = true then ((s.txt k).1, (s.txt k).2.no s.pk.p 5) else s.txt k
abbrev Ans := Option (Nat × PS)
def PS.add (s : PS) (n : Nd) : Ans := if s.N.length < 1000000 then some (s.N.length, { s with N := s.N ++ [n] }) else none
def prim (x : ByteArray) : Int :=
  if x.toList = [60] then 5 else if x.toList = [61, 61] then 6 else if x.toList = [43] then 1 else if x.toList = [45] then 2 else if x.toList = [94] then 7 else if x.toList = [42] then 3 else if x.toList = [47] then 4 else 0
def anyOf (ops : List (List UInt8)) (s : PS) : Bool := ops.any fun o => s.is 7 o
def opP (b : PS -> Ans) (a : Nat) (s : PS) : Ans := (b s.nx).bind fun r => r.2.add { mk 10 s.pk.p with n := prim s.pk.s, a := a, b := r.1 }
def loopP (ops : List (List UInt8)) (b : PS -> Ans) : Nat -> Nat -> PS -> Ans
  | 0, _, _ => none
  | n + 1, a, s => if anyOf ops s = true then (opP b a s).bind fun r => loopP ops b n r.1 r.2 else some (a, s)
def postL : Nat -> Nat -> PS -> Ans
  | 0, _, _ => none
  | n + 1, a, s => if s.is 7 s_dot = true then ((s.nx.txt 2).2.add { mk 12 s.pk.p with nm := (s.nx.txt 2).1, a := a }).bind fun r => postL n r.1 r.2 else some (a, s)
def appL (post : PS -> Ans) : Nat -> Nat -> PS -> Ans
  | 0, _, _ => none
  | n + 1, a, s => if begins s.l = true then match s.N[a]? with
    | none => none
    | some x => (post s).bind fun r => (r.2.add { mk 6 x.pos with a := a, b := r.1 }).bind fun q => appL post n q.1 q.2
    else some (a, s)
def leafN (s : PS) : Nd × PS :=
  if s.is 1 w_true = true then ({ mk 2 s.pk.p with n := 1 }, s.nx) else if s.is 1 w_false = true then (mk 2 s.pk.p, s.nx)
  else if s.pk.k = 4 then ({ mk 1 s.pk.p with n := s.pk.n }, s.nx) else if s.pk.k = 5 then ({ mk 3 s.pk.p with s := s.pk.s }, s.nx)
  else if s.pk.k = 2 then ({ mk 4 s.pk.p with nm := s.pk.s }, s.nx) else (mk 0 s.pk.p, s.no s.pk.p 5)
def recL (X : PS -> Ans) (p : Int) : Nat -> List Fld -> PS -> Ans
  | 0, _, _ => none
  | n + 1, fs, s => if fs.length < 1000 then (X ((s.lab 2 fs).2.must 7 s_eqs)).bind fun r =>
      if r.2.is 7 s_comma = true then recL X p n (fs ++ [⟨(s.lab 2 fs).1, ⟨#[]⟩, r.1⟩]) r.2.nx
      else (r.2.must 7 s_rbra).add { mk 11 p with l := fs ++ [⟨(s.lab 2 fs).1, ⟨#[]⟩, r.1⟩] }
    else none
def recP (X : PS -> Ans) (p : Int) (s : PS) : Ans := if s.is 7 s_rbra = true then s.nx.add (mk 11 p) else recL X p (s.l.length + 2) [] s
def casL (X : PS -> Ans) (p : Int) (a : Nat) : Nat -> List Fld -> PS -> Ans
  | 0, _, _ => none
  | n + 1, fs, s => if fs.length < 1000 then (X (((s.lab 3 fs).2.txt 2).2.must 7 s_arrow)).bind fun r =>
      if r.2.is 7 s_bar = true then casL X p a n (fs ++ [⟨(s.lab 3 fs).1, ((s.lab 3 fs).2.txt 2).1, r.1⟩]) r.2.nx
      else (r.2.must 1 w_end).add { mk 14 p with a := a, l := fs ++ [⟨(s.lab 3 fs).1, ((s.lab 3 fs).2.txt 2).1, r.1⟩] }
    else none
def casP (X : PS -> Ans) (p : Int) (s : PS) : Ans := (X s).bind fun r => casL X p r.1 ((r.2.must 1 w_of).l.length + 2) [] (r.2.must 1 w_of)
def atomP (X : PS -> Ans) (s : PS) : Ans :=
  if s.is 7 s_lpar = true then (X s.nx).bind fun r => some (r.1, r.2.must 7 s_rpar)
  else if s.is 7 s_lbra = true then recP X s.pk.p s.nx
  else if s.is 1 w_case = true then casP X s.pk.p s.nx
  else (leafN s).2.add (leafN s).1
def postP (X : PS -> Ans) (s : PS) : Ans := (atomP X s).bind fun r => postL (r.2.l.length + 1) r.1 r.2
def appP (X : PS -> Ans) (s : PS) : Ans :=
  if s.pk.k = 3 then (postP X (s.txt 3).2).bind fun r => r.2.add { mk 13 s.pk.p with nm := (s.txt 3).1, a := r.1 }
  else (postP X s).bind fun r => appL (postP X) (r.2.l.length + 1) r.1 r.2
def o_prod : List (List UInt8) := [[42], [47]]
def o_sum : List (List UInt8) := [[43], [45], [94]]
def o_cmp : List (List UInt8) := [[60], [61, 61]]
def prodP (X : PS -> Ans) (s : PS) : Ans := (appP X s).bind fun r => loopP o_prod (appP X) (r.2.l.length + 1) r.1 r.2
def sumP (X : PS -> Ans) (s : PS) : Ans := (prodP X s).bind fun r => loopP o_sum (prodP X) (r.2.l.length + 1) r.1 r.2
def cmpP (X : PS -> Ans) (s : PS) : Ans := (sumP X s).bind fun r => if anyOf o_cmp r.2 = true then opP (sumP X) r.1 r.2 else some r
def funP (X : PS -> Ans) (p : Int) (s : PS) : Ans := (X ((s.txt 2).2.must 7 s_arrow)).bind fun r => r.2.add { mk 5 p with nm := (s.txt 2).1, a := r.1 }
def bindK (X : PS -> Ans) (p k : Int) (s : PS) : Ans :=
  (X ((s.txt 2).2.must 7 s_eqs)).bind fun r =>
    if k = 8 then match r.2.N[r.1]? with
      | none => none
      | some x => (X ((if x.kind = 5 then r.2 else r.2.no ((s.txt 2).2.must 7 s_eqs).pk.p 5).must 1 w_in)).bind fun q => q.2.add { mk k p with nm := (s.txt 2).1, a := r.1, b := q.1 }
    else (X (r.2.must 1 w_in)).bind fun q => q.2.add { mk k p with nm := (s.txt 2).1, a := r.1, b := q.1 }
def bindP (X : PS -> Ans) (p : Int) (s : PS) : Ans := if s.is 1 w_rec = true then bindK X p 8 s.nx else bindK X p 7 s
def ifP (X : PS -> Ans) (p : Int) (s : PS) : Ans :=
  (X s).bind fun r => (X (r.2.must 1 w_then)).bind fun q => (X (q.2.must 1 w_else)).bind fun u => u.2.add { mk 9 p with a := r.1, b := q.1, c := u.1 }
def innerP (X : PS -> Ans) (p : Int) (s : PS) : Ans :=
  if s.is 1 w_fun = true then funP X p s.nx else if s.is 1 w_let = true then bindP X p s.nx else if s.is 1 w_if = true then ifP X p s.nx else cmpP X s
def PS.deep (s : PS) : PS := { (if s.d = 100 then s.no s.pk.p 6 else s) with d := s.d + 1 }
def PS.up (s : PS) : PS := { s with d := s.d - 1 }
def exprP : Nat -> PS -> Ans
  | 0, _ => none
  | f + 1, s => if s.d < 1000 then (innerP (exprP f) s.pk.p s.deep).bind fun r => some (r.1, r.2.up) else none
open T
theorem bnd {α β : Type} {o : Option α} {f : α -> Option β} {r : β} (h : o.bind f = some r) : ∃ a, o = some a /\ f a = some r := Option.bind_eq_some_iff.1 h
def Kd (X : PS -> Ans) : Prop := ∀ s r, X s = some r -> r.2.d = s.d
theorem nx_d (s : PS) : s.nx.d = s.d := rfl
theorem must_d (s : PS) (k : Int) (x : List UInt8) : (s.must k x).d = s.d := by unfold PS.must; split <;> rfl
theorem txt_d (s : PS) (k : Int) : (s.txt k).2.d = s.d := by unfold PS.txt; split <;> rfl
theorem lab_d (s : PS) (k : Int) (fs : List Fld) : (s.lab k fs).2.d = s.d := by
  unfold PS.lab
  split
  · exact txt_d s k
  · split
    · exact txt_d s k
    · exact txt_d s k
theorem add_d {s : PS} {n : Nd} {r : Nat × PS} (h : s.add n = some r) : r.2.d = s.d := by
  unfold PS.add at h
  split at h
  · cases h; rfl
  · cases h
theorem leaf_d (s : PS) : (leafN s).2.d = s.d := by
  unfold leafN
  repeat' split
  all_goals rfl
theorem op_d {X : PS -> Ans} (hX : Kd X) {a : Nat} {s : PS} {r : Nat × PS} (h : opP X a s = some r) : r.2.d = s.d := by
  obtain ⟨q, h1, h2⟩ := bnd h
  exact (add_d h2).trans ((hX _ _ h1).trans (nx_d s))
theorem loop_d {X : PS -> Ans} (hX : Kd X) (ops : List (List UInt8)) : ∀ n a s r, loopP ops X n a s = some r -> r.2.d = s.d := by
  intro n
  induction n with
  | zero => intro a s r h; cases h
  | succ n ih =>
    intro a s r h
    rw [loopP] at h
    split at h
    · obtain ⟨q, h1, h2⟩ := bnd h
      exact (ih _ _ _ h2).trans (op_d hX h1)
    · cases h; rfl
theorem postL_d : ∀ n a s r, postL n a s = some r -> r.2.d = s.d := by
  intro n
  induction n with
  | zero => intro a s r h; cases h
  | succ n ih =>
    intro a s r h
    rw [postL] at h
    split at h
    · obtain ⟨q, h1, h2⟩ := bnd h
      exact (ih _ _ _ h2).trans ((add_d h1).trans ((txt_d _ _).trans (nx_d s)))
    · cases h; rfl
theorem appL_d {X : PS -> Ans} (hX : Kd X) : ∀ n a s r, appL X n a s = some r -> r.2.d = s.d := by
  intro n
  induction n with
  | zero => intro a s r h; cases h
  | succ n ih =>
    intro a s r h
    rw [appL] at h
    split at h
    · split at h
      · cases h
      · obtain ⟨q, h1, h2⟩ := bnd h
        obtain ⟨u, h3, h4⟩ := bnd h2
        exact (ih _ _ _ h4).trans ((add_d h3).trans (hX _ _ h1))
    · cases h; rfl
theorem recL_d {X : PS -> Ans} (hX : Kd X) (p : Int) : ∀ n fs s r, recL X p n fs s = some r -> r.2.d = s.d := by
  intro n
  induction n with
  | zero => intro fs s r h; cases h
  | succ n ih =>
    intro fs s r h
    rw [recL] at h
    split at h
    · obtain ⟨q, h1, h2⟩ := bnd h
      have e1 : q.2.d = s.d := (hX _ _ h1).trans ((must_d _ _ _).trans (lab_d _ _ _))
      simp only at h2
      split at h2
      · exact (ih _ _ _ h2).trans ((nx_d _).trans e1)
      · exact (add_d h2).trans ((must_d _ _ _).trans e1)
    · cases h
theorem casL_d {X : PS -> Ans} (hX : Kd X) (p : Int) (a : Nat) : ∀ n fs s r, casL X p a n fs s = some r -> r.2.d = s.d := by
  intro n
  induction n with
  | zero => intro fs s r h; cases h
  | succ n ih =>
    intro fs s r h
    rw [casL] at h
    split at h
    · obtain ⟨q, h1, h2⟩ := bnd h
      have e1 : q.2.d = s.d := (hX _ _ h1).trans ((must_d _ _ _).trans ((txt_d _ _).trans (lab_d _ _ _)))
      simp only at h2
      split at h2
      · exact (ih _ _ _ h2).trans ((nx_d _).trans e1)
      · exact (add_d h2).trans ((must_d _ _ _).trans e1)
    · cases h
theorem atom_d {X : PS -> Ans} (hX : Kd X) : Kd (atomP X) := by
  intro s r h
  unfold atomP at h
  split at h
  · obtain ⟨q, h1, h2⟩ := bnd h
    cases h2
    exact (must_d _ _ _).trans ((hX _ _ h1).trans (nx_d s))
  split at h
  · unfold recP at h
    split at h
    · exact (add_d h).trans rfl
    · exact (recL_d hX _ _ _ _ _ h).trans rfl
  split at h
  · obtain ⟨q, h1, h2⟩ := bnd h
    exact (casL_d hX _ _ _ _ _ _ h2).trans ((must_d _ _ _).trans ((hX _ _ h1).trans (nx_d s)))
  · exact (add_d h).trans (leaf_d s)
theorem post_d {X : PS -> Ans} (hX : Kd X) : Kd (postP X) := by
  intro s r h
  obtain ⟨q, h1, h2⟩ := bnd h
  exact (postL_d _ _ _ _ h2).trans (atom_d hX _ _ h1)
theorem app_d {X : PS -> Ans} (hX : Kd X) : Kd (appP X) := by
  intro s r h
  unfold appP at h
  split at h
  · obtain ⟨q, h1, h2⟩ := bnd h
    exact (add_d h2).trans ((post_d hX _ _ h1).trans (txt_d _ _))
  · obtain ⟨q, h1, h2⟩ := bnd h
    exact (appL_d (post_d hX) _ _ _ _ h2).trans (post_d hX _ _ h1)
theorem prod_d {X : PS -> Ans} (hX : Kd X) : Kd (prodP X) := by
  intro s r h
  obtain ⟨q, h1, h2⟩ := bnd h
  exact (loop_d (app_d hX) _ _ _ _ _ h2).trans (app_d hX _ _ h1)
theorem sum_d {X : PS -> Ans} (hX : Kd X) : Kd (sumP X) := by
  intro s r h
  obtain ⟨q, h1, h2⟩ := bnd h
  exact (loop_d (prod_d hX) _ _ _ _ _ h2).trans (prod_d hX _ _ h1)
theorem cmp_d {X : PS -> Ans} (hX : Kd X) : Kd (cmpP X) := by
  intro s r h
  obtain ⟨q, h1, h2⟩ := bnd h
  split at h2
  · exact (op_d (sum_d hX) h2).trans (sum_d hX _ _ h1)
  · cases h2; exact sum_d hX _ _ h1
theorem fun_d {X : PS -> Ans} (hX : Kd X) (p : Int) : Kd (funP X p) := by
  intro s r h
  obtain ⟨q, h1, h2⟩ := bnd h
  exact (add_d h2).trans ((hX _ _ h1).trans ((must_d _ _ _).trans (txt_d _ _)))
theorem bindK_d {X : PS -> Ans} (hX : Kd X) (p k : Int) : Kd (bindK X p k) := by
  intro s r h
  obtain ⟨q, h1, h2⟩ := bnd h
  have e1 : q.2.d = s.d := (hX _ _ h1).trans ((must_d _ _ _).trans (txt_d _ _))
  simp only at h2
  split at h2
  · split at h2
    · cases h2
    · obtain ⟨u, h3, h4⟩ := bnd h2
      refine (add_d h4).trans ((hX _ _ h3).trans ((must_d _ _ _).trans ?_))
      split
      · exact e1
      · exact e1
  · obtain ⟨u, h3, h4⟩ := bnd h2
    exact (add_d h4).trans ((hX _ _ h3).trans ((must_d _ _ _).trans e1))
theorem bind_d {X : PS -> Ans} (hX : Kd X) (p : Int) : Kd (bindP X p) := by
  intro s r h
  unfold bindP at h
  split at h
  · exact (bindK_d hX _ _ _ _ h).trans (nx_d s)
  · exact bindK_d hX _ _ _ _ h
theorem if_d {X : PS -> Ans} (hX : Kd X) (p : Int) : Kd (ifP X p) := by
  intro s r h
  obtain ⟨q, h1, h2⟩ := bnd h
  obtain ⟨u, h3, h4⟩ := bnd h2
  obtain ⟨t, h5, h6⟩ := bnd h4
  exact (add_d h6).trans ((hX _ _ h5).trans ((must_d _ _ _).trans ((hX _ _ h3).trans ((must_d _ _ _).trans (hX _ _ h1)))))
theorem inner_d {X : PS -> Ans} (hX : Kd X) (p : Int) : Kd (innerP X p) := by
  intro s r h
  unfold innerP at h
  split at h
  · exact (fun_d hX _ _ _ h).trans (nx_d s)
  split at h
  · exact (bind_d hX _ _ _ h).trans (nx_d s)
  split at h
  · exact (if_d hX _ _ _ h).trans (nx_d s)
  · exact cmp_d hX _ _ h
theorem deep_d (s : PS) : s.deep.d = s.d + 1 := rfl
theorem expr_d : ∀ f, Kd (exprP f) := by
  intro f
  induction f with
  | zero => intro s r h; cases h
  | succ f ih =>
    intro s r h
    rw [exprP] at h
    split at h
    · obtain ⟨q, h1, h2⟩ := bnd h
      cases h2
      have := inner_d ih _ _ _ h1
      rw [deep_d] at this
      show q.2.d - 1 = s.d
      omega
    · cases h
open T Go.RowKit
structure Fr (S : Nat -> Prop) (w w' : World) : Prop where
  os : w'.os = w.os
  tape : w'.tape = w.tape
  output : w'.output = w.output
  size : w.heap.size <= w'.heap.size
  block : ∀ k, k < w.heap.size -> ¬ S k -> w'.heap[k]? = w.heap[k]?
theorem Fr.refl (S : Nat -> Prop) (w : World) : Fr S w w := ⟨rfl, rfl, rfl, Nat.le_refl _, fun _ _ _ => rfl⟩
theorem Fr.trans {S : Nat -> Prop} {a b c : World} (h : Fr S a b) (k : Fr S b c) : Fr S a c :=
  ⟨k.os.trans h.os, k.tape.trans h.tape, k.output.trans h.output, Nat.le_trans h.size k.size, fun i hi hs => (k.block i (Nat.lt_of_lt_of_le hi h.size) hs).trans (h.block i hi hs)⟩
theorem Fr.of_below {S : Nat -> Prop} {w w' : World} (h : Below w.heap.size w w') : Fr S w w' := ⟨h.os, h.tape, h.output, h.size, fun k hk _ => h.block k hk⟩
theorem Fr.alloc {S : Nat -> Prop} (w : World) (o : Obj) : Fr S w (w.alloc o) := Fr.of_below ((Below.refl _ w).alloc (Nat.le_refl _) o)
theorem Fr.mono {S T : Nat -> Prop} {w w' : World} (h : Fr S w w') (hs : ∀ k, S k -> T k) : Fr T w w' := ⟨h.os, h.tape, h.output, h.size, fun k hk ht => h.block k hk fun hh => ht (hs k hh)⟩
theorem Fr.set {S : Nat -> Prop} {w0 w : World} (h : Fr S w0 w) {b j : Nat} (v : Value) (hb : S b ∨ w0.heap.size <= b) : Fr S w0 (w.setCell ⟨b, j, none⟩ v) :=
  ⟨h.os, h.tape, h.output, by simpa using h.size, fun k hk hs => (set_far w b j k v (by rintro rfl; rcases hb with hb | hb; exact hs hb; omega)).trans (h.block k hk hs)⟩
theorem Fr.below {B : Nat} {S : Nat -> Prop} {w w' : World} (h : Fr S w w') (hs : ∀ k, S k -> B <= k) (hB : B <= w.heap.size) : Below B w w' :=
  ⟨h.os, h.tape, h.output, h.size, fun k hk => h.block k (by omega) fun hh => by have := hs k hh; omega⟩
def nbk (w : World) (rb : Nat) : Option Nat := match w.cell? ⟨rb, 1, none⟩ with | some v => v.ownBlock | none => none
structure Kpt (rb b : Nat) (w w' : World) : Prop where
  fr : Fr (fun k => k = rb ∨ k = b ∨ nbk w rb = some k) w w'
  nb : nbk w' rb = nbk w rb ∨ ∃ g, nbk w' rb = some g /\ w.heap.size <= g
theorem nbk_heap {w w' : World} {rb : Nat} (h : w'.heap[rb]? = w.heap[rb]?) : nbk w' rb = nbk w rb := by
  unfold nbk; rw [World.cell?_of_block (a := ⟨rb, 1, none⟩) h]
theorem Kpt.refl (rb b : Nat) (w : World) : Kpt rb b w w := ⟨Fr.refl _ _, .inl rfl⟩
theorem Kpt.trans {rb b : Nat} {u v w : World} (h : Kpt rb b u v) (k : Kpt rb b v w) : Kpt rb b u w := by
  refine ⟨⟨k.fr.os.trans h.fr.os, k.fr.tape.trans h.fr.tape, k.fr.output.trans h.fr.output, Nat.le_trans h.fr.size k.fr.size, fun i hi hs => ?_⟩, ?_⟩
  · have h1 := h.fr.block i hi hs
    refine (k.fr.block i (Nat.lt_of_lt_of_le hi h.fr.size) fun hh => hs ?_).trans h1
    rcases hh with hh | hh | hh
    · exact .inl hh
    · exact .inr (.inl hh)
    · rcases h.nb with e | ⟨g, e, hg⟩
      · exact .inr (.inr (e ▸ hh))
      · rw [hh] at e; cases e; omega
  · rcases k.nb with e | ⟨g, e, hg⟩
    · rcases h.nb with e2 | ⟨g, e2, hg⟩
      · exact .inl (e.trans e2)
      · exact .inr ⟨g, e.trans e2, hg⟩
    · exact .inr ⟨g, e, Nat.le_trans h.fr.size hg⟩
theorem Kpt.of_below {rb b : Nat} {w w' : World} (hr : rb < w.heap.size) (h : Below w.heap.size w w') : Kpt rb b w w' := ⟨Fr.of_below h, .inl (nbk_heap (h.block rb hr))⟩
theorem Kpt.alloc {rb b : Nat} {u w : World} (h : Kpt rb b u w) (hr : rb < w.heap.size) (o : Obj) : Kpt rb b u (w.alloc o) := h.trans (Kpt.of_below hr ((Below.refl _ w).alloc (Nat.le_refl _) o))
theorem Kpt.drew {rb b : Nat} {u w : World} (h : Kpt rb b u w) : Kpt rb b u w.drew := h.trans ⟨⟨rfl, rfl, rfl, Nat.le_refl _, fun _ _ _ => rfl⟩, .inl rfl⟩
theorem Kpt.set {rb b : Nat} {u w : World} (h : Kpt rb b u w) {k j : Nat} (v : Value) (hk : u.heap.size <= k) (hr : rb < u.heap.size) : Kpt rb b u (w.setCell ⟨k, j, none⟩ v) :=
  ⟨h.fr.set v (.inr hk), by rw [nbk_heap (set_far w k j rb v (by omega))]; exact h.nb⟩
def Loc (rb b : Nat) (w : World) (k : Nat) (cs : Array Value) (t : TypeId) : Prop := w.heap[k]? = some (.cells cs t (0, 0)) /\ k ≠ rb /\ k ≠ b /\ nbk w rb ≠ some k
theorem Loc.kpt {rb b k : Nat} {w w' : World} {cs : Array Value} {t : TypeId} (h : Loc rb b w k cs t) (hk : Kpt rb b w w') : Loc rb b w' k cs t := by
  obtain ⟨h1, h2, h3, h4⟩ := h
  have hlt := (Array.getElem?_eq_some_iff.1 h1).1
  refine ⟨(hk.fr.block k hlt fun hh => ?_).trans h1, h2, h3, fun e => ?_⟩
  · rcases hh with hh | hh | hh
    · exact h2 hh
    · exact h3 hh
    · exact h4 hh
  · rcases hk.nb with e2 | ⟨g, e2, hg⟩
    · exact h4 (e2 ▸ e)
    · rw [e] at e2; cases e2; omega
theorem Loc.set {rb b k j : Nat} {w : World} {cs : Array Value} {t : TypeId} (h : Loc rb b w k cs t) (v : Value) : Loc rb b (w.setCell ⟨k, j, none⟩ v) k (cs.setIfInBounds j v) t :=
  ⟨blk_put h.1, h.2.1, h.2.2.1, by rw [nbk_heap (set_far w k j rb v (Ne.symm h.2.1))]; exact h.2.2.2⟩
theorem Loc.far {rb b k m j : Nat} {w : World} {cs : Array Value} {t : TypeId} (h : Loc rb b w k cs t) (v : Value) (hm : m ≠ k) (hr : m ≠ rb) : Loc rb b (w.setCell ⟨m, j, none⟩ v) k cs t :=
  ⟨(set_far w m j k v (Ne.symm hm)).trans h.1, h.2.1, h.2.2.1, by rw [nbk_heap (set_far w m j rb v (Ne.symm hr))]; exact h.2.2.2⟩
theorem Loc.lt {rb b k : Nat} {w : World} {cs : Array Value} {t : TypeId} (h : Loc rb b w k cs t) : k < w.heap.size := (Array.getElem?_eq_some_iff.1 h.1).1
theorem Loc.cell {rb b k : Nat} {w : World} {cs : Array Value} {t : TypeId} (h : Loc rb b w k cs t) (j : Nat) : w.cell? ⟨k, j, none⟩ = cs[j]? := Blk_cell h.1 j
theorem Loc.frozen {rb b k : Nat} {w : World} {cs : Array Value} {t : TypeId} (h : Loc rb b w k cs t) (j : Nat) : w.frozen? ⟨k, j, none⟩ = false := Blk_frozen h.1 j
def TkRow (w : World) (g o : Nat) (l : List Tk) : Prop := ∀ j t, l[j]? = some t ->
  w.cell? ⟨g, o + j * 4, none⟩ = some (.int .i64 t.k) /\ w.cell? ⟨g, o + j * 4 + 1, none⟩ = some (.string t.s) /\ w.cell? ⟨g, o + j * 4 + 2, none⟩ = some (.int .i64 t.n) /\ w.cell? ⟨g, o + j * 4 + 3, none⟩ = some (.int .i64 t.p)
theorem TkRow.heap {w w' : World} {g o : Nat} {l : List Tk} (h : TkRow w g o l) (he : w'.heap[g]? = w.heap[g]?) : TkRow w' g o l := fun j t hj => by
  obtain ⟨h0, h1, h2, h3⟩ := h j t hj
  have e : ∀ k, w'.cell? ⟨g, k, none⟩ = w.cell? ⟨g, k, none⟩ := fun k => World.cell?_of_block (a := ⟨g, k, none⟩) he
  exact ⟨(e _).trans h0, (e _).trans h1, (e _).trans h2, (e _).trans h3⟩
theorem TkRow.tail {w : World} {g o : Nat} {t : Tk} {l : List Tk} (h : TkRow w g o (t :: l)) : TkRow w g (o + 4) l := fun j t' hj => by
  have := h (j + 1) t' (by simpa using hj)
  rw [show o + (j + 1) * 4 = o + 4 + j * 4 by omega] at this
  exact this
def Rdr (B rb b : Nat) (w : World) (p : Option Addr) (l : List Tk) (E : Int) (dead : Bool) : Prop :=
  (dead = true /\ p = none /\ l = [] /\ E = 0) ∨
  (dead = false /\ p = some ⟨b, 0, none⟩ /\ ∃ A c, w.heap[b]? = some (.cells #[.slice A l.length c, .int .i64 E] 82 (0, 0)) /\ l.length <= c /\ (l.length <= 1000000 /\ ∀ t ∈ l, t.s.size <= 281474976710656) /\ (l ≠ [] -> ∃ g o, A = some ⟨g, o, none⟩ /\ g < B /\ g ≠ rb /\ g ≠ b /\ TkRow w g o l))
theorem Rdr.heap {B rb b : Nat} {w w' : World} {p : Option Addr} {l : List Tk} {E : Int} {dead : Bool} (h : Rdr B rb b w p l E dead) (hb : w'.heap[b]? = w.heap[b]?) (hg : ∀ g, g < B -> g ≠ rb -> g ≠ b -> w'.heap[g]? = w.heap[g]?) : Rdr B rb b w' p l E dead := by
  rcases h with h | ⟨h1, h2, A, c, h3, h4, h5, h6⟩
  · exact .inl h
  · refine .inr ⟨h1, h2, A, c, hb.trans h3, h4, h5, fun h0 => ?_⟩
    obtain ⟨g, o, e, g1, g2, g3, hr⟩ := h6 h0
    exact ⟨g, o, e, g1, g2, g3, hr.heap (hg g g1 g2 g3)⟩
def OwnA (Av : Nat -> Prop) (B : Nat) (w : World) (v : Value) (ps : List (Nd × Value)) : Prop := OwnN B w v ps /\ ∀ x ∈ ps, ∀ g, x.2.ownBlock = some g -> ¬ Av g
structure St (Av : Nat -> Prop) (B rb b : Nat) (w : World) (s : PS) : Prop where
  av : ∀ g, Av g -> g < w.heap.size
  hrb : rb < B
  hb : b < B
  hB : B <= w.heap.size
  ne : rb ≠ b
  at_ : ∃ p v ps, w.heap[rb]? = some (.cells #[.pointer p, v, .int .i64 s.d, .int .i64 s.err, .int .i64 s.place] 51 (0, 0)) /\ Rdr B rb b w p s.l s.E s.dead /\ ps.map Prod.fst = s.N /\ OwnA Av B w v ps
section
variable {Av : Nat -> Prop} {B rb b : Nat} {w w' : World} {s : PS}
theorem St.nbB (h : St Av B rb b w s) : ∀ g, nbk w rb = some g -> B <= g /\ ∃ cur, w.heap[g]? = some (.cells cur 37 (0, 0)) := by
  obtain ⟨p, v, ps, h1, h2, h3, h4⟩ := h.at_
  intro g hg
  have e : nbk w rb = v.ownBlock := by unfold nbk; rw [Blk_cell h1 1]; rfl
  rw [e] at hg
  exact own27 h4.1.1 g hg
theorem St.heap (h : St Av B rb b w s) (hs : w.heap.size <= w'.heap.size) (hr : w'.heap[rb]? = w.heap[rb]?) (hb : w'.heap[b]? = w.heap[b]?) (hl : ∀ g, g < B -> g ≠ rb -> g ≠ b -> w'.heap[g]? = w.heap[g]?)
    (hn : ∀ g cs t, B <= g -> w.heap[g]? = some (.cells cs t (0, 0)) -> (t = 97 /\ ¬ Av g) ∨ nbk w rb = some g -> w'.heap[g]? = w.heap[g]?) : St Av B rb b w' s := by
  obtain ⟨p, v, ps, h1, h2, h3, h4⟩ := h.at_
  have e : nbk w rb = v.ownBlock := by unfold nbk; rw [Blk_cell h1 1]; rfl
  refine ⟨fun g hg => Nat.lt_of_lt_of_le (h.av g hg) hs, h.hrb, h.hb, Nat.le_trans h.hB hs, h.ne, p, v, ps, hr.trans h1, h2.heap hb hl, h3, ⟨⟨h4.1.1.1, ?_⟩, fun x hx => ⟨(h4.1.2 x hx).1, ?_⟩⟩, h4.2⟩
  · rcases h4.1.1.2 with h0 | ⟨g, cap, cur, e1, e2, e3, e4⟩
    · exact .inl h0
    · exact .inr ⟨g, cap, cur, e1, e2, (hn g _ _ e2 e3 (.inr (by rw [e, e1]; rfl))).trans e3, e4⟩
  · rcases (h4.1.2 x hx).2 with h0 | ⟨g, cap, cur, e1, e2, e3, e4⟩
    · exact .inl h0
    · exact .inr ⟨g, cap, cur, e1, e2, (hn g _ _ e2 e3 (.inl ⟨rfl, h4.2 x hx g (by rw [e1]; rfl)⟩)).trans e3, e4⟩
theorem St.below (h : St Av B rb b w s) (hb : Below w.heap.size w w') : St Av B rb b w' s :=
  h.heap hb.size (hb.block _ (Nat.lt_of_lt_of_le h.hrb h.hB)) (hb.block _ (Nat.lt_of_lt_of_le h.hb h.hB)) (fun g hg _ _ => hb.block g (Nat.lt_of_lt_of_le hg h.hB)) fun g _cs _t _ hg _ => hb.block g (Array.getElem?_eq_some_iff.1 hg).1
theorem St.alloc (h : St Av B rb b w s) (o : Obj) : St Av B rb b (w.alloc o) s := h.below ((Below.refl _ w).alloc (Nat.le_refl _) o)
theorem St.drew (h : St Av B rb b w s) : St Av B rb b w.drew s := h.below (Below.refl _ w).drew
theorem St.loc {k j : Nat} {cs : Array Value} {t : TypeId} (h : St Av B rb b w s) (hl : Loc rb b w k cs t) (ht : t ≠ 97) (hk : B <= k) (v : Value) : St Av B rb b (w.setCell ⟨k, j, none⟩ v) s := by
  have hb := h.hb
  refine h.heap (by simp) (set_far _ _ _ _ _ (Ne.symm hl.2.1)) (set_far _ _ _ _ _ (Ne.symm hl.2.2.1)) (fun g hg _ _ => set_far _ _ _ _ _ (by omega)) fun g cs' t' hg hg' ht' => set_far _ _ _ _ _ ?_
  rintro rfl
  rcases ht' with ⟨rfl, _⟩ | h0
  · rw [hl.1] at hg'; injection hg' with e; injection e with _ e _; exact ht e
  · exact hl.2.2.2 h0
theorem St.rlt (h : St Av B rb b w s) : rb < w.heap.size := Nat.lt_of_lt_of_le h.hrb h.hB
theorem St.blt (h : St Av B rb b w s) : b < w.heap.size := Nat.lt_of_lt_of_le h.hb h.hB
theorem Loc.new (h : St Av B rb b w s) (cs : Array Value) (t : TypeId) : Loc rb b (w.alloc (.cells cs t)) w.heap.size cs t := by
  have h1 := h.rlt
  have h2 := h.blt
  refine ⟨World.alloc_heap_new w _, by omega, by omega, fun e => ?_⟩
  rw [nbk_heap (Below.heap_alloc _ _ _ h1)] at e
  obtain ⟨_, cur, hc⟩ := h.nbB _ e
  have := (Array.getElem?_eq_some_iff.1 hc).1
  omega
theorem Loc.alloc {k : Nat} {cs : Array Value} {t : TypeId} (h : Loc rb b w k cs t) (hr : rb < w.heap.size) (o : Obj) : Loc rb b (w.alloc o) k cs t := h.kpt ((Kpt.refl rb b w).alloc hr o)
theorem Loc.drew {k : Nat} {cs : Array Value} {t : TypeId} (h : Loc rb b w k cs t) : Loc rb b w.drew k cs t := h.kpt (Kpt.refl rb b w).drew
theorem St.cells (h : St Av B rb b w s) : ∃ p v, Rdr B rb b w p s.l s.E s.dead /\ w.cell? ⟨rb, 0, none⟩ = some (.pointer p) /\ w.cell? ⟨rb, 1, none⟩ = some v /\ w.cell? ⟨rb, 2, none⟩ = some (.int .i64 s.d) /\ w.cell? ⟨rb, 3, none⟩ = some (.int .i64 s.err) /\ w.cell? ⟨rb, 4, none⟩ = some (.int .i64 s.place) /\ ∀ j, w.frozen? ⟨rb, j, none⟩ = false := by
  obtain ⟨p, v, ps, h1, h2, _⟩ := h.at_
  exact ⟨p, v, h2, Blk_cell h1 0, Blk_cell h1 1, Blk_cell h1 2, Blk_cell h1 3, Blk_cell h1 4, fun j => Blk_frozen h1 j⟩
end
def APost (Av : Nat -> Prop) (B rb b : Nat) (w : World) (a : Nat) (s' : PS) (e : Ending) (w' : World) : Prop := e = .returned (.int .i64 (a : Int)) /\ St Av B rb b w' s' /\ Kpt rb b w w'
def VPost (Av : Nat -> Prop) (B rb b : Nat) (w : World) (s' : PS) (e : Ending) (w' : World) : Prop := e = .returned (.tuple #[]) /\ St Av B rb b w' s' /\ Kpt rb b w w'
def BPost (Av : Nat -> Prop) (B rb b : Nat) (w : World) (x : Bool) (s' : PS) (e : Ending) (w' : World) : Prop := e = .returned (.bool x) /\ St Av B rb b w' s' /\ Kpt rb b w w'
def SPost (Av : Nat -> Prop) (B rb b : Nat) (w : World) (x : ByteArray) (s' : PS) (e : Ending) (w' : World) : Prop := e = .returned (.string x) /\ St Av B rb b w' s' /\ Kpt rb b w w'
open T
def Al (s : PS) : Prop := s.dead = false /\ s.err = 0
def Dd (s : PS) (e p : Int) : Prop := s.dead = true /\ s.l = [] /\ s.E = 0 /\ s.err = e /\ s.place = p /\ e ≠ 0
def D1 (s : PS) : PS := { s with N := s.N ++ [mk 0 0] }
section
variable {s : PS} {e p : Int}
theorem Dd.no (h : Dd s e p) (a c : Int) : s.no a c = s := by
  obtain ⟨h1, h2, h3, h4, h5, h6⟩ := h
  cases s
  simp only at h1 h2 h3 h4 h5
  subst h1 h2 h3 h4 h5
  simp [PS.no, h6]
theorem Dd.pk (h : Dd s e p) : s.pk = ⟨0, ⟨#[]⟩, 0, 0⟩ := by unfold PS.pk; rw [h.2.1]; simp [h.2.2.1]
theorem Dd.is (h : Dd s e p) (k : Int) (x : List UInt8) : s.is k x = false := by unfold PS.is; rw [h.2.1]; rfl
theorem Dd.must (h : Dd s e p) (k : Int) (x : List UInt8) : s.must k x = s := by unfold PS.must; rw [h.is, if_neg (by decide), h.no]
theorem Dd.txt (h : Dd s e p) {k : Int} (hk : k ≠ 0) : s.txt k = (⟨#[]⟩, s) := by
  unfold PS.txt
  rw [h.pk, if_neg (Ne.symm hk), h.no]
theorem Dd.lab (h : Dd s e p) {k : Int} (hk : k ≠ 0) (fs : List Fld) : s.lab k fs = (⟨#[]⟩, s) := by
  unfold PS.lab
  rw [h.txt hk]
  simp only [h.no]
  split
  · rfl
  · split <;> rfl
theorem Dd.d1 (h : Dd s e p) : Dd (D1 s) e p := h
theorem Dd.d (h : Dd s e p) (n : Nat) : Dd { s with d := n } e p := h
theorem Dd.leaf (h : Dd s e p) : leafN s = (mk 0 0, s) := by
  unfold leafN
  rw [h.is, h.is, h.pk, h.no]
  rfl
theorem Dd.beg (h : Dd s e p) : begins s.l = false := by rw [h.2.1]; rfl
theorem Dd.any (h : Dd s e p) (ops : List (List UInt8)) : anyOf ops s = false := by
  unfold anyOf
  rw [List.any_eq_false]
  intro o _
  rw [h.is]; decide
theorem add_some {n : Nd} (h : s.N.length < 1000000) : s.add n = some (s.N.length, { s with N := s.N ++ [n] }) := by unfold PS.add; rw [if_pos h]
theorem Dd.atom (h : Dd s e p) (X : PS -> Ans) (hN : s.N.length < 1000000) : atomP X s = some (s.N.length, D1 s) := by
  unfold atomP
  rw [h.is, h.is, h.is, h.leaf]
  exact add_some hN
theorem Dd.post (h : Dd s e p) (X : PS -> Ans) (hN : s.N.length < 1000000) : postP X s = some (s.N.length, D1 s) := by
  unfold postP
  rw [h.atom X hN, Option.bind_some, postL, h.d1.is]
  rfl
theorem Dd.app (h : Dd s e p) (X : PS -> Ans) (hN : s.N.length < 1000000) : appP X s = some (s.N.length, D1 s) := by
  unfold appP
  rw [h.pk, if_neg (by decide), h.post X hN, Option.bind_some, appL, h.d1.beg]
  rfl
theorem Dd.prod (h : Dd s e p) (X : PS -> Ans) (hN : s.N.length < 1000000) : prodP X s = some (s.N.length, D1 s) := by
  unfold prodP
  rw [h.app X hN, Option.bind_some, loopP, h.d1.any]
  rfl
theorem Dd.sum (h : Dd s e p) (X : PS -> Ans) (hN : s.N.length < 1000000) : sumP X s = some (s.N.length, D1 s) := by
  unfold sumP
  rw [h.prod X hN, Option.bind_some, loopP, h.d1.any]
  rfl
theorem Dd.cmp (h : Dd s e p) (X : PS -> Ans) (hN : s.N.length < 1000000) : cmpP X s = some (s.N.length, D1 s) := by
  unfold cmpP
  rw [h.sum X hN, Option.bind_some]
  simp only
  rw [h.d1.any]
  rfl
theorem Dd.inner (h : Dd s e p) (X : PS -> Ans) (q : Int) (hN : s.N.length < 1000000) : innerP X q s = some (s.N.length, D1 s) := by
  unfold innerP
  rw [h.is, h.is, h.is]
  exact h.cmp X hN
theorem Dd.deep (h : Dd s e p) : s.deep = { s with d := s.d + 1 } := by
  unfold PS.deep
  rw [h.no]
  split <;> rfl
theorem Dd.expr (h : Dd s e p) (g : Nat) (hd : s.d < 1000) (hN : s.N.length < 1000000) : exprP (g + 1) s = some (s.N.length, D1 s) := by
  rw [exprP, if_pos hd, h.deep, (h.d (s.d + 1)).inner _ _ hN, Option.bind_some]
  rfl
def Fin (e p : Int) (m : Nat) (o : Ans) : Prop := ∃ a s', o = some (a, s') /\ Dd s' e p /\ a < s'.N.length /\ s'.N.length <= m
theorem Fin.mono {m m' : Nat} {o : Ans} (h : Fin e p m o) (hm : m <= m') : Fin e p m' o := by
  obtain ⟨a, s', h1, h2, h3, h4⟩ := h
  exact ⟨a, s', h1, h2, h3, Nat.le_trans h4 hm⟩
theorem Fin.add {m : Nat} (h : Dd s e p) (n : Nd) (hm : s.N.length + 1 <= m) (hb : m <= 999999) : Fin e p m (s.add n) :=
  ⟨_, _, add_some (by omega), h, by simp, by simp; omega⟩
theorem Fin.bind {m m' : Nat} {o : Ans} {K : Nat × PS -> Ans} (h : Fin e p m o) (hK : ∀ a s', o = some (a, s') -> Dd s' e p -> a < s'.N.length -> s'.N.length <= m -> Fin e p m' (K (a, s'))) : Fin e p m' (o.bind K) := by
  obtain ⟨a, s', h1, h2, h3, h4⟩ := h
  subst h1
  exact hK a s' rfl h2 h3 h4
theorem D1_len (s : PS) : (D1 s).N.length = s.N.length + 1 := by simp [D1]
theorem plc_pk (s : PS) : plc s.E s.l = s.pk.p := by unfold PS.pk plc; cases s.l <;> rfl
theorem no_dd (h : Al s) (q c : Int) (hc : c ≠ 0) : Dd (s.no q c) c q /\ (s.no q c).N = s.N /\ (s.no q c).d = s.d := by
  unfold PS.no
  rw [h.2]
  exact ⟨⟨rfl, rfl, rfl, rfl, rfl, hc⟩, rfl, rfl⟩
theorem txt_cases (h : Al s) {k : Int} (hk : k ≠ 0) : (∃ t m, s.l = t :: m /\ s.txt k = (t.s, { s with l := m }) /\ ∀ F, textT s.E k s.l F = F t.s m) ∨ ∃ q x s', s.txt k = (x, s') /\ Dd s' 5 q /\ s'.N = s.N /\ s'.d = s.d /\ ∀ F, textT s.E k s.l F = .bad 5 q := by
  cases hl : s.l with
  | nil =>
    refine .inr ⟨s.E, ⟨#[]⟩, s.no s.E 5, ?_, (no_dd h s.E 5 (by decide)).1, rfl, rfl, fun F => rfl⟩
    unfold PS.txt PS.pk
    rw [hl]
    simp only
    rw [if_neg (Ne.symm hk)]
  | cons t m =>
    by_cases hq : t.k = k
    · refine .inl ⟨t, m, rfl, ?_, fun F => by simp only [textT]; rw [if_pos hq]⟩
      unfold PS.txt PS.pk PS.nx
      rw [hl]
      simp only
      rw [if_pos hq]
      rfl
    · refine .inr ⟨t.p, ⟨#[]⟩, s.no t.p 5, ?_, (no_dd h t.p 5 (by decide)).1, rfl, rfl, fun F => by simp only [textT]; rw [if_neg hq]⟩
      unfold PS.txt PS.pk
      rw [hl]
      simp only
      rw [if_neg hq]
theorem must_cases (h : Al s) (k : Int) (x : List UInt8) : (∃ t m, s.l = t :: m /\ s.must k x = { s with l := m } /\ ∀ F, T.must s.E k x s.l F = F m) ∨ ∃ q s', s.must k x = s' /\ Dd s' 5 q /\ s'.N = s.N /\ s'.d = s.d /\ ∀ F, T.must s.E k x s.l F = .bad 5 q := by
  by_cases hq : isT k x s.l = true
  · obtain ⟨t, m, hl⟩ := isT_cons hq
    refine .inl ⟨t, m, hl, ?_, fun F => by unfold T.must; rw [if_pos hq, hl]; rfl⟩
    unfold PS.must PS.is PS.nx
    rw [if_pos hq, hl]
    rfl
  · refine .inr ⟨s.pk.p, s.no s.pk.p 5, ?_, (no_dd h _ 5 (by decide)).1, rfl, rfl, fun F => by unfold T.must; rw [if_neg hq, plc_pk]⟩
    unfold PS.must PS.is
    rw [if_neg hq]
theorem lab_cases (h : Al s) {k : Int} (hk : k ≠ 0) {fs gs : List Fld} (hg : gs.map Fld.nm = fs.map Fld.nm) (hn : gs.length <= 30) : (∃ t m, s.l = t :: m /\ gs.length < 30 /\ s.lab k gs = (t.s, { s with l := m }) /\ ∀ F, labelT s.E k fs s.l F = F t.s m) ∨ ∃ q c x s', c ≠ 0 /\ s.lab k gs = (x, s') /\ Dd s' c q /\ s'.N = s.N /\ s'.d = s.d /\ ∀ F, labelT s.E k fs s.l F = .bad c q := by
  have hlen : gs.length = fs.length := by have := congrArg List.length hg; simpa using this
  have hany : ∀ x : ByteArray, (gs.any fun y => y.nm.toList == x.toList) = fs.any fun y => y.nm.toList == x.toList := fun x => by
    have e : ∀ l : List Fld, (l.any fun y => y.nm.toList == x.toList) = (l.map Fld.nm).any fun z => z.toList == x.toList := fun l => by rw [List.any_map]; rfl
    rw [e, e, hg]
  rcases txt_cases h hk with ⟨t, m, hl, h1, h2⟩ | ⟨q, x, s', h1, h2, h3, h4, h5⟩
  · unfold PS.lab
    rw [h1, hany]
    by_cases h30 : gs.length = 30
    · have ha : Al { s with l := m } := h
      refine .inr ⟨s.pk.p, 8, t.s, ({ s with l := m } : PS).no s.pk.p 8, by decide, by rw [if_pos h30], (no_dd ha _ 8 (by decide)).1, rfl, rfl, fun F => ?_⟩
      unfold labelT
      rw [h2, if_pos (by omega), plc_pk]
    · rw [if_neg h30]
      by_cases hd : (fs.any fun y => y.nm.toList == t.s.toList) = true
      · have ha : Al { s with l := m } := h
        refine .inr ⟨s.pk.p, 5, t.s, ({ s with l := m } : PS).no s.pk.p 5, by decide, by simp only; rw [if_pos hd], (no_dd ha _ 5 (by decide)).1, rfl, rfl, fun F => ?_⟩
        unfold labelT
        rw [h2, if_neg (by omega), if_pos hd, plc_pk]
      · refine .inl ⟨t, m, hl, by omega, by simp only; rw [if_neg hd], fun F => ?_⟩
        unfold labelT
        rw [h2, if_neg (by omega), if_neg hd]
  · refine .inr ⟨q, 5, x, s', by decide, ?_, h2, h3, h4, fun F => h5 _⟩
    unfold PS.lab
    rw [h1]
    simp only [h2.no]
    split
    · rfl
    · split <;> rfl
end
open T
def Sim (N0 : List Nd) (s : PS) (m : Nat) (r : Rs) (o : Ans) : Prop := match r with
  | .ok t l => o = some ((lay N0 t).length - 1, { s with l := l, N := lay N0 t })
  | .bad e p => Fin e p m o
def fi (s : PS) : Nat := s.N.length + 4 * s.l.length
def Known (X : PS -> Ans) (f d L : Nat) : Prop := ∀ s, Al s -> s.d = d -> s.l.length < L -> fi s + 100 <= 900000 -> Sim s.N s (fi s + 4) (G s.E f .expr d s.l) (X s)
theorem Sim.mono {N0 : List Nd} {s : PS} {m m' : Nat} {r : Rs} {o : Ans} (h : Sim N0 s m r o) (hm : m <= m') : Sim N0 s m' r o := by
  cases r with
  | ok t l => exact h
  | bad e p => exact Fin.mono h hm
theorem Dd.xx {X : PS -> Ans} {s : PS} {e p : Int} {g : Nat} (hX : X = exprP (g + 1)) (h : Dd s e p) (hd : s.d < 1000) (hN : s.N.length < 1000000) : X s = some (s.N.length, D1 s) := by rw [hX]; exact h.expr g hd hN
theorem Sim.two {s : PS} {m f d : Nat} {R : Pr} {o : Ans} (hfit : fit R) (hfs : fitS R) (h : Sim s.N s m (G s.E f R d s.l) o) :
    (∃ t l, G s.E f R d s.l = .ok t l /\ o = some ((lay s.N t).length - 1, { s with l := l, N := lay s.N t }) /\ inOrd t /\ 1 <= t.length /\ t.length + eats R + 2 * l.length <= base R + 2 * s.l.length /\ l.length + eats R <= s.l.length) ∨ ∃ e p, G s.E f R d s.l = .bad e p /\ Fin e p m o := by
  cases hG : G s.E f R d s.l with
  | ok t l =>
    rw [hG] at h
    obtain ⟨h1, h2⟩ := G_ok s.E f R d _ _ _ hfit hG
    obtain ⟨h3, h4⟩ := G_size s.E f R d _ _ _ hfs hG
    exact .inl ⟨t, l, rfl, h, h1, List.length_pos_iff.2 h1.1, h4, h2⟩
  | bad e p =>
    rw [hG] at h
    exact .inr ⟨e, p, rfl, h⟩
theorem cast_pred {n : Nat} (h : 1 <= n) : ((n - 1 : Nat) : Int) = (n : Int) - 1 := by omega
theorem Al.l {s : PS} (h : Al s) (l : List Tk) (N : List Nd) : Al { s with l := l, N := N } := h
section
variable {X : PS -> Ans} {f d g : Nat} {s : PS}
theorem fun_sim (hX : X = exprP (g + 1)) (hK : Known X f d s.l.length) (ha : Al s) (hd : s.d = d) (hd2 : d <= 100) (hr : fi s + 100 <= 900000) (p : Int) :
    Sim s.N s (fi s + 4) (textT s.E 2 s.l fun x l1 => T.must s.E 7 s_arrow l1 fun l2 => (G s.E f .expr d l2).go fun a l3 => .ok (joinN { mk 5 p with nm := x } [a]) l3) (funP X p s) := by
  unfold fi at hr
  unfold funP fi
  rcases txt_cases ha (k := 2) (by decide) with ⟨t, m, hl, e1, e2⟩ | ⟨q, x, s', e1, h2, h3, h4, e2⟩
  · rw [e2, e1]
    simp only
    have hl1 := congrArg List.length hl
    simp only [List.length_cons] at hl1
    have ha1 : Al { s with l := m } := ha
    rcases must_cases ha1 7 s_arrow with ⟨t2, m2, hl2, e3, e4⟩ | ⟨q, s', e3, h2, h3, h4, e4⟩
    · rw [e4, e3]
      simp only at hl2
      have hl3 := congrArg List.length hl2
      simp only [List.length_cons] at hl3
      have h := hK { s with l := m2 } ha hd (by simp only; omega) (by unfold fi; simp only; omega)
      rcases Sim.two (R := .expr) trivial trivial h with ⟨a, l, hG, ho, hin, hlen, hsz, hll⟩ | ⟨e, q, hG, hF⟩
      · rw [hG, ho]
        simp only [eats, base] at hsz hll
        simp only [Rs.go, Option.bind_some, Sim]
        rw [add_some (by simp only [lay_len]; omega), lay1 _ _ _ rfl, List.length_append]
        simp only [List.length_singleton, Nat.add_sub_cancel]
        congr 3
        · rw [cast_pred (by rw [lay_len]; omega)]; rfl
      · rw [hG]
        refine hF.bind fun a s' ho hD haN hN => Fin.add hD _ ?_ (by omega)
        unfold fi at hN
        simp only at hN
        omega
    · rw [e4, e3]
      have hd' : s'.d < 1000 := by rw [h4]; simp only; omega
      rw [h2.xx hX hd' (by rw [h3]; simp only; omega)]
      refine Fin.add h2.d1 _ ?_ (by omega)
      rw [D1_len, h3]
      simp only
      omega
  · rw [e2, e1]
    simp only
    rw [h2.must, h2.xx hX (by rw [h4]; omega) (by rw [h3]; omega)]
    refine Fin.add h2.d1 _ ?_ (by omega)
    rw [D1_len, h3]
    omega
end
open T
def okT (x : ByteArray) : Prop := x.size <= 281474976710656
def Cl (s : PS) : Prop := (∀ t ∈ s.l, okT t.s) /\ ∀ x ∈ s.N, Clonable x
def okF (fs : List Fld) : Prop := ∀ f ∈ fs, okT f.nm /\ okT f.vr
theorem okT_nil : okT ⟨#[]⟩ := Nat.zero_le _
def Ck (X : PS -> Ans) : Prop := ∀ s r, Cl s -> X s = some r -> Cl r.2
section
variable {s : PS}
theorem cl_no (h : Cl s) (p e : Int) : Cl (s.no p e) := ⟨fun t ht => (by cases ht), h.2⟩
theorem cl_nx (h : Cl s) : Cl s.nx := ⟨fun t ht => h.1 t (List.mem_of_mem_tail ht), h.2⟩
theorem cl_pk (h : Cl s) : okT s.pk.s := by
  unfold PS.pk
  cases hl : s.l with
  | nil => exact okT_nil
  | cons t m => exact h.1 t (by rw [hl]; simp)
theorem cl_must (h : Cl s) (k : Int) (x : List UInt8) : Cl (s.must k x) := by
  unfold PS.must
  split
  · exact cl_nx h
  · exact cl_no h _ _
theorem cl_txt (h : Cl s) (k : Int) : okT (s.txt k).1 /\ Cl (s.txt k).2 := by
  unfold PS.txt
  split
  · exact ⟨cl_pk h, cl_nx h⟩
  · exact ⟨okT_nil, cl_no h _ _⟩
theorem cl_lab (h : Cl s) (k : Int) (fs : List Fld) : okT (s.lab k fs).1 /\ Cl (s.lab k fs).2 := by
  have h1 := cl_txt h k
  unfold PS.lab
  split
  · exact ⟨h1.1, cl_no h1.2 _ _⟩
  · split
    · exact ⟨h1.1, cl_no h1.2 _ _⟩
    · exact h1
theorem cl_add (h : Cl s) {n : Nd} (hn : Clonable n) {r : Nat × PS} (ho : s.add n = some r) : Cl r.2 := by
  unfold PS.add at ho
  split at ho
  · cases ho
    refine ⟨h.1, fun x hx => ?_⟩
    simp only [List.mem_append, List.mem_singleton] at hx
    rcases hx with hx | rfl
    · exact h.2 x hx
    · exact hn
  · cases ho
theorem clon {k a b c n p : Int} {nm s : ByteArray} {l : List Fld} (h1 : okT nm) (h2 : okT s) (h3 : okF l) (h4 : l.length <= 1000) : Clonable ⟨k, a, b, c, n, nm, s, l, p⟩ := ⟨h1, h2, by show l.length <= 1000000; omega, h3⟩
theorem clon0 {k a b c n p : Int} {nm s : ByteArray} (h1 : okT nm) (h2 : okT s) : Clonable ⟨k, a, b, c, n, nm, s, [], p⟩ := clon h1 h2 (fun f hf => by cases hf) (by simp)
theorem cl_leaf (h : Cl s) : Clonable (leafN s).1 /\ Cl (leafN s).2 := by
  have hp := cl_pk h
  have hx := cl_nx h
  unfold leafN
  split
  · exact ⟨clon0 okT_nil okT_nil, hx⟩
  split
  · exact ⟨clon0 okT_nil okT_nil, hx⟩
  split
  · exact ⟨clon0 okT_nil okT_nil, hx⟩
  split
  · exact ⟨clon0 okT_nil hp, hx⟩
  split
  · exact ⟨clon0 hp okT_nil, hx⟩
  exact ⟨clon0 okT_nil okT_nil, cl_no h _ _⟩
end
theorem op_c {X : PS -> Ans} (hX : Ck X) {a : Nat} {s : PS} {r : Nat × PS} (hs : Cl s) (h : opP X a s = some r) : Cl r.2 := by
  obtain ⟨q, h1, h2⟩ := bnd h
  exact cl_add (hX _ _ (cl_nx hs) h1) (clon0 okT_nil okT_nil) h2
theorem loop_c {X : PS -> Ans} (hX : Ck X) (ops : List (List UInt8)) : ∀ n a s r, Cl s -> loopP ops X n a s = some r -> Cl r.2 := by
  intro n
  induction n with
  | zero => intro a s r _ h; cases h
  | succ n ih =>
    intro a s r hs h
    rw [loopP] at h
    split at h
    · obtain ⟨q, h1, h2⟩ := bnd h
      exact ih _ _ _ (op_c hX hs h1) h2
    · cases h; exact hs
theorem postL_c : ∀ n a s r, Cl s -> postL n a s = some r -> Cl r.2 := by
  intro n
  induction n with
  | zero => intro a s r _ h; cases h
  | succ n ih =>
    intro a s r hs h
    rw [postL] at h
    split at h
    · obtain ⟨q, h1, h2⟩ := bnd h
      have ht := cl_txt (cl_nx hs) 2
      exact ih _ _ _ (cl_add ht.2 (clon0 ht.1 okT_nil) h1) h2
    · cases h; exact hs
theorem appL_c {X : PS -> Ans} (hX : Ck X) : ∀ n a s r, Cl s -> appL X n a s = some r -> Cl r.2 := by
  intro n
  induction n with
  | zero => intro a s r _ h; cases h
  | succ n ih =>
    intro a s r hs h
    rw [appL] at h
    split at h
    · split at h
      · cases h
      · obtain ⟨q, h1, h2⟩ := bnd h
        obtain ⟨u, h3, h4⟩ := bnd h2
        exact ih _ _ _ (cl_add (hX _ _ hs h1) (clon0 okT_nil okT_nil) h3) h4
    · cases h; exact hs
theorem okF_snoc {fs : List Fld} (h : okF fs) {x v : ByteArray} {k : Int} (hx : okT x) (hv : okT v) : okF (fs ++ [⟨x, v, k⟩]) := fun f hf => by
  rcases List.mem_append.1 hf with hf | hf
  · exact h f hf
  · obtain rfl := List.mem_singleton.1 hf
    exact ⟨hx, hv⟩
theorem recL_c {X : PS -> Ans} (hX : Ck X) (p : Int) : ∀ n fs s r, Cl s -> okF fs -> recL X p n fs s = some r -> Cl r.2 := by
  intro n
  induction n with
  | zero => intro fs s r _ _ h; cases h
  | succ n ih =>
    intro fs s r hs hf h
    rw [recL] at h
    split at h
    · rename_i hlen
      obtain ⟨q, h1, h2⟩ := bnd h
      have hl := cl_lab hs 2 fs
      have hq := hX _ _ (cl_must hl.2 _ _) h1
      have hF := okF_snoc hf hl.1 okT_nil (k := (q.1 : Int))
      simp only at h2
      split at h2
      · exact ih _ _ _ (cl_nx hq) hF h2
      · exact cl_add (cl_must hq _ _) (clon okT_nil okT_nil hF (by simp; omega)) h2
    · cases h
theorem casL_c {X : PS -> Ans} (hX : Ck X) (p : Int) (a : Nat) : ∀ n fs s r, Cl s -> okF fs -> casL X p a n fs s = some r -> Cl r.2 := by
  intro n
  induction n with
  | zero => intro fs s r _ _ h; cases h
  | succ n ih =>
    intro fs s r hs hf h
    rw [casL] at h
    split at h
    · rename_i hlen
      obtain ⟨q, h1, h2⟩ := bnd h
      have hl := cl_lab hs 3 fs
      have hv := cl_txt hl.2 2
      have hq := hX _ _ (cl_must hv.2 _ _) h1
      have hF := okF_snoc hf hl.1 hv.1 (k := (q.1 : Int))
      simp only at h2
      split at h2
      · exact ih _ _ _ (cl_nx hq) hF h2
      · exact cl_add (cl_must hq _ _) (clon okT_nil okT_nil hF (by simp; omega)) h2
    · cases h
theorem atom_c {X : PS -> Ans} (hX : Ck X) : Ck (atomP X) := by
  intro s r hs h
  unfold atomP at h
  split at h
  · obtain ⟨q, h1, h2⟩ := bnd h
    cases h2
    exact cl_must (hX _ _ (cl_nx hs) h1) _ _
  split at h
  · unfold recP at h
    split at h
    · exact cl_add (cl_nx (cl_nx hs)) (clon0 okT_nil okT_nil) h
    · exact recL_c hX _ _ _ _ _ (cl_nx hs) (fun f hf => by cases hf) h
  split at h
  · obtain ⟨q, h1, h2⟩ := bnd h
    exact casL_c hX _ _ _ _ _ _ (cl_must (hX _ _ (cl_nx hs) h1) _ _) (fun f hf => by cases hf) h2
  · have hl := cl_leaf hs
    exact cl_add hl.2 hl.1 h
theorem post_c {X : PS -> Ans} (hX : Ck X) : Ck (postP X) := by
  intro s r hs h
  obtain ⟨q, h1, h2⟩ := bnd h
  exact postL_c _ _ _ _ (atom_c hX _ _ hs h1) h2
theorem app_c {X : PS -> Ans} (hX : Ck X) : Ck (appP X) := by
  intro s r hs h
  unfold appP at h
  split at h
  · obtain ⟨q, h1, h2⟩ := bnd h
    have ht := cl_txt hs 3
    exact cl_add (post_c hX _ _ ht.2 h1) (clon0 ht.1 okT_nil) h2
  · obtain ⟨q, h1, h2⟩ := bnd h
    exact appL_c (post_c hX) _ _ _ _ (post_c hX _ _ hs h1) h2
theorem prod_c {X : PS -> Ans} (hX : Ck X) : Ck (prodP X) := by
  intro s r hs h
  obtain ⟨q, h1, h2⟩ := bnd h
  exact loop_c (app_c hX) _ _ _ _ _ (app_c hX _ _ hs h1) h2
theorem sum_c {X : PS -> Ans} (hX : Ck X) : Ck (sumP X) := by
  intro s r hs h
  obtain ⟨q, h1, h2⟩ := bnd h
  exact loop_c (prod_c hX) _ _ _ _ _ (prod_c hX _ _ hs h1) h2
theorem cmp_c {X : PS -> Ans} (hX : Ck X) : Ck (cmpP X) := by
  intro s r hs h
  obtain ⟨q, h1, h2⟩ := bnd h
  split at h2
  · exact op_c (sum_c hX) (sum_c hX _ _ hs h1) h2
  · cases h2; exact sum_c hX _ _ hs h1
theorem fun_c {X : PS -> Ans} (hX : Ck X) (p : Int) : Ck (funP X p) := by
  intro s r hs h
  obtain ⟨q, h1, h2⟩ := bnd h
  have ht := cl_txt hs 2
  exact cl_add (hX _ _ (cl_must ht.2 _ _) h1) (clon0 ht.1 okT_nil) h2
theorem bindK_c {X : PS -> Ans} (hX : Ck X) (p k : Int) : Ck (bindK X p k) := by
  intro s r hs h
  obtain ⟨q, h1, h2⟩ := bnd h
  have ht := cl_txt hs 2
  have e1 := hX _ _ (cl_must ht.2 _ _) h1
  simp only at h2
  split at h2
  · split at h2
    · cases h2
    · obtain ⟨u, h3, h4⟩ := bnd h2
      refine cl_add (hX _ _ (cl_must ?_ _ _) h3) (clon0 ht.1 okT_nil) h4
      split
      · exact e1
      · exact cl_no e1 _ _
  · obtain ⟨u, h3, h4⟩ := bnd h2
    exact cl_add (hX _ _ (cl_must e1 _ _) h3) (clon0 ht.1 okT_nil) h4
theorem bind_c {X : PS -> Ans} (hX : Ck X) (p : Int) : Ck (bindP X p) := by
  intro s r hs h
  unfold bindP at h
  split at h
  · exact bindK_c hX _ _ _ _ (cl_nx hs) h
  · exact bindK_c hX _ _ _ _ hs h
theorem if_c {X : PS -> Ans} (hX : Ck X) (p : Int) : Ck (ifP X p) := by
  intro s r hs h
  obtain ⟨q, h1, h2⟩ := bnd h
  obtain ⟨u, h3, h4⟩ := bnd h2
  obtain ⟨t, h5, h6⟩ := bnd h4
  exact cl_add (hX _ _ (cl_must (hX _ _ (cl_must (hX _ _ hs h1) _ _) h3) _ _) h5) (clon0 okT_nil okT_nil) h6
theorem inner_c {X : PS -> Ans} (hX : Ck X) (p : Int) : Ck (innerP X p) := by
  intro s r hs h
  unfold innerP at h
  split at h
  · exact fun_c hX _ _ _ (cl_nx hs) h
  split at h
  · exact bind_c hX _ _ _ (cl_nx hs) h
  split at h
  · exact if_c hX _ _ _ (cl_nx hs) h
  · exact cmp_c hX _ _ hs h
theorem deep_c {s : PS} (h : Cl s) : Cl s.deep := by
  unfold PS.deep
  split
  · exact cl_no h s.pk.p 6
  · exact h
theorem expr_c : ∀ f, Ck (exprP f) := by
  intro f
  induction f with
  | zero => intro s r _ h; cases h
  | succ f ih =>
    intro s r hs h
    rw [exprP] at h
    split at h
    · obtain ⟨q, h1, h2⟩ := bnd h
      cases h2
      have := inner_c ih _ _ _ (deep_c hs) h1
      exact this
    · cases h
end Go.Proofs.YtjakeidbajkdcaaGreatDoor.A
