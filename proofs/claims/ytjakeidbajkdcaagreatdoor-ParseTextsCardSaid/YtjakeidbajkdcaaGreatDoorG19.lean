/- Joined by program. -/
import Derived.Test.YtjakeidbajkdcaaGreatDoorG18
set_option maxRecDepth 100000
set_option maxHeartbeats 16000000
namespace Go.Proofs.YtjakeidbajkdcaaGreatDoor.T
def slim (t : List Nd) : Prop := ∀ x ∈ t, x.l.length <= 30
theorem ztm : ∀ (l : List Fld) (ks : List Int), (relab l ks).length <= l.length := fun l ks => by rw [relab, List.length_zipWith]; omega
theorem zh0 (x : Nd) (ks : List Int) : (wk x ks).l.length <= x.l.length := by
 unfold wk
 simp only
 split
 ·exact ztm _ _
 ·exact Nat.zero_le _
theorem zxt : ∀ ll : List (List Nd), (∀ e ∈ ll, slim e) -> slim (jn ll).1 := by
 intro ll
 induction ll using snocInd with
 | h0 => intro _ x hx; simp [jn] at hx
 | h1 ll e ih =>
  intro h x hx
  rw [zfg, jstep, List.mem_append] at hx
  rcases hx with hx | hx
  ·exact ih (fun y hy => h y (by simp [hy])) x hx
  ·obtain ⟨y, hy, rfl⟩ := List.mem_map.1 hx
   exact ltr (zh0 _ _) (h e (by simp) y hy)
theorem slimN {x : Nd} {ll : List (List Nd)} (h : ∀ e ∈ ll, slim e) (hx : x.l.length <= 30) : slim (joinN x ll) := fun y hy => by
 rw [joinN, List.mem_append, List.mem_singleton] at hy
 rcases hy with hy | rfl
 ·exact zxt ll h y hy
 ·exact ltr (zh0 _ _) hx
theorem slim0 {x : Nd} (hx : x.l.length <= 30) : slim (joinN x []) := slimN (by simp) hx
theorem slim1 {x : Nd} {a : List Nd} (hx : x.l.length <= 30) (ha : slim a) : slim (joinN x [a]) := slimN (by simpa using ha) hx
theorem slim2 {x : Nd} {a b : List Nd} (hx : x.l.length <= 30) (ha : slim a) (hb : slim b) : slim (joinN x [a, b]) := slimN (by simp [ha, hb]) hx
theorem slim3 {x : Nd} {a b c : List Nd} (hx : x.l.length <= 30) (ha : slim a) (hb : slim b) (hc : slim c) : slim (joinN x [a, b, c]) := slimN (by simp [ha, hb, hc]) hx
theorem jlN (x : Nd) (ll : List (List Nd)) : (joinN x ll).length = (ll.map List.length).sum + 1 := by rw [joinN, List.length_append, (zf5 ll).1]; rfl
theorem jl0 (x : Nd) : (joinN x []).length = 1 := jlN x []
theorem jl1 (x : Nd) (a : List Nd) : (joinN x [a]).length = a.length + 1 := by rw [jlN]; simp
theorem jl2 (x : Nd) (a b : List Nd) : (joinN x [a, b]).length = a.length + b.length + 1 := by rw [jlN]; simp
theorem jl3 (x : Nd) (a b c : List Nd) : (joinN x [a, b, c]).length = a.length + b.length + c.length + 1 := by rw [jlN]; simp; omega
def fitS : Pr -> Prop
 | .sumL a => slim a
 | .prodL a => slim a
 | .appL a => slim a
 | .postL a => slim a
 | .recL _ _ ts => ∀ e ∈ ts, slim e
 | .casL _ _ ts => ∀ e ∈ ts, slim e
 | _ => True
def base : Pr -> Nat
 | .sumL a => a.length
 | .prodL a => a.length
 | .appL a => a.length
 | .postL a => a.length
 | .recL _ _ ts => (ts.map List.length).sum
 | .casL _ _ ts => (ts.map List.length).sum
 | _ => 0
theorem zg9 {E k : Int} {fs : List Fld} {l r : List Tk} {f : ByteArray -> List Tk -> Rs} {t : List Nd} (h : labelT E k fs l f = .ok t r) : ∃ x m, m.length + 1 = l.length /\ fs.length < 30 /\ f x m = .ok t r := by
 obtain ⟨x, m, hm, h⟩ := zbx h
 split at h
 ·cases h
 ·split at h
  ·cases h
  ·exact ⟨x, m, hm, by omega, h⟩
theorem zlz (E : Int) : ∀ (f : Nat) (X : Pr) (d : Nat) (l : List Tk) (t : List Nd) (r : List Tk), fitS X -> G E f X d l = .ok t r -> slim t /\ t.length + eats X + 2 * r.length <= base X + 2 * l.length := by
 intro f
 induction f with
 | zero => intro X d l t r _ h; cases h
 | succ f ih =>
  intro X d l t r hX h
  cases X with
  | expr =>
   rw [G] at h
   split at h
   ·cases h
   split at h
   ·rename_i _ hw
    have h0 := za4 hw
    obtain ⟨x, l1, h1, h⟩ := zbx h
    obtain ⟨h2, h⟩ := zap h
    obtain ⟨a, l3, ha, h⟩ := zaw h
    obtain ⟨oa, h3⟩ := ih .expr _ _ _ _ trivial ha
    cases h
    simp only [eats, base, jl1, Nat.zero_add] at h3 ⊢
    exact ⟨slim1 (Nat.zero_le _) oa, by omega⟩
   split at h
   ·rename_i _ _ hw
    have h0 := za4 hw
    split at h
    ·rename_i hr
     have h0' := za4 hr
     obtain ⟨x, l1, h1, h⟩ := zbx h
     obtain ⟨h2, h⟩ := zap h
     obtain ⟨a, l3, ha, h⟩ := zaw h
     obtain ⟨oa, h3⟩ := ih .expr _ _ _ _ trivial ha
     split at h
     ·obtain ⟨h4, h⟩ := zap h
      obtain ⟨b, l5, hb, h⟩ := zaw h
      obtain ⟨ob, h5⟩ := ih .expr _ _ _ _ trivial hb
      cases h
      simp only [eats, base, jl2, Nat.zero_add] at h3 h5 ⊢
      exact ⟨slim2 (Nat.zero_le _) oa ob, by omega⟩
     ·cases h
    ·obtain ⟨x, l1, h1, h⟩ := zbx h
     obtain ⟨h2, h⟩ := zap h
     obtain ⟨a, l3, ha, h⟩ := zaw h
     obtain ⟨oa, h3⟩ := ih .expr _ _ _ _ trivial ha
     obtain ⟨h4, h⟩ := zap h
     obtain ⟨b, l5, hb, h⟩ := zaw h
     obtain ⟨ob, h5⟩ := ih .expr _ _ _ _ trivial hb
     cases h
     simp only [eats, base, jl2, Nat.zero_add] at h3 h5 ⊢
     exact ⟨slim2 (Nat.zero_le _) oa ob, by omega⟩
   split at h
   ·rename_i _ _ _ hw
    have h0 := za4 hw
    obtain ⟨a, l1, ha, h⟩ := zaw h
    obtain ⟨oa, h1⟩ := ih .expr _ _ _ _ trivial ha
    obtain ⟨h2, h⟩ := zap h
    obtain ⟨b, l3, hb, h⟩ := zaw h
    obtain ⟨ob, h3⟩ := ih .expr _ _ _ _ trivial hb
    obtain ⟨h4, h⟩ := zap h
    obtain ⟨c, l5, hc, h⟩ := zaw h
    obtain ⟨oc, h5⟩ := ih .expr _ _ _ _ trivial hc
    cases h
    simp only [eats, base, jl3, Nat.zero_add] at h1 h3 h5 ⊢
    exact ⟨slim3 (Nat.zero_le _) oa ob oc, by omega⟩
   ·exact ih .cmp _ _ _ _ trivial h
  | cmp =>
   rw [G] at h
   obtain ⟨a, l1, ha, h⟩ := zaw h
   obtain ⟨oa, h1⟩ := ih .sum _ _ _ _ trivial ha
   simp only [eats, base, Nat.zero_add] at h1 ⊢
   split at h
   ·cases h; exact ⟨oa, h1⟩
   ·rename_i n hn
    have h0 := zez hn
    obtain ⟨b, l2, hb, h⟩ := zaw h
    obtain ⟨ob, h2⟩ := ih .sum _ _ _ _ trivial hb
    cases h
    simp only [eats, base, jl2, Nat.zero_add] at h2 ⊢
    exact ⟨slim2 (Nat.zero_le _) oa ob, by omega⟩
  | sum =>
   rw [G] at h
   obtain ⟨a, l1, ha, h⟩ := zaw h
   obtain ⟨oa, h1⟩ := ih .prod _ _ _ _ trivial ha
   obtain ⟨ot, h2⟩ := ih (.sumL a) _ _ _ _ oa h
   simp only [eats, base, Nat.add_zero, Nat.zero_add] at h1 h2 ⊢
   exact ⟨ot, by omega⟩
  | sumL a =>
   rw [G] at h
   have oa : slim a := hX
   split at h
   ·cases h; exact ⟨oa, lrf _⟩
   ·rename_i n hn
    have h0 := zez hn
    obtain ⟨b, l2, hb, h⟩ := zaw h
    obtain ⟨ob, h2⟩ := ih .prod _ _ _ _ trivial hb
    obtain ⟨ot, h3⟩ := ih (.sumL _) _ _ _ _ (slim2 (x := { mk 10 (plc E l) with n := n }) (Nat.zero_le _) oa ob) h
    simp only [eats, base, jl2, Nat.add_zero, Nat.zero_add] at h2 h3 ⊢
    exact ⟨ot, by omega⟩
  | prod =>
   rw [G] at h
   obtain ⟨a, l1, ha, h⟩ := zaw h
   obtain ⟨oa, h1⟩ := ih .app _ _ _ _ trivial ha
   obtain ⟨ot, h2⟩ := ih (.prodL a) _ _ _ _ oa h
   simp only [eats, base, Nat.add_zero, Nat.zero_add] at h1 h2 ⊢
   exact ⟨ot, by omega⟩
  | prodL a =>
   rw [G] at h
   have oa : slim a := hX
   split at h
   ·cases h; exact ⟨oa, lrf _⟩
   ·rename_i n hn
    have h0 := zez hn
    obtain ⟨b, l2, hb, h⟩ := zaw h
    obtain ⟨ob, h2⟩ := ih .app _ _ _ _ trivial hb
    obtain ⟨ot, h3⟩ := ih (.prodL _) _ _ _ _ (slim2 (x := { mk 10 (plc E l) with n := n }) (Nat.zero_le _) oa ob) h
    simp only [eats, base, jl2, Nat.add_zero, Nat.zero_add] at h2 h3 ⊢
    exact ⟨ot, by omega⟩
  | app =>
   rw [G] at h
   split at h
   ·obtain ⟨x, l1, h1, h⟩ := zbx h
    obtain ⟨a, l2, ha, h⟩ := zaw h
    obtain ⟨oa, h2⟩ := ih .post _ _ _ _ trivial ha
    cases h
    simp only [eats, base, jl1, Nat.zero_add] at h2 ⊢
    exact ⟨slim1 (Nat.zero_le _) oa, by omega⟩
   ·obtain ⟨a, l1, ha, h⟩ := zaw h
    obtain ⟨oa, h1⟩ := ih .post _ _ _ _ trivial ha
    obtain ⟨ot, h2⟩ := ih (.appL a) _ _ _ _ oa h
    simp only [eats, base, Nat.add_zero, Nat.zero_add] at h1 h2 ⊢
    exact ⟨ot, by omega⟩
  | appL a =>
   rw [G] at h
   have oa : slim a := hX
   split at h
   ·obtain ⟨b, l1, hb, h⟩ := zaw h
    obtain ⟨ob, h1⟩ := ih .post _ _ _ _ trivial hb
    obtain ⟨ot, h2⟩ := ih (.appL _) _ _ _ _ (slim2 (x := mk 6 (lastP a)) (Nat.zero_le _) oa ob) h
    simp only [eats, base, jl2, Nat.add_zero, Nat.zero_add] at h1 h2 ⊢
    exact ⟨ot, by omega⟩
   ·cases h; exact ⟨oa, lrf _⟩
  | post =>
   rw [G] at h
   obtain ⟨a, l1, ha, h⟩ := zaw h
   obtain ⟨oa, h1⟩ := ih .atom _ _ _ _ trivial ha
   obtain ⟨ot, h2⟩ := ih (.postL a) _ _ _ _ oa h
   simp only [eats, base, Nat.add_zero, Nat.zero_add] at h1 h2 ⊢
   exact ⟨ot, by omega⟩
  | postL a =>
   rw [G] at h
   have oa : slim a := hX
   split at h
   ·rename_i hw
    have h0 := za4 hw
    obtain ⟨x, l1, h1, h⟩ := zbx h
    obtain ⟨ot, h2⟩ := ih (.postL _) _ _ _ _ (slim1 (x := { mk 12 (plc E l) with nm := x }) (Nat.zero_le _) oa) h
    simp only [eats, base, jl1, Nat.add_zero] at h2 ⊢
    exact ⟨ot, by omega⟩
   ·cases h; exact ⟨oa, lrf _⟩
  | atom =>
   cases l with
   | nil => rw [G] at h; cases h
   | cons y m =>
    rw [G] at h
    simp only [eats, base, List.length_cons, Nat.zero_add]
    split at h
    ·cases h; exact ⟨slim0 (Nat.zero_le _), by rw [jl0]; omega⟩
    split at h
    ·cases h; exact ⟨slim0 (Nat.zero_le _), by rw [jl0]; omega⟩
    split at h
    ·cases h; exact ⟨slim0 (Nat.zero_le _), by rw [jl0]; omega⟩
    split at h
    ·cases h; exact ⟨slim0 (Nat.zero_le _), by rw [jl0]; omega⟩
    split at h
    ·cases h; exact ⟨slim0 (Nat.zero_le _), by rw [jl0]; omega⟩
    split at h
    ·obtain ⟨a, l1, ha, h⟩ := zaw h
     obtain ⟨oa, h1⟩ := ih .expr _ _ _ _ trivial ha
     obtain ⟨h2, h⟩ := zap h
     cases h
     simp only [eats, base, Nat.zero_add] at h1
     exact ⟨oa, by omega⟩
    split at h
    ·split at h
     ·rename_i hr
      have h0 := za4 hr
      cases h
      exact ⟨slim0 (Nat.zero_le _), by rw [jl0]; omega⟩
     ·obtain ⟨ot, h1⟩ := ih (.recL _ _ _) _ _ _ _ (by intro e he; cases he) h
      simp only [eats, base, List.map_nil, List.sum_nil, Nat.zero_add] at h1
      exact ⟨ot, by omega⟩
    split at h
    ·obtain ⟨a, l1, ha, h⟩ := zaw h
     obtain ⟨oa, h1⟩ := ih .expr _ _ _ _ trivial ha
     obtain ⟨h2, h⟩ := zap h
     obtain ⟨ot, h3⟩ := ih (.casL _ _ _) _ _ _ _ (by intro e he; rw [List.mem_singleton] at he; exact he ▸ oa) h
     simp only [eats, base, List.map_cons, List.map_nil, List.sum_cons, List.sum_nil, Nat.add_zero, Nat.zero_add] at h1 h3
     exact ⟨ot, by omega⟩
    ·cases h
  | recL p fs ts =>
   rw [G] at h
   have ho : ∀ e ∈ ts, slim e := hX
   obtain ⟨x, l1, h1, hf, h⟩ := zg9 h
   obtain ⟨h2, h⟩ := zap h
   obtain ⟨a, l3, ha, h⟩ := zaw h
   obtain ⟨oa, h3⟩ := ih .expr _ _ _ _ trivial ha
   have ho' : ∀ e ∈ ts ++ [a], slim e := fun e he => by
    rw [List.mem_append, List.mem_singleton] at he
    rcases he with he | rfl
    ·exact ho e he
    ·exact oa
   split at h
   ·rename_i hw
    have h0 := za4 hw
    obtain ⟨ot, h4⟩ := ih (.recL _ _ _) _ _ _ _ ho' h
    simp only [eats, base, List.map_append, List.sum_append, List.map_cons, List.map_nil, List.sum_cons, List.sum_nil, Nat.add_zero, Nat.zero_add] at h3 h4 ⊢
    exact ⟨ot, by omega⟩
   ·obtain ⟨h4, h⟩ := zap h
    cases h
    simp only [eats, base, Nat.zero_add] at h3 ⊢
    exact ⟨slimN ho' (by simp only [List.length_append, List.length_singleton]; omega), by simp only [jlN, List.map_append, List.sum_append, List.map_cons, List.map_nil, List.sum_cons, List.sum_nil]; omega⟩
  | casL p fs ts =>
   rw [G] at h
   have ho : ∀ e ∈ ts, slim e := hX
   obtain ⟨x, l1, h1, hf, h⟩ := zg9 h
   obtain ⟨v, l2, h1', h⟩ := zbx h
   obtain ⟨h2, h⟩ := zap h
   obtain ⟨a, l3, ha, h⟩ := zaw h
   obtain ⟨oa, h3⟩ := ih .expr _ _ _ _ trivial ha
   have ho' : ∀ e ∈ ts ++ [a], slim e := fun e he => by
    rw [List.mem_append, List.mem_singleton] at he
    rcases he with he | rfl
    ·exact ho e he
    ·exact oa
   split at h
   ·rename_i hw
    have h0 := za4 hw
    obtain ⟨ot, h4⟩ := ih (.casL _ _ _) _ _ _ _ ho' h
    simp only [eats, base, List.map_append, List.sum_append, List.map_cons, List.map_nil, List.sum_cons, List.sum_nil, Nat.add_zero, Nat.zero_add] at h3 h4 ⊢
    exact ⟨ot, by omega⟩
   ·obtain ⟨h4, h⟩ := zap h
    cases h
    simp only [eats, base, Nat.zero_add] at h3 ⊢
    exact ⟨slimN ho' (by simp only [List.length_append, List.length_singleton]; omega), by simp only [jlN, List.map_append, List.sum_append, List.map_cons, List.map_nil, List.sum_cons, List.sum_nil]; omega⟩
def ex (E : Int) (l : List Tk) : Rs := G E (need .expr l.length) .expr 0 l
def whole (E : Int) (l : List Tk) : Rs := match ex E l with | .bad e p => .bad e p | .ok t [] => .ok t [] | .ok _ (y :: _) => .bad 5 y.p
def far (t : List Nd) : Bool := t.any fun x => decide (1048576 < x.pos)
noncomputable def told (r : Rs) : List Nd × Int × Int := match r with
 | .bad e p => ([], p, e)
 | .ok t _ => if far t = true then ([], 0, 7) else if may t = 0 then (t, 0, 0) else ([], 0, may t)
theorem z10 {E : Int} {l : List Tk} {t : List Nd} {r : List Tk} (h : ex E l = .ok t r) : inOrd t /\ slim t /\ t.length <= 2 * l.length /\ r <:+ l /\ r.length < l.length := by
 obtain ⟨h1, h2⟩ := G_ok E _ .expr _ _ _ _ trivial h
 obtain ⟨h3, h4⟩ := zlz E _ .expr _ _ _ _ trivial h
 obtain ⟨h5, _⟩ := z1a E _ .expr _ _ _ _ h
 simp only [eats, base] at h2 h4
 exact ⟨h1, h3, by omega, h5, by omega⟩
theorem zkn {E : Int} {l : List Tk} {t : List Nd} {r : List Tk} (h : ex E l = .ok t r) : inOrd t /\ slim t /\ t.length <= 2 * l.length := by
 obtain ⟨h1, h2⟩ := G_ok E _ .expr _ _ _ _ trivial h
 obtain ⟨h3, h4⟩ := zlz E _ .expr _ _ _ _ trivial h
 simp only [eats, base] at h2 h4
 exact ⟨h1, h3, by omega⟩
def lay (N e : List Nd) : List Nd := N ++ e.map (sh N.length)
theorem zae (N e : List Nd) : (lay N e).length = N.length + e.length := by simp [lay]
theorem zoh (N : List Nd) : ∀ ll : List (List Nd), ll.foldl jstep (N, []) = (N ++ (jn ll).1.map (sh N.length), (jn ll).2.map (· + (N.length : Int))) := by
 intro ll
 induction ll using snocInd with
 | h0 => simp [jn]
 | h1 ll e ih =>
  rw [List.foldl_append, ih, zfg]
  simp only [List.foldl_cons, List.foldl_nil, jstep, List.map_append, List.map_cons, List.map_nil, List.length_append, List.length_map, List.map_map, List.append_assoc]
  refine Prod.ext ?_ ?_
  ·simp only
   congr 2
   apply List.map_congr_left
   intro m _
   simp only [Function.comp]
   rw [zye, Nat.add_comm]
  ·simp only
   congr 2
   omega
theorem zey (N : List Nd) (x : Nd) (ll : List (List Nd)) (hl : ll.length = (kids x).length) : lay N (joinN x ll) = (ll.foldl jstep (N, [])).1 ++ [wk x (ll.foldl jstep (N, [])).2] := by
 have hJ : (jn ll).2.length = (kids x).length := (zf5 ll).2.trans hl
 rw [zoh, lay, joinN, List.map_append, List.map_cons, List.map_nil, <- List.append_assoc]
 congr 2
 unfold sh
 rw [zfd hJ, zgy hJ]
theorem lay0 (N : List Nd) (x : Nd) (hl : (kids x).length = 0) : lay N (joinN x []) = N ++ [wk x []] := zey N x [] hl.symm
theorem lay1 (N a : List Nd) (x : Nd) (hl : (kids x).length = 1) : lay N (joinN x [a]) = lay N a ++ [wk x [((lay N a).length : Int) - 1]] := by
 rw [zey N x [a] hl.symm, zae]; rfl
theorem lay2 (N a b : List Nd) (x : Nd) (hl : (kids x).length = 2) : lay N (joinN x [a, b]) = lay (lay N a) b ++ [wk x [((lay N a).length : Int) - 1, ((lay (lay N a) b).length : Int) - 1]] := by
 rw [zey N x [a, b] hl.symm, zae, zae, zae]
 simp only [List.foldl_cons, List.foldl_nil, jstep, List.nil_append, List.length_append, List.length_map, lay, List.cons_append]
theorem lay3 (N a b c : List Nd) (x : Nd) (hl : (kids x).length = 3) : lay N (joinN x [a, b, c]) = lay (lay (lay N a) b) c ++ [wk x [((lay N a).length : Int) - 1, ((lay (lay N a) b).length : Int) - 1, ((lay (lay (lay N a) b) c).length : Int) - 1]] := by
 rw [zey N x [a, b, c] hl.symm, zae, zae, zae, zae, zae, zae]
 simp only [List.foldl_cons, List.foldl_nil, jstep, List.nil_append, List.length_append, List.length_map, lay, List.cons_append]
def lays (N : List Nd) (ll : List (List Nd)) : List Nd × List Int := ll.foldl jstep (N, [])
theorem zf6 (N : List Nd) (ll : List (List Nd)) (e : List Nd) : lays N (ll ++ [e]) = (lay (lays N ll).1 e, (lays N ll).2 ++ [((lay (lays N ll).1 e).length : Int) - 1]) := by
 unfold lays
 rw [List.foldl_append, zae]
 rfl
theorem zlc (N : List Nd) (ll : List (List Nd)) : (lays N ll).2.length = ll.length := by
 unfold lays
 rw [zoh]
 simp only [List.length_map]
 exact (zf5 ll).2
theorem layN (N : List Nd) (x : Nd) (ll : List (List Nd)) (hl : ll.length = (kids x).length) : lay N (joinN x ll) = (lays N ll).1 ++ [wk x (lays N ll).2] := zey N x ll hl
theorem zxb {x : Nd} (h : wk x (kids x) = x) : sh 0 x = x := by
 unfold sh
 have : (kids x).map (· + ((0 : Nat) : Int)) = kids x := by
  conv => rhs; rw [<- List.map_id (kids x)]
  apply List.map_congr_left
  intro k _
  simp
 rw [this, h]
def neat (x : Nd) : Prop := wk x (kids x) = x
theorem zwq {x : Nd} {ks : List Int} (h : ks.length = (kids x).length) : neat (wk x ks) := by unfold neat; rw [zfd h, zgy h]
theorem zuo {l : List Nd} (hk : kidsOk l) : ∀ i, i < l.length -> ∀ out : List Nd, (∀ x ∈ out, neat x) -> ∀ x ∈ cp l i out, neat x := by
 intro i
 induction i using Nat.strongRecOn with
 | ind i ih =>
  intro hi out ho
  have hx : l[i]? = some (l[i]'hi) := List.getElem?_eq_getElem hi
  obtain ⟨x, hx'⟩ : ∃ x, l[i]'hi = x := ⟨_, rfl⟩
  rw [hx'] at hx
  have ha : ahead i x := fun k hk' => hk i x hx k hk'
  have key : ∀ ks : List Int, (∀ k ∈ ks, 0 <= k /\ k < (i : Int)) -> ∀ y ∈ (cps l (out, []) ks).1, neat y := by
   intro ks
   induction ks using snocInd with
   | h0 => intro _; exact ho
   | h1 ks k ih2 =>
    intro hks
    have hkk := hks k (by simp)
    rw [zdm]
    exact ih k.toNat (toNat_lt hkk) (by omega) _ (ih2 fun k' hk' => hks k' (by simp [hk']))
  have hlen : (cps l (out, []) (kids x)).2.length = (kids x).length := by rw [zly]; simp
  rw [zmm hx ha out]
  intro y hy
  rcases List.mem_append.1 hy with hy | hy
  ·exact key _ (fun k hk' => ha k hk') y hy
  ·obtain rfl := List.mem_singleton.1 hy
   exact zwq hlen
theorem zq7 {e : List Nd} (h : inOrd e) : ∀ x ∈ e, neat x := by
 obtain ⟨h1, h2, h3⟩ := h
 have hl : 0 < e.length := List.length_pos_iff.2 h1
 have := zuo h2 (e.length - 1) (by omega) [] (by simp)
 rwa [h3] at this
theorem zob {e : List Nd} (h : inOrd e) : lay [] e = e := by
 have h1 := zq7 h
 rw [lay, List.nil_append]
 conv => rhs; rw [<- List.map_id e]
 exact List.map_congr_left fun x hx => zxb (h1 x hx)
theorem zq3 {a : List Nd} {y : Nd} {m : List Nd} (h : a = m ++ [y]) : lastK a = y.kind /\ lastP a = y.pos := by subst h; simp [lastK, lastP]
theorem zkl (N : List Nd) {a : List Nd} (h : a ≠ []) : ∃ y, (lay N a)[(lay N a).length - 1]? = some y /\ y.kind = lastK a /\ y.pos = lastP a := by
 induction a using snocInd with
 | h0 => exact absurd rfl h
 | h1 m y _ =>
  obtain ⟨h1, h2⟩ := zq3 (a := m ++ [y]) rfl
  refine ⟨sh N.length y, ?_, h1.symm, h2.symm⟩
  rw [zae, lay, List.map_append, <- List.append_assoc]
  have e : N.length + (m ++ [y]).length - 1 = (N ++ m.map (sh N.length)).length := by simp
  rw [e]
  simp
end Go.Proofs.YtjakeidbajkdcaaGreatDoor.T
namespace Go.Proofs.YtjakeidbajkdcaaGreatDoor.A
open T
structure PS where
 l : List Tk
 E : Int
 dead : Bool
 err : Int
 place : Int
 N : List Nd
 d : Nat
def PS.pk (s : PS) : Tk := match s.l with | [] => ⟨0, ⟨#[]⟩, 0, s.E⟩ | t :: _ => t
def PS.nx (s : PS) : PS := { s with l := s.l.tail }
def PS.no (s : PS) (p e : Int) : PS := { s with l := [], E := 0, dead := true, err := if s.err = 0 then e else s.err, place := if s.err = 0 then p else s.place }
def PS.is (s : PS) (k : Int) (x : List UInt8) : Bool := isT k x s.l
def PS.tk (s : PS) (k : Int) (x : List UInt8) : PS := if s.is k x = true then s.nx else s
def PS.must (s : PS) (k : Int) (x : List UInt8) : PS := if s.is k x = true then s.nx else s.no s.pk.p 5
def PS.txt (s : PS) (k : Int) : ByteArray × PS := if s.pk.k = k then (s.pk.s, s.nx) else (⟨#[]⟩, s.no s.pk.p 5)
def PS.lab (s : PS) (k : Int) (fs : List Fld) : ByteArray × PS :=
 if fs.length = 30 then ((s.txt k).1, (s.txt k).2.no s.pk.p 8) else if (fs.any fun y => y.nm.toList == (s.txt k).1.toList) = true then ((s.txt k).1, (s.txt k).2.no s.pk.p 5) else s.txt k
abbrev Ans := Option (Nat × PS)
def PS.add (s : PS) (n : Nd) : Ans := if s.N.length < 1000000 then some (s.N.length, { s with N := s.N ++ [n] }) else none
def prim (x : ByteArray) : Int :=
 if x.toList = [60] then 5 else if x.toList = [61, 61] then 6 else if x.toList = [43] then 1 else if x.toList = [45] then 2 else if x.toList = [94] then 7 else if x.toList = [42] then 3 else if x.toList = [47] then 4 else 0
def anyOf (ops : List (List UInt8)) (s : PS) : Bool := ops.any fun o => s.is 7 o
def opP (b : PS -> Ans) (a : Nat) (s : PS) : Ans := (b s.nx).bind fun r => r.2.add { mk 10 s.pk.p with n := prim s.pk.s, a := a, b := r.1 }
def loopP (ops : List (List UInt8)) (b : PS -> Ans) : Nat -> Nat -> PS -> Ans
 | 0, _, _ => none
 | n + 1, a, s => if anyOf ops s = true then (opP b a s).bind fun r => loopP ops b n r.1 r.2 else some (a, s)
def postL : Nat -> Nat -> PS -> Ans
 | 0, _, _ => none
 | n + 1, a, s => if s.is 7 zeg = true then ((s.nx.txt 2).2.add { mk 12 s.pk.p with nm := (s.nx.txt 2).1, a := a }).bind fun r => postL n r.1 r.2 else some (a, s)
def appL (post : PS -> Ans) : Nat -> Nat -> PS -> Ans
 | 0, _, _ => none
 | n + 1, a, s => if begins s.l = true then match s.N[a]? with
  | none => none
  | some x => (post s).bind fun r => (r.2.add { mk 6 x.pos with a := a, b := r.1 }).bind fun q => appL post n q.1 q.2
  else some (a, s)
def leafN (s : PS) : Nd × PS :=
 if s.is 1 zar = true then ({ mk 2 s.pk.p with n := 1 }, s.nx) else if s.is 1 zan = true then (mk 2 s.pk.p, s.nx)
 else if s.pk.k = 4 then ({ mk 1 s.pk.p with n := s.pk.n }, s.nx) else if s.pk.k = 5 then ({ mk 3 s.pk.p with s := s.pk.s }, s.nx)
 else if s.pk.k = 2 then ({ mk 4 s.pk.p with nm := s.pk.s }, s.nx) else (mk 0 s.pk.p, s.no s.pk.p 5)
def recL (X : PS -> Ans) (p : Int) : Nat -> List Fld -> PS -> Ans
 | 0, _, _ => none
 | n + 1, fs, s => if fs.length < 1000 then (X ((s.lab 2 fs).2.must 7 zbg)).bind fun r =>
   if r.2.is 7 zb6 = true then recL X p n (fs ++ [⟨(s.lab 2 fs).1, ⟨#[]⟩, r.1⟩]) r.2.nx
   else (r.2.must 7 zbl).add { mk 11 p with l := fs ++ [⟨(s.lab 2 fs).1, ⟨#[]⟩, r.1⟩] }
  else none
def recP (X : PS -> Ans) (p : Int) (s : PS) : Ans := if s.is 7 zbl = true then s.nx.add (mk 11 p) else recL X p (s.l.length + 2) [] s
def casL (X : PS -> Ans) (p : Int) (a : Nat) : Nat -> List Fld -> PS -> Ans
 | 0, _, _ => none
 | n + 1, fs, s => if fs.length < 1000 then (X (((s.lab 3 fs).2.txt 2).2.must 7 zbc)).bind fun r =>
   if r.2.is 7 zej = true then casL X p a n (fs ++ [⟨(s.lab 3 fs).1, ((s.lab 3 fs).2.txt 2).1, r.1⟩]) r.2.nx
   else (r.2.must 1 zfq).add { mk 14 p with a := a, l := fs ++ [⟨(s.lab 3 fs).1, ((s.lab 3 fs).2.txt 2).1, r.1⟩] }
  else none
def casP (X : PS -> Ans) (p : Int) (s : PS) : Ans := (X s).bind fun r => casL X p r.1 ((r.2.must 1 w_of).l.length + 2) [] (r.2.must 1 w_of)
def atomP (X : PS -> Ans) (s : PS) : Ans :=
 if s.is 7 za3 = true then (X s.nx).bind fun r => some (r.1, r.2.must 7 zgf)
 else if s.is 7 zbb = true then recP X s.pk.p s.nx
 else if s.is 1 zbk = true then casP X s.pk.p s.nx
 else (leafN s).2.add (leafN s).1
def postP (X : PS -> Ans) (s : PS) : Ans := (atomP X s).bind fun r => postL (r.2.l.length + 1) r.1 r.2
def appP (X : PS -> Ans) (s : PS) : Ans :=
 if s.pk.k = 3 then (postP X (s.txt 3).2).bind fun r => r.2.add { mk 13 s.pk.p with nm := (s.txt 3).1, a := r.1 }
 else (postP X s).bind fun r => appL (postP X) (r.2.l.length + 1) r.1 r.2
def zfm : List (List UInt8) := [[42], [47]]
def zik : List (List UInt8) := [[43], [45], [94]]
def zpw : List (List UInt8) := [[60], [61, 61]]
def prodP (X : PS -> Ans) (s : PS) : Ans := (appP X s).bind fun r => loopP zfm (appP X) (r.2.l.length + 1) r.1 r.2
def sumP (X : PS -> Ans) (s : PS) : Ans := (prodP X s).bind fun r => loopP zik (prodP X) (r.2.l.length + 1) r.1 r.2
def cmpP (X : PS -> Ans) (s : PS) : Ans := (sumP X s).bind fun r => if anyOf zpw r.2 = true then opP (sumP X) r.1 r.2 else some r
def funP (X : PS -> Ans) (p : Int) (s : PS) : Ans := (X ((s.txt 2).2.must 7 zbc)).bind fun r => r.2.add { mk 5 p with nm := (s.txt 2).1, a := r.1 }
def bindK (X : PS -> Ans) (p k : Int) (s : PS) : Ans :=
 (X ((s.txt 2).2.must 7 zbg)).bind fun r =>
  if k = 8 then match r.2.N[r.1]? with
   | none => none
   | some x => (X ((if x.kind = 5 then r.2 else r.2.no ((s.txt 2).2.must 7 zbg).pk.p 5).must 1 w_in)).bind fun q => q.2.add { mk k p with nm := (s.txt 2).1, a := r.1, b := q.1 }
  else (X (r.2.must 1 w_in)).bind fun q => q.2.add { mk k p with nm := (s.txt 2).1, a := r.1, b := q.1 }
def bindP (X : PS -> Ans) (p : Int) (s : PS) : Ans := if s.is 1 zdw = true then bindK X p 8 s.nx else bindK X p 7 s
def ifP (X : PS -> Ans) (p : Int) (s : PS) : Ans :=
 (X s).bind fun r => (X (r.2.must 1 zdt)).bind fun q => (X (q.2.must 1 zc0)).bind fun u => u.2.add { mk 9 p with a := r.1, b := q.1, c := u.1 }
def innerP (X : PS -> Ans) (p : Int) (s : PS) : Ans :=
 if s.is 1 zb5 = true then funP X p s.nx else if s.is 1 zcf = true then bindP X p s.nx else if s.is 1 w_if = true then ifP X p s.nx else cmpP X s
def PS.deep (s : PS) : PS := { (if s.d = 100 then s.no s.pk.p 6 else s) with d := s.d + 1 }
def PS.up (s : PS) : PS := { s with d := s.d - 1 }
def exprP : Nat -> PS -> Ans
 | 0, _ => none
 | f + 1, s => if s.d < 1000 then (innerP (exprP f) s.pk.p s.deep).bind fun r => some (r.1, r.2.up) else none
open T
theorem bnd {α β : Type} {o : Option α} {f : α -> Option β} {r : β} (h : o.bind f = some r) : ∃ a, o = some a /\ f a = some r := Option.bind_eq_some_iff.1 h
def Kd (X : PS -> Ans) : Prop := ∀ s r, X s = some r -> r.2.d = s.d
theorem nx_d (s : PS) : s.nx.d = s.d := rfl
theorem zdv (s : PS) (k : Int) (x : List UInt8) : (s.must k x).d = s.d := by unfold PS.must; split <;> rfl
theorem zix (s : PS) (k : Int) : (s.txt k).2.d = s.d := by unfold PS.txt; split <;> rfl
theorem zys (s : PS) (k : Int) (fs : List Fld) : (s.lab k fs).2.d = s.d := by
 unfold PS.lab
 split
 ·exact zix s k
 ·split
  ·exact zix s k
  ·exact zix s k
theorem zfr {s : PS} {n : Nd} {r : Nat × PS} (h : s.add n = some r) : r.2.d = s.d := by
 unfold PS.add at h
 split at h
 ·cases h; rfl
 ·cases h
theorem zzo (s : PS) : (leafN s).2.d = s.d := by
 unfold leafN
 repeat' split
 all_goals rfl
theorem op_d {X : PS -> Ans} (hX : Kd X) {a : Nat} {s : PS} {r : Nat × PS} (h : opP X a s = some r) : r.2.d = s.d := by
 obtain ⟨q, h1, h2⟩ := bnd h
 exact (zfr h2).trans ((hX _ _ h1).trans (nx_d s))
theorem ztx {X : PS -> Ans} (hX : Kd X) (ops : List (List UInt8)) : ∀ n a s r, loopP ops X n a s = some r -> r.2.d = s.d := by
 intro n
 induction n with
 | zero => intro a s r h; cases h
 | succ n ih =>
  intro a s r h
  rw [loopP] at h
  split at h
  ·obtain ⟨q, h1, h2⟩ := bnd h
   exact (ih _ _ _ h2).trans (op_d hX h1)
  ·cases h; rfl
theorem zws : ∀ n a s r, postL n a s = some r -> r.2.d = s.d := by
 intro n
 induction n with
 | zero => intro a s r h; cases h
 | succ n ih =>
  intro a s r h
  rw [postL] at h
  split at h
  ·obtain ⟨q, h1, h2⟩ := bnd h
   exact (ih _ _ _ h2).trans ((zfr h1).trans ((zix _ _).trans (nx_d s)))
  ·cases h; rfl
theorem z0m {X : PS -> Ans} (hX : Kd X) : ∀ n a s r, appL X n a s = some r -> r.2.d = s.d := by
 intro n
 induction n with
 | zero => intro a s r h; cases h
 | succ n ih =>
  intro a s r h
  rw [appL] at h
  split at h
  ·split at h
   ·cases h
   ·obtain ⟨q, h1, h2⟩ := bnd h
    obtain ⟨u, h3, h4⟩ := bnd h2
    exact (ih _ _ _ h4).trans ((zfr h3).trans (hX _ _ h1))
  ·cases h; rfl
theorem zz6 {X : PS -> Ans} (hX : Kd X) (p : Int) : ∀ n fs s r, recL X p n fs s = some r -> r.2.d = s.d := by
 intro n
 induction n with
 | zero => intro fs s r h; cases h
 | succ n ih =>
  intro fs s r h
  rw [recL] at h
  split at h
  ·obtain ⟨q, h1, h2⟩ := bnd h
   have e1 : q.2.d = s.d := (hX _ _ h1).trans ((zdv _ _ _).trans (zys _ _ _))
   simp only at h2
   split at h2
   ·exact (ih _ _ _ h2).trans ((nx_d _).trans e1)
   ·exact (zfr h2).trans ((zdv _ _ _).trans e1)
  ·cases h
theorem zx5 {X : PS -> Ans} (hX : Kd X) (p : Int) (a : Nat) : ∀ n fs s r, casL X p a n fs s = some r -> r.2.d = s.d := by
 intro n
 induction n with
 | zero => intro fs s r h; cases h
 | succ n ih =>
  intro fs s r h
  rw [casL] at h
  split at h
  ·obtain ⟨q, h1, h2⟩ := bnd h
   have e1 : q.2.d = s.d := (hX _ _ h1).trans ((zdv _ _ _).trans ((zix _ _).trans (zys _ _ _)))
   simp only at h2
   split at h2
   ·exact (ih _ _ _ h2).trans ((nx_d _).trans e1)
   ·exact (zfr h2).trans ((zdv _ _ _).trans e1)
  ·cases h
theorem zy8 {X : PS -> Ans} (hX : Kd X) : Kd (atomP X) := by
 intro s r h
 unfold atomP at h
 split at h
 ·obtain ⟨q, h1, h2⟩ := bnd h
  cases h2
  exact (zdv _ _ _).trans ((hX _ _ h1).trans (nx_d s))
 split at h
 ·unfold recP at h
  split at h
  ·exact (zfr h).trans rfl
  ·exact (zz6 hX _ _ _ _ _ h).trans rfl
 split at h
 ·obtain ⟨q, h1, h2⟩ := bnd h
  exact (zx5 hX _ _ _ _ _ _ h2).trans ((zdv _ _ _).trans ((hX _ _ h1).trans (nx_d s)))
 ·exact (zfr h).trans (zzo s)
theorem zne {X : PS -> Ans} (hX : Kd X) : Kd (postP X) := by
 intro s r h
 obtain ⟨q, h1, h2⟩ := bnd h
 exact (zws _ _ _ _ h2).trans (zy8 hX _ _ h1)
theorem zyt {X : PS -> Ans} (hX : Kd X) : Kd (appP X) := by
 intro s r h
 unfold appP at h
 split at h
 ·obtain ⟨q, h1, h2⟩ := bnd h
  exact (zfr h2).trans ((zne hX _ _ h1).trans (zix _ _))
 ·obtain ⟨q, h1, h2⟩ := bnd h
  exact (z0m (zne hX) _ _ _ _ h2).trans (zne hX _ _ h1)
theorem ztu {X : PS -> Ans} (hX : Kd X) : Kd (prodP X) := by
 intro s r h
 obtain ⟨q, h1, h2⟩ := bnd h
 exact (ztx (zyt hX) _ _ _ _ _ h2).trans (zyt hX _ _ h1)
theorem zuv {X : PS -> Ans} (hX : Kd X) : Kd (sumP X) := by
 intro s r h
 obtain ⟨q, h1, h2⟩ := bnd h
 exact (ztx (ztu hX) _ _ _ _ _ h2).trans (ztu hX _ _ h1)
theorem z1g {X : PS -> Ans} (hX : Kd X) : Kd (cmpP X) := by
 intro s r h
 obtain ⟨q, h1, h2⟩ := bnd h
 split at h2
 ·exact (op_d (zuv hX) h2).trans (zuv hX _ _ h1)
 ·cases h2; exact zuv hX _ _ h1
theorem z1v {X : PS -> Ans} (hX : Kd X) (p : Int) : Kd (funP X p) := by
 intro s r h
 obtain ⟨q, h1, h2⟩ := bnd h
 exact (zfr h2).trans ((hX _ _ h1).trans ((zdv _ _ _).trans (zix _ _)))
theorem znh {X : PS -> Ans} (hX : Kd X) (p k : Int) : Kd (bindK X p k) := by
 intro s r h
 obtain ⟨q, h1, h2⟩ := bnd h
 have e1 : q.2.d = s.d := (hX _ _ h1).trans ((zdv _ _ _).trans (zix _ _))
 simp only at h2
 split at h2
 ·split at h2
  ·cases h2
  ·obtain ⟨u, h3, h4⟩ := bnd h2
   refine (zfr h4).trans ((hX _ _ h3).trans ((zdv _ _ _).trans ?_))
   split
   ·exact e1
   ·exact e1
 ·obtain ⟨u, h3, h4⟩ := bnd h2
  exact (zfr h4).trans ((hX _ _ h3).trans ((zdv _ _ _).trans e1))
theorem z0e {X : PS -> Ans} (hX : Kd X) (p : Int) : Kd (bindP X p) := by
 intro s r h
 unfold bindP at h
 split at h
 ·exact (znh hX _ _ _ _ h).trans (nx_d s)
 ·exact znh hX _ _ _ _ h
theorem if_d {X : PS -> Ans} (hX : Kd X) (p : Int) : Kd (ifP X p) := by
 intro s r h
 obtain ⟨q, h1, h2⟩ := bnd h
 obtain ⟨u, h3, h4⟩ := bnd h2
 obtain ⟨t, h5, h6⟩ := bnd h4
 exact (zfr h6).trans ((hX _ _ h5).trans ((zdv _ _ _).trans ((hX _ _ h3).trans ((zdv _ _ _).trans (hX _ _ h1)))))
theorem zp1 {X : PS -> Ans} (hX : Kd X) (p : Int) : Kd (innerP X p) := by
 intro s r h
 unfold innerP at h
 split at h
 ·exact (z1v hX _ _ _ h).trans (nx_d s)
 split at h
 ·exact (z0e hX _ _ _ h).trans (nx_d s)
 split at h
 ·exact (if_d hX _ _ _ h).trans (nx_d s)
 ·exact z1g hX _ _ h
theorem zx7 (s : PS) : s.deep.d = s.d + 1 := rfl
theorem zgb : ∀ f, Kd (exprP f) := by
 intro f
 induction f with
 | zero => intro s r h; cases h
 | succ f ih =>
  intro s r h
  rw [exprP] at h
  split at h
  ·obtain ⟨q, h1, h2⟩ := bnd h
   cases h2
   have := zp1 ih _ _ _ h1
   rw [zx7] at this
   show q.2.d - 1 = s.d
   omega
  ·cases h
open T Go.RowKit
structure Fr (S : Nat -> Prop) (w w' : World) : Prop where
 os : w'.os = w.os
 tape : w'.tape = w.tape
 output : w'.output = w.output
 size : w.heap.size <= w'.heap.size
 block : ∀ k, k < w.heap.size -> ¬ S k -> w'.heap[k]? = w.heap[k]?
theorem Fr.refl (S : Nat -> Prop) (w : World) : Fr S w w := ⟨rfl, rfl, rfl, lrf _, fun _ _ _ => rfl⟩
theorem Fr.trans {S : Nat -> Prop} {a b c : World} (h : Fr S a b) (k : Fr S b c) : Fr S a c :=
 ⟨k.os.trans h.os, k.tape.trans h.tape, k.output.trans h.output, ltr h.size k.size, fun i hi hs => (k.block i (lltl hi h.size) hs).trans (h.block i hi hs)⟩
theorem Fr.of_below {S : Nat -> Prop} {w w' : World} (h : Below w.heap.size w w') : Fr S w w' := ⟨h.os, h.tape, h.output, h.size, fun k hk _ => h.block k hk⟩
theorem Fr.alloc {S : Nat -> Prop} (w : World) (o : Obj) : Fr S w (w.alloc o) := Fr.of_below (baw w o)
theorem Fr.mono {S T : Nat -> Prop} {w w' : World} (h : Fr S w w') (hs : ∀ k, S k -> T k) : Fr T w w' := ⟨h.os, h.tape, h.output, h.size, fun k hk ht => h.block k hk fun hh => ht (hs k hh)⟩
theorem Fr.set {S : Nat -> Prop} {w0 w : World} (h : Fr S w0 w) {b j : Nat} (v : Value) (hb : S b ∨ w0.heap.size <= b) : Fr S w0 (w.setCell ⟨b, j, none⟩ v) :=
 ⟨h.os, h.tape, h.output, by simpa using h.size, fun k hk hs => (zaf w b j k v (by rintro rfl; rcases hb with hb | hb; exact hs hb; omega)).trans (h.block k hk hs)⟩
theorem Fr.below {B : Nat} {S : Nat -> Prop} {w w' : World} (h : Fr S w w') (hs : ∀ k, S k -> B <= k) (hB : B <= w.heap.size) : Below B w w' :=
 ⟨h.os, h.tape, h.output, h.size, fun k hk => h.block k (by omega) fun hh => by have := hs k hh; omega⟩
def nbk (w : World) (rb : Nat) : Option Nat := match w.cell? ⟨rb, 1, none⟩ with | some v => v.ownBlock | none => none
structure Kpt (rb b : Nat) (w w' : World) : Prop where
 fr : Fr (fun k => k = rb ∨ k = b ∨ nbk w rb = some k) w w'
 nb : nbk w' rb = nbk w rb ∨ ∃ g, nbk w' rb = some g /\ w.heap.size <= g
theorem zc4 {w w' : World} {rb : Nat} (h : w'.heap[rb]? = w.heap[rb]?) : nbk w' rb = nbk w rb := by
 unfold nbk; rw [World.cell?_of_block (a := ⟨rb, 1, none⟩) h]
theorem Kpt.refl (rb b : Nat) (w : World) : Kpt rb b w w := ⟨Fr.refl _ _, .inl rfl⟩
theorem Kpt.trans {rb b : Nat} {u v w : World} (h : Kpt rb b u v) (k : Kpt rb b v w) : Kpt rb b u w := by
 refine ⟨⟨k.fr.os.trans h.fr.os, k.fr.tape.trans h.fr.tape, k.fr.output.trans h.fr.output, ltr h.fr.size k.fr.size, fun i hi hs => ?_⟩, ?_⟩
 ·have h1 := h.fr.block i hi hs
  refine (k.fr.block i (lltl hi h.fr.size) fun hh => hs ?_).trans h1
  rcases hh with hh | hh | hh
  ·exact .inl hh
  ·exact .inr (.inl hh)
  ·rcases h.nb with e | ⟨g, e, hg⟩
   ·exact .inr (.inr (e ▸ hh))
   ·rw [hh] at e; cases e; omega
 ·rcases k.nb with e | ⟨g, e, hg⟩
  ·rcases h.nb with e2 | ⟨g, e2, hg⟩
   ·exact .inl (e.trans e2)
   ·exact .inr ⟨g, e.trans e2, hg⟩
  ·exact .inr ⟨g, e, ltr h.fr.size hg⟩
theorem Kpt.of_below {rb b : Nat} {w w' : World} (hr : rb < w.heap.size) (h : Below w.heap.size w w') : Kpt rb b w w' := ⟨Fr.of_below h, .inl (zc4 (h.block rb hr))⟩
theorem Kpt.alloc {rb b : Nat} {u w : World} (h : Kpt rb b u w) (hr : rb < w.heap.size) (o : Obj) : Kpt rb b u (w.alloc o) := h.trans (Kpt.of_below hr (baw w o))
theorem Kpt.drew {rb b : Nat} {u w : World} (h : Kpt rb b u w) : Kpt rb b u w.drew := h.trans ⟨⟨rfl, rfl, rfl, lrf _, fun _ _ _ => rfl⟩, .inl rfl⟩
theorem Kpt.set {rb b : Nat} {u w : World} (h : Kpt rb b u w) {k j : Nat} (v : Value) (hk : u.heap.size <= k) (hr : rb < u.heap.size) : Kpt rb b u (w.setCell ⟨k, j, none⟩ v) :=
 ⟨h.fr.set v (.inr hk), by rw [zc4 (zaf w k j rb v (by omega))]; exact h.nb⟩
def Loc (rb b : Nat) (w : World) (k : Nat) (cs : Array Value) (t : TypeId) : Prop := w.heap[k]? = some (.cells cs t (0, 0)) /\ k ≠ rb /\ k ≠ b /\ nbk w rb ≠ some k
theorem Loc.kpt {rb b k : Nat} {w w' : World} {cs : Array Value} {t : TypeId} (h : Loc rb b w k cs t) (hk : Kpt rb b w w') : Loc rb b w' k cs t := by
 obtain ⟨h1, h2, h3, h4⟩ := h
 have hlt := (age.1 h1).1
 refine ⟨(hk.fr.block k hlt fun hh => ?_).trans h1, h2, h3, fun e => ?_⟩
 ·rcases hh with hh | hh | hh
  ·exact h2 hh
  ·exact h3 hh
  ·exact h4 hh
 ·rcases hk.nb with e2 | ⟨g, e2, hg⟩
  ·exact h4 (e2 ▸ e)
  ·rw [e] at e2; cases e2; omega
theorem Loc.set {rb b k j : Nat} {w : World} {cs : Array Value} {t : TypeId} (h : Loc rb b w k cs t) (v : Value) : Loc rb b (w.setCell ⟨k, j, none⟩ v) k (cs.setIfInBounds j v) t :=
 ⟨zaq h.1, h.2.1, h.2.2.1, by rw [zc4 (zaf w k j rb v (Ne.symm h.2.1))]; exact h.2.2.2⟩
theorem Loc.far {rb b k m j : Nat} {w : World} {cs : Array Value} {t : TypeId} (h : Loc rb b w k cs t) (v : Value) (hm : m ≠ k) (hr : m ≠ rb) : Loc rb b (w.setCell ⟨m, j, none⟩ v) k cs t :=
 ⟨(zaf w m j k v (Ne.symm hm)).trans h.1, h.2.1, h.2.2.1, by rw [zc4 (zaf w m j rb v (Ne.symm hr))]; exact h.2.2.2⟩
theorem Loc.lt {rb b k : Nat} {w : World} {cs : Array Value} {t : TypeId} (h : Loc rb b w k cs t) : k < w.heap.size := (age.1 h.1).1
theorem Loc.cell {rb b k : Nat} {w : World} {cs : Array Value} {t : TypeId} (h : Loc rb b w k cs t) (j : Nat) : w.cell? ⟨k, j, none⟩ = cs[j]? := zaa h.1 j
theorem Loc.frozen {rb b k : Nat} {w : World} {cs : Array Value} {t : TypeId} (h : Loc rb b w k cs t) (j : Nat) : w.frozen? ⟨k, j, none⟩ = false := zac h.1 j
def TkRow (w : World) (g o : Nat) (l : List Tk) : Prop := ∀ j t, l[j]? = some t ->
 w.cell? ⟨g, o + j * 4, none⟩ = some (.int .i64 t.k) /\ w.cell? ⟨g, o + j * 4 + 1, none⟩ = some (.string t.s) /\ w.cell? ⟨g, o + j * 4 + 2, none⟩ = some (.int .i64 t.n) /\ w.cell? ⟨g, o + j * 4 + 3, none⟩ = some (.int .i64 t.p)
theorem TkRow.heap {w w' : World} {g o : Nat} {l : List Tk} (h : TkRow w g o l) (he : w'.heap[g]? = w.heap[g]?) : TkRow w' g o l := fun j t hj => by
 obtain ⟨h0, h1, h2, h3⟩ := h j t hj
 have e : ∀ k, w'.cell? ⟨g, k, none⟩ = w.cell? ⟨g, k, none⟩ := fun k => World.cell?_of_block (a := ⟨g, k, none⟩) he
 exact ⟨(e _).trans h0, (e _).trans h1, (e _).trans h2, (e _).trans h3⟩
theorem TkRow.tail {w : World} {g o : Nat} {t : Tk} {l : List Tk} (h : TkRow w g o (t :: l)) : TkRow w g (o + 4) l := fun j t' hj => by
 have := h (j + 1) t' (by simpa using hj)
 rw [show o + (j + 1) * 4 = o + 4 + j * 4 by omega] at this
 exact this
def Rdr (B rb b : Nat) (w : World) (p : Option Addr) (l : List Tk) (E : Int) (dead : Bool) : Prop :=
 (dead = true /\ p = none /\ l = [] /\ E = 0) ∨
 (dead = false /\ p = some ⟨b, 0, none⟩ /\ ∃ A c, w.heap[b]? = some (.cells #[.slice A l.length c, .int .i64 E] 82 (0, 0)) /\ l.length <= c /\ (l.length <= 1000000 /\ ∀ t ∈ l, t.s.size <= 281474976710656) /\ (l ≠ [] -> ∃ g o, A = some ⟨g, o, none⟩ /\ g < B /\ g ≠ rb /\ g ≠ b /\ TkRow w g o l))
theorem Rdr.heap {B rb b : Nat} {w w' : World} {p : Option Addr} {l : List Tk} {E : Int} {dead : Bool} (h : Rdr B rb b w p l E dead) (hb : w'.heap[b]? = w.heap[b]?) (hg : ∀ g, g < B -> g ≠ rb -> g ≠ b -> w'.heap[g]? = w.heap[g]?) : Rdr B rb b w' p l E dead := by
 rcases h with h | ⟨h1, h2, A, c, h3, h4, h5, h6⟩
 ·exact .inl h
 ·refine .inr ⟨h1, h2, A, c, hb.trans h3, h4, h5, fun h0 => ?_⟩
  obtain ⟨g, o, e, g1, g2, g3, hr⟩ := h6 h0
  exact ⟨g, o, e, g1, g2, g3, hr.heap (hg g g1 g2 g3)⟩
def OwnA (Av : Nat -> Prop) (B : Nat) (w : World) (v : Value) (ps : List (Nd × Value)) : Prop := OwnN B w v ps /\ ∀ x ∈ ps, ∀ g, x.2.ownBlock = some g -> ¬ Av g
structure St (Av : Nat -> Prop) (B rb b : Nat) (w : World) (s : PS) : Prop where
 av : ∀ g, Av g -> g < w.heap.size
 hrb : rb < B
 hb : b < B
 hB : B <= w.heap.size
 ne : rb ≠ b
 at_ : ∃ p v ps, w.heap[rb]? = some (.cells #[.pointer p, v, .int .i64 s.d, .int .i64 s.err, .int .i64 s.place] 51 (0, 0)) /\ Rdr B rb b w p s.l s.E s.dead /\ ps.map Prod.fst = s.N /\ OwnA Av B w v ps
section
variable {Av : Nat -> Prop} {B rb b : Nat} {w w' : World} {s : PS}
theorem St.nbB (h : St Av B rb b w s) : ∀ g, nbk w rb = some g -> B <= g /\ ∃ cur, w.heap[g]? = some (.cells cur 37 (0, 0)) := by
 obtain ⟨p, v, ps, h1, h2, h3, h4⟩ := h.at_
 intro g hg
 have e : nbk w rb = v.ownBlock := by unfold nbk; rw [zaa h1 1]; rfl
 rw [e] at hg
 exact own27 h4.1.1 g hg
theorem St.heap (h : St Av B rb b w s) (hs : w.heap.size <= w'.heap.size) (hr : w'.heap[rb]? = w.heap[rb]?) (hb : w'.heap[b]? = w.heap[b]?) (hl : ∀ g, g < B -> g ≠ rb -> g ≠ b -> w'.heap[g]? = w.heap[g]?)
  (hn : ∀ g cs t, B <= g -> w.heap[g]? = some (.cells cs t (0, 0)) -> (t = 97 /\ ¬ Av g) ∨ nbk w rb = some g -> w'.heap[g]? = w.heap[g]?) : St Av B rb b w' s := by
 obtain ⟨p, v, ps, h1, h2, h3, h4⟩ := h.at_
 have e : nbk w rb = v.ownBlock := by unfold nbk; rw [zaa h1 1]; rfl
 refine ⟨fun g hg => lltl (h.av g hg) hs, h.hrb, h.hb, ltr h.hB hs, h.ne, p, v, ps, hr.trans h1, h2.heap hb hl, h3, ⟨⟨h4.1.1.1, ?_⟩, fun x hx => ⟨(h4.1.2 x hx).1, ?_⟩⟩, h4.2⟩
 ·rcases h4.1.1.2 with h0 | ⟨g, cap, cur, e1, e2, e3, e4⟩
  ·exact .inl h0
  ·exact .inr ⟨g, cap, cur, e1, e2, (hn g _ _ e2 e3 (.inr (by rw [e, e1]; rfl))).trans e3, e4⟩
 ·rcases (h4.1.2 x hx).2 with h0 | ⟨g, cap, cur, e1, e2, e3, e4⟩
  ·exact .inl h0
  ·exact .inr ⟨g, cap, cur, e1, e2, (hn g _ _ e2 e3 (.inl ⟨rfl, h4.2 x hx g (by rw [e1]; rfl)⟩)).trans e3, e4⟩
theorem St.below (h : St Av B rb b w s) (hb : Below w.heap.size w w') : St Av B rb b w' s :=
 h.heap hb.size (hb.block _ (lltl h.hrb h.hB)) (hb.block _ (lltl h.hb h.hB)) (fun g hg _ _ => hb.block g (lltl hg h.hB)) fun g _cs _t _ hg _ => hb.block g (age.1 hg).1
theorem St.alloc (h : St Av B rb b w s) (o : Obj) : St Av B rb b (w.alloc o) s := h.below (baw w o)
theorem St.drew (h : St Av B rb b w s) : St Av B rb b w.drew s := h.below (br _ w).drew
theorem St.loc {k j : Nat} {cs : Array Value} {t : TypeId} (h : St Av B rb b w s) (hl : Loc rb b w k cs t) (ht : t ≠ 97) (hk : B <= k) (v : Value) : St Av B rb b (w.setCell ⟨k, j, none⟩ v) s := by
 have hb := h.hb
 refine h.heap (by simp) (zaf _ _ _ _ _ (Ne.symm hl.2.1)) (zaf _ _ _ _ _ (Ne.symm hl.2.2.1)) (fun g hg _ _ => zaf _ _ _ _ _ (by omega)) fun g cs' t' hg hg' ht' => zaf _ _ _ _ _ ?_
 rintro rfl
 rcases ht' with ⟨rfl, _⟩ | h0
 ·rw [hl.1] at hg'; injection hg' with e; injection e with _ e _; exact ht e
 ·exact hl.2.2.2 h0
theorem St.rlt (h : St Av B rb b w s) : rb < w.heap.size := lltl h.hrb h.hB
theorem St.blt (h : St Av B rb b w s) : b < w.heap.size := lltl h.hb h.hB
theorem Loc.new (h : St Av B rb b w s) (cs : Array Value) (t : TypeId) : Loc rb b (w.alloc (.cells cs t)) w.heap.size cs t := by
 have h1 := h.rlt
 have h2 := h.blt
 refine ⟨anw w _, by omega, by omega, fun e => ?_⟩
 rw [zc4 (Below.heap_alloc _ _ _ h1)] at e
 obtain ⟨_, cur, hc⟩ := h.nbB _ e
 have := (age.1 hc).1
 omega
theorem Loc.alloc {k : Nat} {cs : Array Value} {t : TypeId} (h : Loc rb b w k cs t) (hr : rb < w.heap.size) (o : Obj) : Loc rb b (w.alloc o) k cs t := h.kpt ((Kpt.refl rb b w).alloc hr o)
theorem Loc.drew {k : Nat} {cs : Array Value} {t : TypeId} (h : Loc rb b w k cs t) : Loc rb b w.drew k cs t := h.kpt (Kpt.refl rb b w).drew
theorem St.cells (h : St Av B rb b w s) : ∃ p v, Rdr B rb b w p s.l s.E s.dead /\ w.cell? ⟨rb, 0, none⟩ = some (.pointer p) /\ w.cell? ⟨rb, 1, none⟩ = some v /\ w.cell? ⟨rb, 2, none⟩ = some (.int .i64 s.d) /\ w.cell? ⟨rb, 3, none⟩ = some (.int .i64 s.err) /\ w.cell? ⟨rb, 4, none⟩ = some (.int .i64 s.place) /\ ∀ j, w.frozen? ⟨rb, j, none⟩ = false := by
 obtain ⟨p, v, ps, h1, h2, _⟩ := h.at_
 exact ⟨p, v, h2, zaa h1 0, zaa h1 1, zaa h1 2, zaa h1 3, zaa h1 4, fun j => zac h1 j⟩
end
def APost (Av : Nat -> Prop) (B rb b : Nat) (w : World) (a : Nat) (s' : PS) (e : Ending) (w' : World) : Prop := e = .returned (.int .i64 (a : Int)) /\ St Av B rb b w' s' /\ Kpt rb b w w'
def VPost (Av : Nat -> Prop) (B rb b : Nat) (w : World) (s' : PS) (e : Ending) (w' : World) : Prop := e = .returned (.tuple #[]) /\ St Av B rb b w' s' /\ Kpt rb b w w'
def BPost (Av : Nat -> Prop) (B rb b : Nat) (w : World) (x : Bool) (s' : PS) (e : Ending) (w' : World) : Prop := e = .returned (.bool x) /\ St Av B rb b w' s' /\ Kpt rb b w w'
def SPost (Av : Nat -> Prop) (B rb b : Nat) (w : World) (x : ByteArray) (s' : PS) (e : Ending) (w' : World) : Prop := e = .returned (.string x) /\ St Av B rb b w' s' /\ Kpt rb b w w'
end Go.Proofs.YtjakeidbajkdcaaGreatDoor.A
namespace Go.Proofs.YtjakeidbajkdcaaGreatDoor.T
open Go.RowKit Go.Shelf
def RSt (N : List Nd) (J : List Int) (cx : Array Value) (w W : World) (v u : Value) (q : Nat) : Prop :=
 (∃ ps, ps.map Prod.fst = N /\ OwnN (w.heap.size + 2) W v ps) /\ W.ownsRow (w.heap.size + 2) 3 1 u q (J.map (Value.int .i64)) /\ W.heap[w.heap.size]? = some (.cells cx 37 (0, 0)) /\ W.heap[w.heap.size + 1]? = some (.cells #[.slice none 0 0] 25 (0, 0)) /\ Below w.heap.size w W
section
variable {N : List Nd} {J : List Int} {cx : Array Value} {w W W' : World} {v v2 u u2 : Value} {q : Nat}
theorem RSt.size (h : RSt N J cx w W v u q) : w.heap.size + 2 <= W.heap.size := (age.1 h.2.2.2.1).1
theorem RSt.next (h : RSt N J cx w W v u q) (hb : Below W.heap.size W W') : RSt N J cx w W' v u q := by
 have hs := h.size
 obtain ⟨⟨ps, a0, a1⟩, a2, a3, a4, a6⟩ := h
 have hg := zb1 hb
 exact ⟨⟨ps, a0, zbf a1 hg⟩, a2.kept hg (zed _), zdn a3 hb, zdn a4 hb, zfa a6 hb (lrf _)⟩
theorem RSt.root (h : RSt N J cx w W v u q) {z : Int} {o : Obj} (h1 : W'.ownsRow (w.heap.size + 2) 3 1 u2 (q + 1) (J.map (Value.int .i64) ++ [.int .i64 z])) (h2 : (W.alloc o).grownBy W' u.ownBlock) : RSt N (J ++ [z]) cx w W' v u2 (q + 1) := by
 have hs := h.size
 obtain ⟨⟨ps, a0, a1⟩, a2, a3, a4, a6⟩ := h
 have hu := a2.lt
 have hsz := h2.size
 simp only [World.size_alloc] at hsz
 have hbl : ∀ k, k < w.heap.size + 2 -> W'.heap[k]? = W.heap[k]? := fun k hk => (h2.block k (by simp; omega) (fun e => by have := (hu k e.symm).1; omega)).trans (Below.heap_alloc _ _ _ (by omega))
 exact ⟨⟨ps, a0, zg3 (zbf a1 (zec W o)) (a2.alloc o) h2⟩, by rw [List.map_append]; exact h1, (hbl _ (by omega)).trans a3, (hbl _ (by omega)).trans a4,
  ⟨h2.os.trans a6.os, h2.tape.trans a6.tape, h2.output.trans a6.output, by have := a6.size; omega, fun k hk => (hbl k (by omega)).trans (a6.block k hk)⟩⟩
theorem RSt.node (h : RSt N J cx w W v u q) {ps : List (Nd × Value)} {y : Nd} {vy : Value} {n : Nat} {o : Obj} {W5 W8 : World} (hp : ps.map Prod.fst = N) (ho : OwnN (w.heap.size + 2) W v ps) (hn : ps.length = n) (hf : OwnF W.heap.size W5 vy y.l) (hb : Below W.heap.size W W5)
  (h7 : W8.ownsRow (w.heap.size + 2) 37 9 v2 (n + 1) (nCells ps ++ (ndArr y vy).toList)) (hg : (W5.alloc o).grownBy W8 v.ownBlock) : RSt (N ++ [y]) J cx w W8 v2 u q := by
 have hs := h.size
 have h5 := h.next hb
 obtain ⟨_, a2, a3, a4, a6⟩ := h5
 have h6 := zbf (zbf ho (zb1 hb)) (zec W5 o)
 have hv := h6.1.lt
 have hsz := hg.size
 simp only [World.size_alloc] at hsz
 have hs5 := hb.size
 have hbl : ∀ k, k < w.heap.size + 2 -> W8.heap[k]? = W5.heap[k]? := fun k hk => (hg.block k (by simp; omega) (fun e => by have := (hv k e.symm).1; omega)).trans (Below.heap_alloc _ _ _ (by omega))
 have k7 : Kp (w.heap.size + 2) (W5.alloc o) W8 := Kp.grown h6.1 (lrf _) (by simp; omega) hg
 subst hn
 refine ⟨⟨ps ++ [(y, vy)], by rw [List.map_append, hp]; rfl, by rw [zgj, List.length_append]; exact h7, fun x hx => ?_⟩, zm9 (a2.alloc o) (by decide) k7, (hbl _ (by omega)).trans a3, (hbl _ (by omega)).trans a4, ⟨hg.os.trans a6.os, hg.tape.trans a6.tape, hg.output.trans a6.output, by have := a6.size; omega, fun k hk => (hbl k (by omega)).trans (a6.block k hk)⟩⟩
 rcases List.mem_append.1 hx with hx | hx
 ·exact zm9 (h6.2 x hx) (by decide) k7
 ·obtain rfl : x = (y, vy) := by simpa using hx
  exact zbi (zm9 (World.ownsRow.alloc hf o) (by decide) k7) (by omega)
end
theorem rownR {B n : Nat} {W : World} {v : Value} {ps : List (Nd × Value)} (h : OwnN B W v ps) (hn : ps.length = n) (o : Obj) : (W.alloc o).ownsRow B 37 9 v n (nCells ps) := by subst hn; exact h.1.alloc o
theorem res28 (tmps : Array Value) (W : World) (p : Nat) (A : Option Addr) (n c : Nat) (h2 : tmps[4]?.getD undef = .pointer (some ⟨p, 0, none⟩)) (hb : W.cell? ⟨p, 0, none⟩ = some (.slice A n c)) :
  Sem.run Tryz.prog (results Tryz.f136 tmps) W = .ok (.agg #[.slice A n c]) W := by
 simp [results, Tryz.results136, go_sem, h2, hb]
theorem zqq {N N0 : List Nd} {y : Nd} {J : List Int} {cx : Array Value} {w W : World} {u : Value} {q f g8 c8 : Nat} {tmps : Array Value} (h : RSt (N0 ++ [y]) J cx w W (.slice (some ⟨g8, 0, none⟩) (f + 1) c8) u q) (hN : N = N0 ++ [y]) (hf : N0.length = f)
  (hr : Sem.run Tryz.prog (results Tryz.f136 tmps) (W.setCell ⟨w.heap.size + 1, 0, none⟩ (.slice (some ⟨g8, 0, none⟩) (f + 1) c8)) = .ok (.agg #[.slice (some ⟨g8, 0, none⟩) (f + 1) c8]) (W.setCell ⟨w.heap.size + 1, 0, none⟩ (.slice (some ⟨g8, 0, none⟩) (f + 1) c8))) :
  bodyPost Tryz.prog Tryz.f136 (NPost N w) Exit.ret ⟨tmps, []⟩ (W.setCell ⟨w.heap.size + 1, 0, none⟩ (.slice (some ⟨g8, 0, none⟩) (f + 1) c8)) := by
 obtain ⟨⟨ps, hp, ho⟩, _, _, _, hb⟩ := h
 have hl : N.length = f + 1 := by rw [hN, List.length_append, hf]; rfl
 refine bodyPost_ret hr rfl ⟨_, _, ps, by rw [hl], by rw [hp, hN], ?_, hb.setCell (p := ⟨w.heap.size + 1, 0, none⟩) (by show w.heap.size <= w.heap.size + 1; omega) _⟩
 rw [hl]
 exact zsm (zje ho fun g hg _ => zaf _ _ _ _ _ (by omega)) (by omega)
theorem zpy (x : Nd) (ll : List (List Nd)) (FX EA : Option Addr) (fx cl LL : Nat) (w : World) (hF : Flds w.heap.size w (.slice FX x.l.length fx) x.l) (hXL : x.l.length <= 1000000) (HLL : Hid (ll.length = LL)) (hL1 : LL <= 1000)
  (HE : Hid (0 < LL -> ∃ be oe, EA = some (⟨be, oe, none⟩ : Addr) /\ be < w.heap.size /\ ∀ j e, ll[j]? = some e -> ∃ Ae ce, w.cell? ⟨be, oe + j, none⟩ = some (.slice Ae e.length ce) /\ Nodes w.heap.size w (.slice Ae e.length ce) e))
  (HC : Hid (∀ e ∈ ll, ∀ m ∈ e, m.l.length <= 1000000)) (HB : Hid (∀ e ∈ ll, ∀ m ∈ e, ∀ k ∈ kids m, 0 <= k /\ k <= 1000000)) (HT : Hid (∀ q, q <= LL -> (jn (ll.take q)).1.length <= 100000)) (HT2 : Hid (∀ q e, ll[q]? = some e -> (jn (ll.take q)).1.length + e.length <= 100000)) (HKX : Hid ((kids x).length = LL)) :
  Calls Tryz.prog 136 #[.agg (ndArr x (.slice FX x.l.length fx)), .slice EA LL cl] w (NPost (joinN x ll) w) := by
 obtain ⟨i0, hi0, hz0, hz1, hz2⟩ := info_parts intInfo
 obtain ⟨j0, hj0, hy0, hy1, hy2⟩ := info_parts ndInfo
 have HFX := jj hF
 clear hF
 have HS0 : Hid (RSt [] [] (ndArr x (.slice FX x.l.length fx)) w ((((w.alloc (.cells (ndArr x (.slice FX x.l.length fx)) 37)).alloc (.cells #[.slice none 0 0] 25)).alloc (.cells #[] 37)).alloc (.cells #[] 3)) (.slice (some ⟨w.heap.size + 2, 0, none⟩) 0 0) (.slice (some ⟨w.heap.size + 3, 0, none⟩) 0 0) 0) := jj (by
  obtain ⟨W2, hW2⟩ : ∃ W2, (w.alloc (.cells (ndArr x (.slice FX x.l.length fx)) 37)).alloc (.cells #[.slice none 0 0] 25) = W2 := ⟨_, rfl⟩
  have hs2 : W2.heap.size = w.heap.size + 2 := by rw [<- hW2]; simp
  have h1 := World.ownsRow_made (base := w.heap.size + 2) (e := 37) (size := 9) W2 #[] 0 (by omega) (by decide) rfl
  have h2 := World.ownsRow_made (base := w.heap.size + 2) (e := 3) (size := 1) (W2.alloc (.cells #[] 37)) #[] 0 (by simp; omega) (by decide) rfl
  rw [hs2] at h1
  simp only [World.size_alloc, hs2] at h2
  have h3 : W2.heap[w.heap.size]? = some (.cells (ndArr x (.slice FX x.l.length fx)) 37 (0, 0)) := by rw [<- hW2]; exact nextAt (newAt rfl)
  have h4 : W2.heap[w.heap.size + 1]? = some (.cells #[.slice none 0 0] 25 (0, 0)) := by rw [<- hW2]; exact newAt (by simp)
  have hb2 : Below w.heap.size w W2 := by rw [<- hW2]; exact (baw w _).alloc (by simp) _
  rw [hW2]
  exact ⟨⟨[], rfl, h1.alloc _, fun y hy => by simp at hy⟩, h2, nextAt (nextAt h3), nextAt (nextAt h4), (hb2.alloc hb2.size _).alloc (by simp; omega) _⟩)
 go_enter Tryz.func136, Tryz.ntmps136
 go_wp2
 go_loopw [5, 6, 7] (fun s5 s6 s7 wr => ∃ (q g6 k6 : Nat) (N0 : List Nd) (J0 : List Int), s6 = .slice (some ⟨g6, 0, none⟩) q k6 /\ s7 = .int .i64 (q : Int) /\ q <= LL /\ Hid (jn (ll.take q) = (N0, J0)) /\ Hid (RSt N0 J0 (ndArr x (.slice FX x.l.length fx)) w wr s5 (.slice (some ⟨g6, 0, none⟩) q k6) q)) (fun _ _ i _ => LL - (intOf i).toNat)
 case atStart => exact ⟨0, _, _, [], [], rfl, rfl, Nat.zero_le _, jj rfl, HS0⟩
 case round =>
  obtain ⟨q, gr, k6, N0, J0, rfl, rfl, hq, HJ, HS⟩ := hrel
  obtain ⟨f, hf⟩ : ∃ f, N0.length = f := ⟨_, rfl⟩
  obtain ⟨ps0, hp0, ho0⟩ := HS.out.1
  obtain ⟨A0, k0, rfl⟩ := zht ho0 hp0 rfl hf
  have hwr := HS.out.size
  have hfm : f <= 100000 := by have := HT.out q hq; rw [HJ.out] at this; simp only at this; omega
  have HF0 := jj hf
  have HP0 := jj hp0
  have HO0 := jj ho0
  clear hp0 ho0 hf
  by_cases hlt : q < LL
  ·obtain ⟨be, oe, rfl, hbe, hee⟩ := HE.out (by omega)
   obtain ⟨e, he⟩ : ∃ e, ll[q]? = some e := ⟨_, List.getElem?_eq_getElem (by rw [HLL.out]; exact hlt)⟩
   obtain ⟨Ae, ce, hce, hne⟩ := hee q e he
   obtain ⟨eL, heL⟩ : ∃ eL, e.length = eL := ⟨_, rfl⟩
   have hf1 := HT2.out q e he
   rw [HJ.out] at hf1
   simp only at hf1
   rw [HF0.out, heL] at hf1
   rw [heL] at hce hne
   have HCE0 : Hid (w.cell? ⟨be, oe + q, none⟩ = some (.slice Ae eL ce)) := jj hce
   have HNE := jj hne
   have HCE : Hid (∀ m ∈ e, m.l.length <= 1000000) := jj (HC.out e (lme he))
   have HBE : Hid (∀ m ∈ e, ∀ k ∈ kids m, 0 <= k /\ k <= 1000000) := jj (HB.out e (lme he))
   have HJ1 : Hid (jn (ll.take (q + 1)) = (N0 ++ e.map (sh f), J0 ++ [((f + eL : Nat) : Int) - 1])) := jj (by rw [zao _ _ _ he, zfg, HJ.out, jstep]; simp only; rw [HF0.out, heL])
   have HEL := jj heL
   clear he hce hne heL hee
   go_wp2
   go_loopw [5, 9] (fun s5 s9 w2 => ∃ (j : Nat), s9 = .int .i64 (j : Int) /\ j <= eL /\ Hid (RSt (N0 ++ (e.take j).map (sh f)) J0 (ndArr x (.slice FX x.l.length fx)) w w2 s5 (.slice (some ⟨gr, 0, none⟩) q k6) q)) (fun _ i _ => eL - (intOf i).toNat)
   case atStart => exact ⟨0, rfl, Nat.zero_le _, jj (by simpa using HS.out)⟩
   case round =>
    obtain ⟨j, rfl, hj, HS2⟩ := hrel
    obtain ⟨w2, rfl⟩ : ∃ w2, w2 = wr := ⟨_, rfl⟩
    obtain ⟨ps2, hp2, ho2⟩ := HS2.out.1
    have hn2 : ps2.length = f + j := by
     have := congrArg List.length hp2
     rw [List.length_map, List.length_append, List.length_map, List.length_take, HF0.out] at this
     have := HEL.out; omega
    obtain ⟨A2, k2, hv2⟩ := zgo ho2
    rw [hn2] at hv2
    subst hv2
    have hw2 := HS2.out.size
    have HP2 := jj hp2
    have HO2 := jj ho2
    have HN2 := jj hn2
    have hBw2 : Below w.heap.size w w2 := HS2.out.2.2.2.2
    have ce2 : w2.cell? ⟨be, oe + q, none⟩ = some (.slice Ae eL ce) := (hBw2.cell (p := ⟨be, oe + q, none⟩) hbe).trans HCE0.out
    clear hp2 ho2
    by_cases hlt2 : j < eL
    ·obtain ⟨m, hm⟩ : ∃ m, e[j]? = some m := ⟨_, List.getElem?_eq_getElem (by rw [HEL.out]; exact hlt2)⟩
     obtain ⟨bq, oq, rfl, hbq, hnd⟩ : ∃ b o, Ae = some (⟨b, o, none⟩ : Addr) /\ b < w.heap.size /\ NdsAt w.heap.size w b o e := by
      obtain ⟨_, _, e1, _, _, hqq⟩ := HNE.out
      obtain ⟨b, o, h1, h2, h3⟩ := hqq (by rw [HEL.out]; omega)
      cases e1
      exact ⟨b, o, h1, h2, h3⟩
     obtain ⟨fv, hfl, hnc⟩ := (NdsAt.below hnd hBw2 hbq) j m hm
     have HNC : Hid (NC w2 bq (oq + j * 9) m fv) := jj hnc
     have hcm := HCE.out m (lme hm)
     have HFL : Hid (∀ W, Below w2.heap.size w2 W -> Flds W.heap.size W fv m.l) := jj fun W hb => ((hfl.mono (by omega)).below hb).mono hb.size
     obtain ⟨FA, fc, rfl, _⟩ := hfl
     have hkl : (kids m).length <= 1000003 := by have := zek m; omega
     obtain ⟨K, hK⟩ : ∃ K, kids m = K := ⟨_, rfl⟩
     rw [hK] at hkl
     have HKB : Hid (∀ k ∈ K, 0 <= k /\ k <= 1000000) := jj (by rw [<- hK]; exact HBE.out m (lme hm))
     obtain ⟨KL, hKL⟩ : ∃ KL, K.length = KL := ⟨_, rfl⟩
     rw [hKL] at hkl
     have HKC : Hid (Calls Tryz.prog 42 #[.agg #[.int .i64 m.kind, .int .i64 m.a, .int .i64 m.b, .int .i64 m.c, .int .i64 m.n, .string m.nm, .string m.s, .slice FA m.l.length fc, .int .i64 m.pos]] w2 fun e W' => ∃ g c, e = .returned (.slice (some ⟨g, 0, none⟩) KL c) /\ Rw W' g K /\ Below w2.heap.size w2 W') := jj (zre (x := m) (by rw [<- hK]; exact zic m _ w2 (lrf _) (HFL.out _ (br _ _)) hcm) hKL)
     have HWI : Hid (∀ (W : World) (g c : Nat), Below w2.heap.size w2 W -> Rw W g (K.map (· + (f : Int))) -> Calls Tryz.prog 147 #[.agg #[.int .i64 m.kind, .int .i64 m.a, .int .i64 m.b, .int .i64 m.c, .int .i64 m.n, .string m.nm, .string m.s, .slice FA m.l.length fc, .int .i64 m.pos], .slice (some ⟨g, 0, none⟩) KL c] W fun e W' => ∃ Ay ny ky, e = .returned (.agg #[.int .i64 (sh f m).kind, .int .i64 (sh f m).a, .int .i64 (sh f m).b, .int .i64 (sh f m).c, .int .i64 (sh f m).n, .string (sh f m).nm, .string (sh f m).s, .slice Ay ny ky, .int .i64 (sh f m).pos]) /\ OwnF W.heap.size W' (.slice Ay ny ky) (sh f m).l /\ Below W.heap.size W W') := jj fun W g c hb hr => by
      have h := zin m (.slice FA m.l.length fc) (K.map (· + (f : Int))) g c KL W (by rw [List.length_map, hKL]) (HFL.out W hb) hcm (by rw [List.length_map, hK]) hr
      refine Calls.mono h ?_
      rintro e W' ⟨v, rfl, h1, h2⟩
      have e1 : sh f m = wk m (K.map (· + (f : Int))) := by rw [sh, hK]
      rw [e1]
      obtain ⟨A, c', rfl, _⟩ := zdb h1
      exact ⟨A, _, c', rfl, h1, h2⟩
     have HEJ : Hid ((e.take (j + 1)).map (sh f) = (e.take j).map (sh f) ++ [sh f m]) := jj (by rw [zao _ _ _ hm, List.map_append]; rfl)
     have HKL := jj hKL
     obtain ⟨y, hy⟩ : ∃ y, sh f m = y := ⟨_, rfl⟩
     rw [hy] at HWI HEJ
     obtain ⟨m0, m1, m2, m3, m4, m5, m6, m7, m8⟩ := HNC.out
     have hbq2 : bq < w2.heap.size := by omega
     clear hm hnd hcm hK hKL hy hnc
     go_wp2_with (go_at_call 42; refine HKC.out.mono ?_; rintro e1 w3 ⟨gk, ck, rfl, hrw, hb3⟩; have RW3 := jj hrw; have B3 := jj hb3; clear hrw hb3)
     go_loopw [11, 12] (fun s11 s12 w4 => ∃ (r gm cm : Nat), s11 = .slice (some ⟨gm, 0, none⟩) r cm /\ s12 = .int .i64 (r : Int) /\ r <= KL /\ Hid (w4.ownsRow w3.heap.size 3 1 (.slice (some ⟨gm, 0, none⟩) r cm) r (((K.take r).map (· + (f : Int))).map (Value.int .i64))) /\ Hid (Below w3.heap.size w3 w4)) (fun _ i _ => KL - (intOf i).toNat)
     case atStart => exact ⟨0, _, _, rfl, rfl, Nat.zero_le _, jj (by have := World.ownsRow_made (base := w3.heap.size) (e := 3) (size := 1) w3 #[] 0 (lrf _) (by decide) rfl; simpa using this), jj (baw w3 _)⟩
     case round =>
      obtain ⟨r, gm, cm, rfl, rfl, hr, HM, B4⟩ := hrel
      obtain ⟨w4, rfl⟩ : ∃ w4, w4 = wr := ⟨_, rfl⟩
      have hs4 := B4.out.size
      by_cases hlt4 : r < KL
      ·obtain ⟨kz, hkz⟩ : ∃ kz, K[r]? = some kz := ⟨_, List.getElem?_eq_getElem (by rw [HKL.out]; exact hlt4)⟩
       have hkb := HKB.out kz (lme hkz)
       have z1 := (RW3.out.next B4.out).1 _ _ hkz
       have HKT : Hid (((K.take (r + 1)).map (· + (f : Int))).map (Value.int .i64) = ((K.take r).map (· + (f : Int))).map (Value.int .i64) ++ [.int .i64 (kz + (f : Int))]) := jj (by rw [zao _ _ _ hkz]; simp)
       clear hkz
       go_wp2_with (at_builtin; refine wpList_append_own _ rfl _ _ 74 rfl w3.heap.size 3 i0 (.int .i64 0) 1 8 Tryz.underlying74 hi0 hz0 hz1 hz2 rfl (by decide) _ r _ rfl (HM.out.alloc _) ⟨w4.heap.size, 0, none⟩ 1 1 [.int .i64 (kz + (f : Int))] rfl rfl (new1 w4 3 _) (fun u hu => by rw [List.mem_singleton.1 hu]; rfl) (by unfold maxLen; omega) (by omega) (by simp; omega) ?_; intro v6 w6 hown6 hgrow6 _; obtain ⟨g6, c6, rfl⟩ := ownsRow_succ hown6; have HO6 := jj hown6; have HG6 := jj hgrow6; clear hown6 hgrow6)
       go_roundw
       case rel => exact ⟨r + 1, _, _, rfl, by go_num, by omega, jj (by rw [HKT.out]; exact HO6.out), jj ((B4.out.alloc (by omega) _).grown HG6.out (by simp; omega) (fun k hk => (HM.out.lt k hk).1))⟩
       case measure => simp [intOf]; omega
      ·obtain rfl : r = KL := by omega
       have hkt : K.take r = K := List.take_of_length_le (by have := HKL.out; omega)
       have HRW : Hid (Rw w4 gm (K.map (· + (f : Int)))) := jj (by
        have h := HM.out
        rw [hkt] at h
        have hl : (K.map (· + (f : Int))).length = r := by rw [List.length_map, HKL.out]
        have hi2 : Ints w3.heap.size w4 (.slice (some ⟨gm, 0, none⟩) (K.map (· + (f : Int))).length cm) (K.map (· + (f : Int))) := by unfold Ints; rw [hl]; exact h
        exact Rw.of hi2)
       have hs3 := B3.out.size
       have hB24 : Below w2.heap.size w2 w4 := B3.out.trans (B4.out.mono hs3)
       have HB24 := jj hB24
       have HS4 := jj (HS2.out.next hB24)
       have HO4 := jj (zbf HO2.out (zb1 hB24))
       have ce4 : w4.cell? ⟨be, oe + q, none⟩ = some (.slice (some ⟨bq, oq, none⟩) eL ce) := (hB24.cell (p := ⟨be, oe + q, none⟩) (by show be < w2.heap.size; omega)).trans ce2
       obtain ⟨p0, p1, p2, p3, p4, p5, p6, p7, p8⟩ := HNC.out.below hB24 hbq2
       clear hB24 hkt
       go_wp2_with (first | (go_at_call 147; refine (HWI.out _ _ _ HB24.out HRW.out).mono ?_; rintro e1 w5 ⟨Ay, ny, ky, rfl, hf5, hb5⟩; have HF5 := jj hf5; have HB5 := jj hb5; have HR5 : Hid ((w5.alloc (.cells (ndArr y (.slice Ay ny ky)) 37)).ownsRow (w.heap.size + 2) 37 9 (.slice A2 (f + j) k2) (f + j) (nCells ps2)) := jj (rownR (zbf HO4.out (zb1 hb5)) HN2.out _); have HC5 := jj (zaj w5 37 (ndArr y (.slice Ay ny ky)).toList w5.heap.size rfl); have hs5 := hb5.size; clear hf5 hb5) | (at_builtin; refine wpList_append_own _ rfl _ _ 23 rfl (w.heap.size + 2) 37 j0 (.agg #[.int .i64 0, .int .i64 0, .int .i64 0, .int .i64 0, .int .i64 0, .string ⟨#[]⟩, .string ⟨#[]⟩, .slice none 0 0, .int .i64 0]) 9 104 Tryz.underlying23 hj0 hy0 hy1 hy2 rfl (by decide) _ (f + j) _ rfl HR5.out ⟨w5.heap.size, 0, none⟩ 1 1 ((ndArr y (.slice Ay ny ky)).toList) rfl rfl HC5.out (zoq _ _ _ _) (by unfold maxLen; omega) (by omega) (by simp; omega) ?_; intro v8 w8 hown8 hgrow8 _; obtain ⟨g8, c8, rfl⟩ := ownsRow_succ hown8; have HE8 := jj (HS4.out.node HP2.out HO4.out HN2.out HF5.out HB5.out hown8 hgrow8); clear hown8 hgrow8))
       go_roundw
       case rel =>
        refine ⟨j + 1, by go_num, by omega, jj ?_⟩
        rw [HEJ.out, <- List.append_assoc]
        exact HE8.out
       case measure => simp [intOf]; omega
    ·obtain rfl : j = eL := by omega
     obtain ⟨fe, hfe⟩ : ∃ fe, f + j = fe := ⟨_, rfl⟩
     have HTK : Hid ((e.take j).map (sh f) = e.map (sh f)) := jj (by rw [List.take_of_length_le (by have := HEL.out; omega)])
     rw [hfe] at HS2 hf1
     rw [hfe]
     rw [hfe] at HJ1
     have HS3 : Hid (RSt (N0 ++ e.map (sh f)) J0 (ndArr x (.slice FX x.l.length fx)) w w2 (.slice A2 fe k2) (.slice (some ⟨gr, 0, none⟩) q k6) q) := jj (by rw [<- HTK.out]; exact HS2.out)
     have hsw := HS3.out.size
     clear HS2 HP2 HO2 hn2 HN2 hfe
     go_wp2_with (at_builtin; refine wpList_append_own _ rfl _ _ 74 rfl (w.heap.size + 2) 3 i0 (.int .i64 0) 1 8 Tryz.underlying74 hi0 hz0 hz1 hz2 rfl (by decide) _ q _ rfl (HS3.out.2.1.alloc _) ⟨w2.heap.size, 0, none⟩ 1 1 [.int .i64 ((fe : Int) - 1)] rfl rfl (new1 w2 3 _) (fun u hu => by rw [List.mem_singleton.1 hu]; rfl) (by unfold maxLen; omega) (by omega) (by simp; omega) ?_; intro v6 w6 hown6 hgrow6 _; obtain ⟨g6, c6, rfl⟩ := ownsRow_succ hown6; have HS6 := jj (HS3.out.root hown6 hgrow6); clear hown6 hgrow6)
     go_roundw
     case rel => exact ⟨q + 1, _, _, _, _, rfl, by go_num, by omega, HJ1, HS6⟩
     case measure => simp [intOf]; omega
  ·obtain rfl : q = LL := by omega
   have hnl : ps0.length = f := by have := congrArg List.length HP0.out; rw [List.length_map, HF0.out] at this; exact this
   have htk : ll.take q = ll := List.take_of_length_le (by rw [HLL.out]; exact lrf _)
   have hj := HJ.out
   rw [htk] at hj
   have hjl : J0.length = q := by have := (zf5 ll).2; rw [hj, HLL.out] at this; exact this
   have HRR : Hid (Rw wr gr J0) := jj (by
    have hi2 : Ints (w.heap.size + 2) wr (.slice (some ⟨gr, 0, none⟩) J0.length k6) J0 := by unfold Ints; rw [hjl]; exact HS.out.2.1
    exact Rw.of hi2)
   have HJN : Hid (joinN x ll = N0 ++ [wk x J0]) := jj (by rw [joinN, hj])
   obtain ⟨y, hy⟩ : ∃ y, wk x J0 = y := ⟨_, rfl⟩
   have HWX : Hid (Calls Tryz.prog 147 #[.agg #[.int .i64 x.kind, .int .i64 x.a, .int .i64 x.b, .int .i64 x.c, .int .i64 x.n, .string x.nm, .string x.s, .slice FX x.l.length fx, .int .i64 x.pos], .slice (some ⟨gr, 0, none⟩) q k6] wr fun e W' => ∃ Ay ny ky, e = .returned (.agg #[.int .i64 y.kind, .int .i64 y.a, .int .i64 y.b, .int .i64 y.c, .int .i64 y.n, .string y.nm, .string y.s, .slice Ay ny ky, .int .i64 y.pos]) /\ OwnF wr.heap.size W' (.slice Ay ny ky) y.l /\ Below wr.heap.size wr W') := jj (by
    have hbw := HS.out.2.2.2.2
    have h := zin x (.slice FX x.l.length fx) J0 gr k6 q wr hjl ((HFX.out.below hbw).mono hbw.size) hXL (by rw [hjl]; exact HKX.out.symm) HRR.out
    refine Calls.mono h ?_
    rintro e W' ⟨v, rfl, h1, h2⟩
    rw [hy] at h1 ⊢
    obtain ⟨A, c', rfl, _⟩ := zdb h1
    exact ⟨A, _, c', rfl, h1, h2⟩)
   rw [hy] at HJN
   obtain ⟨q0, q1, q2, q3, q4, q5, q6, q7, q8⟩ := zad HS.out.2.2.1
   have HNL := jj hnl
   clear hnl htk hj hjl hy
   go_wp2_with (first | (go_at_call 147; refine HWX.out.mono ?_; rintro e1 w5 ⟨Ay, ny, ky, rfl, hf5, hb5⟩; have HF5 := jj hf5; have HB5 := jj hb5; have HR5 : Hid ((w5.alloc (.cells (ndArr y (.slice Ay ny ky)) 37)).ownsRow (w.heap.size + 2) 37 9 (.slice A0 f k0) f (nCells ps0)) := jj (rownR (zbf HO0.out (zb1 hb5)) HNL.out _); have HC5 := jj (zaj w5 37 (ndArr y (.slice Ay ny ky)).toList w5.heap.size rfl); have hs5 := hb5.size; clear hf5 hb5) | (at_builtin; refine wpList_append_own _ rfl _ _ 23 rfl (w.heap.size + 2) 37 j0 (.agg #[.int .i64 0, .int .i64 0, .int .i64 0, .int .i64 0, .int .i64 0, .string ⟨#[]⟩, .string ⟨#[]⟩, .slice none 0 0, .int .i64 0]) 9 104 Tryz.underlying23 hj0 hy0 hy1 hy2 rfl (by decide) _ f _ rfl HR5.out ⟨w5.heap.size, 0, none⟩ 1 1 ((ndArr y (.slice Ay ny ky)).toList) rfl rfl HC5.out (zoq _ _ _ _) (by unfold maxLen; omega) (by omega) (by simp; omega) ?_; intro v8 w8 hown8 hgrow8 _; obtain ⟨g8, c8, rfl⟩ := ownsRow_succ hown8; have HE8 := jj (HS.out.node HP0.out HO0.out HNL.out HF5.out HB5.out hown8 hgrow8); have c9' := (zaa HE8.out.2.2.2.1 0).trans rfl; have f9 := zac HE8.out.2.2.2.1 0; clear hown8 hgrow8))
   exact zqq HE8.out HJN.out HF0.out (res28 _ _ (w.heap.size + 1) _ _ _ rfl ((zaa (zaq (j := 0) (v := .slice (some ⟨g8, 0, none⟩) (f + 1) c8) HE8.out.2.2.2.1) 0).trans rfl))
end Go.Proofs.YtjakeidbajkdcaaGreatDoor.T
