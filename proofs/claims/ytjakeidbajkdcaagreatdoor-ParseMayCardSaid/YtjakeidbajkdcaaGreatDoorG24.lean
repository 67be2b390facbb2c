/- Joined by program: KText, KLay, KNeat, APure, AState, AKeep. -/
import Derived.Test.YtjakeidbajkdcaaGreatDoorG23
/- What a whole text is read as: the tree, or the first error and its place. -/
namespace Go.Proofs.YtjakeidbajkdcaaGreatDoor.T
/-- The expr with which the tokens begin. -/
def ex (E : Int) (l : List Tk) : Rs := G E (need .expr l.length) .expr 0 l
/-- The expr of all tokens. -/
def whole (E : Int) (l : List Tk) : Rs := match ex E l with | .bad e p => .bad e p | .ok t [] => .ok t [] | .ok _ (y :: _) => .bad 5 y.p
def far (t : List Nd) : Bool := t.any fun x => decide (1048576 < x.pos)
/-- The tree, the place, the error. -/
noncomputable def told (r : Rs) : List Nd × Int × Int := match r with
  | .bad e p => ([], p, e)
  | .ok t _ => if far t = true then ([], 0, 7) else if may t = 0 then (t, 0, 0) else ([], 0, may t)
theorem ex_ok {E : Int} {l : List Tk} {t : List Nd} {r : List Tk} (h : ex E l = .ok t r) : inOrd t ∧ slim t ∧ t.length ≤ 2 * l.length ∧ r <:+ l ∧ r.length < l.length := by
  obtain ⟨h1, h2⟩ := G_ok E _ .expr _ _ _ _ trivial h
  obtain ⟨h3, h4⟩ := G_size E _ .expr _ _ _ _ trivial h
  obtain ⟨h5, _⟩ := G_suf E _ .expr _ _ _ _ h
  simp only [eats, base] at h2 h4
  exact ⟨h1, h3, by omega, h5, by omega⟩
theorem ex_bad {E : Int} {l : List Tk} {e p : Int} (h : ex E l = .bad e p) : e ≠ 0 ∧ Pl E l p := G_bad E _ .expr _ _ _ _ (Nat.le_refl _) h
theorem whole_ok {E : Int} {l r : List Tk} {t : List Nd} (h : whole E l = .ok t r) : ex E l = .ok t [] := by
  unfold whole at h
  split at h
  · cases h
  · rename_i h1; cases h; exact h1
  · cases h
theorem whole_bad {E : Int} {l : List Tk} {e p : Int} (h : whole E l = .bad e p) : e ≠ 0 ∧ Pl E l p := by
  unfold whole at h
  split at h
  · rename_i h1; cases h; exact ex_bad h1
  · cases h
  · rename_i t y r h1
    cases h
    exact ⟨by decide, .inr ⟨y, (ex_ok h1).2.2.2.1.subset (by simp), rfl⟩⟩
/-- What is read may be, and is in order; an error's place is that of a token, the end, or 0, and it has no tree. -/
theorem told_any (E : Int) (l : List Tk) : (∃ t, told (whole E l) = (t, 0, 0) ∧ may t = 0 ∧ nrm t = t ∧ t.length ≤ 2 * l.length ∧ slim t) ∨ ∃ p e, told (whole E l) = ([], p, e) ∧ e ≠ 0 ∧ (p = 0 ∨ Pl E l p) := by
  cases hw : whole E l with
  | bad e p =>
    obtain ⟨h1, h2⟩ := whole_bad hw
    exact .inr ⟨p, e, rfl, h1, .inr h2⟩
  | ok t r =>
    obtain ⟨h1, h2, h3, _⟩ := ex_ok (whole_ok hw)
    unfold told
    simp only
    by_cases hf : far t = true
    · rw [if_pos hf]; exact .inr ⟨0, 7, rfl, by decide, .inl rfl⟩
    rw [if_neg hf]
    by_cases hm : may t = 0
    · rw [if_pos hm]; exact .inl ⟨t, rfl, hm, ord_nrm h1 hm, h3, h2⟩
    · rw [if_neg hm]; exact .inr ⟨0, may t, rfl, hm, .inl rfl⟩
end Go.Proofs.YtjakeidbajkdcaaGreatDoor.T
/- A joined tree laid behind other nodes: its children behind one another, each laid behind what is there, and the node with their places. -/
namespace Go.Proofs.YtjakeidbajkdcaaGreatDoor.T
/-- A tree laid behind others. -/
def lay (N e : List Nd) : List Nd := N ++ e.map (sh N.length)
theorem lay_len (N e : List Nd) : (lay N e).length = N.length + e.length := by simp [lay]
theorem jn_from (N : List Nd) : ∀ ll : List (List Nd), ll.foldl jstep (N, []) = (N ++ (jn ll).1.map (sh N.length), (jn ll).2.map (· + (N.length : Int))) := by
  intro ll
  induction ll using snocInd with
  | h0 => simp [jn]
  | h1 ll e ih =>
    rw [List.foldl_append, ih, jn_snoc]
    simp only [List.foldl_cons, List.foldl_nil, jstep, List.map_append, List.map_cons, List.map_nil, List.length_append, List.length_map, List.map_map, List.append_assoc]
    refine Prod.ext ?_ ?_
    · simp only
      congr 2
      apply List.map_congr_left
      intro m _
      simp only [Function.comp]
      rw [sh_sh, Nat.add_comm]
    · simp only
      congr 2
      omega
theorem lay_join (N : List Nd) (x : Nd) (ll : List (List Nd)) (hl : ll.length = (kids x).length) : lay N (joinN x ll) = (ll.foldl jstep (N, [])).1 ++ [wk x (ll.foldl jstep (N, [])).2] := by
  have hJ : (jn ll).2.length = (kids x).length := (jn_len ll).2.trans hl
  rw [jn_from, lay, joinN, List.map_append, List.map_cons, List.map_nil, ← List.append_assoc]
  congr 2
  unfold sh
  rw [kids_wk hJ, wk_two hJ]
theorem lay0 (N : List Nd) (x : Nd) (hl : (kids x).length = 0) : lay N (joinN x []) = N ++ [wk x []] := lay_join N x [] hl.symm
theorem lay1 (N a : List Nd) (x : Nd) (hl : (kids x).length = 1) : lay N (joinN x [a]) = lay N a ++ [wk x [((lay N a).length : Int) - 1]] := by
  rw [lay_join N x [a] hl.symm, lay_len]; rfl
theorem lay2 (N a b : List Nd) (x : Nd) (hl : (kids x).length = 2) : lay N (joinN x [a, b]) = lay (lay N a) b ++ [wk x [((lay N a).length : Int) - 1, ((lay (lay N a) b).length : Int) - 1]] := by
  rw [lay_join N x [a, b] hl.symm, lay_len, lay_len, lay_len]
  simp only [List.foldl_cons, List.foldl_nil, jstep, List.nil_append, List.length_append, List.length_map, lay, List.cons_append]
theorem lay3 (N a b c : List Nd) (x : Nd) (hl : (kids x).length = 3) : lay N (joinN x [a, b, c]) = lay (lay (lay N a) b) c ++ [wk x [((lay N a).length : Int) - 1, ((lay (lay N a) b).length : Int) - 1, ((lay (lay (lay N a) b) c).length : Int) - 1]] := by
  rw [lay_join N x [a, b, c] hl.symm, lay_len, lay_len, lay_len, lay_len, lay_len, lay_len]
  simp only [List.foldl_cons, List.foldl_nil, jstep, List.nil_append, List.length_append, List.length_map, lay, List.cons_append]
/-- Several trees behind others. -/
def lays (N : List Nd) (ll : List (List Nd)) : List Nd × List Int := ll.foldl jstep (N, [])
theorem lays_snoc (N : List Nd) (ll : List (List Nd)) (e : List Nd) : lays N (ll ++ [e]) = (lay (lays N ll).1 e, (lays N ll).2 ++ [((lay (lays N ll).1 e).length : Int) - 1]) := by
  unfold lays
  rw [List.foldl_append, lay_len]
  rfl
theorem lays_len (N : List Nd) (ll : List (List Nd)) : (lays N ll).2.length = ll.length := by
  unfold lays
  rw [jn_from]
  simp only [List.length_map]
  exact (jn_len ll).2
theorem layN (N : List Nd) (x : Nd) (ll : List (List Nd)) (hl : ll.length = (kids x).length) : lay N (joinN x ll) = (lays N ll).1 ++ [wk x (lays N ll).2] := lay_join N x ll hl
/-- A tree at the beginning lies as it is. -/
theorem sh_zero {x : Nd} (h : wk x (kids x) = x) : sh 0 x = x := by
  unfold sh
  have : (kids x).map (· + ((0 : Nat) : Int)) = kids x := by
    conv => rhs; rw [← List.map_id (kids x)]
    apply List.map_congr_left
    intro k _
    simp
  rw [this, h]
end Go.Proofs.YtjakeidbajkdcaaGreatDoor.T
/- In a tree in order what does not count is zero; so laid at the beginning it is the list itself. -/
namespace Go.Proofs.YtjakeidbajkdcaaGreatDoor.T
/-- What does not count of a node is zero. -/
def neat (x : Nd) : Prop := wk x (kids x) = x
theorem wk_neat {x : Nd} {ks : List Int} (h : ks.length = (kids x).length) : neat (wk x ks) := by unfold neat; rw [kids_wk h, wk_two h]
theorem cp_neat {l : List Nd} (hk : kidsOk l) : ∀ i, i < l.length → ∀ out : List Nd, (∀ x ∈ out, neat x) → ∀ x ∈ cp l i out, neat x := by
  intro i
  induction i using Nat.strongRecOn with
  | ind i ih =>
    intro hi out ho
    have hx : l[i]? = some (l[i]'hi) := List.getElem?_eq_getElem hi
    obtain ⟨x, hx'⟩ : ∃ x, l[i]'hi = x := ⟨_, rfl⟩
    rw [hx'] at hx
    have ha : ahead i x := fun k hk' => hk i x hx k hk'
    have key : ∀ ks : List Int, (∀ k ∈ ks, 0 ≤ k ∧ k < (i : Int)) → ∀ y ∈ (cps l (out, []) ks).1, neat y := by
      intro ks
      induction ks using snocInd with
      | h0 => intro _; exact ho
      | h1 ks k ih2 =>
        intro hks
        have hkk := hks k (by simp)
        rw [cps_snoc]
        exact ih k.toNat (toNat_lt hkk) (by omega) _ (ih2 fun k' hk' => hks k' (by simp [hk']))
    have hlen : (cps l (out, []) (kids x)).2.length = (kids x).length := by rw [cps_len2]; simp
    rw [cp_eq hx ha out]
    intro y hy
    rcases List.mem_append.1 hy with hy | hy
    · exact key _ (fun k hk' => ha k hk') y hy
    · obtain rfl := List.mem_singleton.1 hy
      exact wk_neat hlen
theorem ord_neat {e : List Nd} (h : inOrd e) : ∀ x ∈ e, neat x := by
  obtain ⟨h1, h2, h3⟩ := h
  have hl : 0 < e.length := List.length_pos_iff.2 h1
  have := cp_neat h2 (e.length - 1) (by omega) [] (by simp)
  rwa [h3] at this
theorem lay_nil {e : List Nd} (h : inOrd e) : lay [] e = e := by
  have h1 := ord_neat h
  rw [lay, List.nil_append]
  conv => rhs; rw [← List.map_id e]
  exact List.map_congr_left fun x hx => sh_zero (h1 x hx)
theorem lastK_eq {a : List Nd} {y : Nd} {m : List Nd} (h : a = m ++ [y]) : lastK a = y.kind ∧ lastP a = y.pos := by subst h; simp [lastK, lastP]
/-- The root of a tree that is laid behind others. -/
theorem lay_last (N : List Nd) {a : List Nd} (h : a ≠ []) : ∃ y, (lay N a)[(lay N a).length - 1]? = some y ∧ y.kind = lastK a ∧ y.pos = lastP a := by
  induction a using snocInd with
  | h0 => exact absurd rfl h
  | h1 m y _ =>
    obtain ⟨h1, h2⟩ := lastK_eq (a := m ++ [y]) rfl
    refine ⟨sh N.length y, ?_, h1.symm, h2.symm⟩
    rw [lay_len, lay, List.map_append, ← List.append_assoc]
    have e : N.length + (m ++ [y]).length - 1 = (N ++ m.map (sh N.length)).length := by simp
    rw [e]
    simp
end Go.Proofs.YtjakeidbajkdcaaGreatDoor.T
/- The program's reader, as a function over plain states: what each of its calls makes of the tokens left, the error, the nodes. By fuel for what is nested; none where the fuel or the room ends. -/
namespace Go.Proofs.YtjakeidbajkdcaaGreatDoor.A
open T
/-- A reader's state: the tokens left, the end, whether they were let go, the error and its place, the nodes, how deep it is nested. -/
structure PS where
  l : List Tk
  E : Int
  dead : Bool
  err : Int
  place : Int
  N : List Nd
  d : Nat
/-- What is next. -/
def PS.pk (s : PS) : Tk := match s.l with | [] => ⟨0, ⟨#[]⟩, 0, s.E⟩ | t :: _ => t
def PS.nx (s : PS) : PS := { s with l := s.l.tail }
def PS.no (s : PS) (p e : Int) : PS := { s with l := [], E := 0, dead := true, err := if s.err = 0 then e else s.err, place := if s.err = 0 then p else s.place }
def PS.is (s : PS) (k : Int) (x : List UInt8) : Bool := isT k x s.l
def PS.tk (s : PS) (k : Int) (x : List UInt8) : PS := if s.is k x = true then s.nx else s
def PS.must (s : PS) (k : Int) (x : List UInt8) : PS := if s.is k x = true then s.nx else s.no s.pk.p 5
def PS.txt (s : PS) (k : Int) : ByteArray × PS := if s.pk.k = k then (s.pk.s, s.nx) else (⟨#[]⟩, s.no s.pk.p 5)
def PS.lab (s : PS) (k : Int) (fs : List Fld) : ByteArray × PS :=
  if fs.length = 30 then ((s.txt k).1, (s.txt k).2.no s.pk.p 8) else if (fs.any fun y => y.nm.toList == (s.txt k).1.toList) = true then ((s.txt k).1, (s.txt k).2.no s.pk.p 5) else s.txt k
abbrev Ans := Option (Nat × PS)
def PS.add (s : PS) (n : Nd) : Ans := if s.N.length < 1000000 then some (s.N.length, { s with N := s.N ++ [n] }) else none
/-- The primitive of a sign. -/
def prim (x : ByteArray) : Int :=
  if x.toList = [60] then 5 else if x.toList = [61, 61] then 6 else if x.toList = [43] then 1 else if x.toList = [45] then 2 else if x.toList = [94] then 7 else if x.toList = [42] then 3 else if x.toList = [47] then 4 else 0
def anyOf (ops : List (List UInt8)) (s : PS) : Bool := ops.any fun o => s.is 7 o
def opP (b : PS → Ans) (a : Nat) (s : PS) : Ans := (b s.nx).bind fun r => r.2.add { mk 10 s.pk.p with n := prim s.pk.s, a := a, b := r.1 }
def loopP (ops : List (List UInt8)) (b : PS → Ans) : Nat → Nat → PS → Ans
  | 0, _, _ => none
  | n + 1, a, s => if anyOf ops s = true then (opP b a s).bind fun r => loopP ops b n r.1 r.2 else some (a, s)
def postL : Nat → Nat → PS → Ans
  | 0, _, _ => none
  | n + 1, a, s => if s.is 7 s_dot = true then ((s.nx.txt 2).2.add { mk 12 s.pk.p with nm := (s.nx.txt 2).1, a := a }).bind fun r => postL n r.1 r.2 else some (a, s)
def appL (post : PS → Ans) : Nat → Nat → PS → Ans
  | 0, _, _ => none
  | n + 1, a, s => if begins s.l = true then match s.N[a]? with
    | none => none
    | some x => (post s).bind fun r => (r.2.add { mk 6 x.pos with a := a, b := r.1 }).bind fun q => appL post n q.1 q.2
    else some (a, s)
def leafN (s : PS) : Nd × PS :=
  if s.is 1 w_true = true then ({ mk 2 s.pk.p with n := 1 }, s.nx) else if s.is 1 w_false = true then (mk 2 s.pk.p, s.nx)
  else if s.pk.k = 4 then ({ mk 1 s.pk.p with n := s.pk.n }, s.nx) else if s.pk.k = 5 then ({ mk 3 s.pk.p with s := s.pk.s }, s.nx)
  else if s.pk.k = 2 then ({ mk 4 s.pk.p with nm := s.pk.s }, s.nx) else (mk 0 s.pk.p, s.no s.pk.p 5)
def recL (X : PS → Ans) (p : Int) : Nat → List Fld → PS → Ans
  | 0, _, _ => none
  | n + 1, fs, s => if fs.length < 1000 then (X ((s.lab 2 fs).2.must 7 s_eqs)).bind fun r =>
      if r.2.is 7 s_comma = true then recL X p n (fs ++ [⟨(s.lab 2 fs).1, ⟨#[]⟩, r.1⟩]) r.2.nx
      else (r.2.must 7 s_rbra).add { mk 11 p with l := fs ++ [⟨(s.lab 2 fs).1, ⟨#[]⟩, r.1⟩] }
    else none
def recP (X : PS → Ans) (p : Int) (s : PS) : Ans := if s.is 7 s_rbra = true then s.nx.add (mk 11 p) else recL X p (s.l.length + 2) [] s
def casL (X : PS → Ans) (p : Int) (a : Nat) : Nat → List Fld → PS → Ans
  | 0, _, _ => none
  | n + 1, fs, s => if fs.length < 1000 then (X (((s.lab 3 fs).2.txt 2).2.must 7 s_arrow)).bind fun r =>
      if r.2.is 7 s_bar = true then casL X p a n (fs ++ [⟨(s.lab 3 fs).1, ((s.lab 3 fs).2.txt 2).1, r.1⟩]) r.2.nx
      else (r.2.must 1 w_end).add { mk 14 p with a := a, l := fs ++ [⟨(s.lab 3 fs).1, ((s.lab 3 fs).2.txt 2).1, r.1⟩] }
    else none
def casP (X : PS → Ans) (p : Int) (s : PS) : Ans := (X s).bind fun r => casL X p r.1 ((r.2.must 1 w_of).l.length + 2) [] (r.2.must 1 w_of)
def atomP (X : PS → Ans) (s : PS) : Ans :=
  if s.is 7 s_lpar = true then (X s.nx).bind fun r => some (r.1, r.2.must 7 s_rpar)
  else if s.is 7 s_lbra = true then recP X s.pk.p s.nx
  else if s.is 1 w_case = true then casP X s.pk.p s.nx
  else (leafN s).2.add (leafN s).1
def postP (X : PS → Ans) (s : PS) : Ans := (atomP X s).bind fun r => postL (r.2.l.length + 1) r.1 r.2
def appP (X : PS → Ans) (s : PS) : Ans :=
  if s.pk.k = 3 then (postP X (s.txt 3).2).bind fun r => r.2.add { mk 13 s.pk.p with nm := (s.txt 3).1, a := r.1 }
  else (postP X s).bind fun r => appL (postP X) (r.2.l.length + 1) r.1 r.2
def o_prod : List (List UInt8) := [[42], [47]]
def o_sum : List (List UInt8) := [[43], [45], [94]]
def o_cmp : List (List UInt8) := [[60], [61, 61]]
def prodP (X : PS → Ans) (s : PS) : Ans := (appP X s).bind fun r => loopP o_prod (appP X) (r.2.l.length + 1) r.1 r.2
def sumP (X : PS → Ans) (s : PS) : Ans := (prodP X s).bind fun r => loopP o_sum (prodP X) (r.2.l.length + 1) r.1 r.2
def cmpP (X : PS → Ans) (s : PS) : Ans := (sumP X s).bind fun r => if anyOf o_cmp r.2 = true then opP (sumP X) r.1 r.2 else some r
def funP (X : PS → Ans) (p : Int) (s : PS) : Ans := (X ((s.txt 2).2.must 7 s_arrow)).bind fun r => r.2.add { mk 5 p with nm := (s.txt 2).1, a := r.1 }
/-- Behind let, and rec: k is the node's kind. -/
def bindK (X : PS → Ans) (p k : Int) (s : PS) : Ans :=
  (X ((s.txt 2).2.must 7 s_eqs)).bind fun r =>
    if k = 8 then match r.2.N[r.1]? with
      | none => none
      | some x => (X ((if x.kind = 5 then r.2 else r.2.no ((s.txt 2).2.must 7 s_eqs).pk.p 5).must 1 w_in)).bind fun q => q.2.add { mk k p with nm := (s.txt 2).1, a := r.1, b := q.1 }
    else (X (r.2.must 1 w_in)).bind fun q => q.2.add { mk k p with nm := (s.txt 2).1, a := r.1, b := q.1 }
def bindP (X : PS → Ans) (p : Int) (s : PS) : Ans := if s.is 1 w_rec = true then bindK X p 8 s.nx else bindK X p 7 s
def ifP (X : PS → Ans) (p : Int) (s : PS) : Ans :=
  (X s).bind fun r => (X (r.2.must 1 w_then)).bind fun q => (X (q.2.must 1 w_else)).bind fun u => u.2.add { mk 9 p with a := r.1, b := q.1, c := u.1 }
def innerP (X : PS → Ans) (p : Int) (s : PS) : Ans :=
  if s.is 1 w_fun = true then funP X p s.nx else if s.is 1 w_let = true then bindP X p s.nx else if s.is 1 w_if = true then ifP X p s.nx else cmpP X s
/-- The state in which an expr is read. -/
def PS.deep (s : PS) : PS := { (if s.d = 100 then s.no s.pk.p 6 else s) with d := s.d + 1 }
def PS.up (s : PS) : PS := { s with d := s.d - 1 }
def exprP : Nat → PS → Ans
  | 0, _ => none
  | f + 1, s => if s.d < 1000 then (innerP (exprP f) s.pk.p s.deep).bind fun r => some (r.1, r.2.up) else none
end Go.Proofs.YtjakeidbajkdcaaGreatDoor.A
/- Where a reader of programs stands in memory; what a call leaves as it was. -/
namespace Go.Proofs.YtjakeidbajkdcaaGreatDoor.A
open T Go.RowKit
/-- Every block that is not in S is as it was. -/
structure Fr (S : Nat → Prop) (w w' : World) : Prop where
  os : w'.os = w.os
  tape : w'.tape = w.tape
  output : w'.output = w.output
  size : w.heap.size ≤ w'.heap.size
  block : ∀ k, k < w.heap.size → ¬ S k → w'.heap[k]? = w.heap[k]?
theorem Fr.refl (S : Nat → Prop) (w : World) : Fr S w w := ⟨rfl, rfl, rfl, Nat.le_refl _, fun _ _ _ => rfl⟩
theorem Fr.trans {S : Nat → Prop} {a b c : World} (h : Fr S a b) (k : Fr S b c) : Fr S a c :=
  ⟨k.os.trans h.os, k.tape.trans h.tape, k.output.trans h.output, Nat.le_trans h.size k.size, fun i hi hs => (k.block i (Nat.lt_of_lt_of_le hi h.size) hs).trans (h.block i hi hs)⟩
theorem Fr.of_below {S : Nat → Prop} {w w' : World} (h : Below w.heap.size w w') : Fr S w w' := ⟨h.os, h.tape, h.output, h.size, fun k hk _ => h.block k hk⟩
theorem Fr.alloc {S : Nat → Prop} (w : World) (o : Obj) : Fr S w (w.alloc o) := Fr.of_below ((Below.refl _ w).alloc (Nat.le_refl _) o)
theorem Fr.mono {S T : Nat → Prop} {w w' : World} (h : Fr S w w') (hs : ∀ k, S k → T k) : Fr T w w' := ⟨h.os, h.tape, h.output, h.size, fun k hk ht => h.block k hk fun hh => ht (hs k hh)⟩
theorem Fr.set {S : Nat → Prop} {w0 w : World} (h : Fr S w0 w) {b j : Nat} (v : Value) (hb : S b ∨ w0.heap.size ≤ b) : Fr S w0 (w.setCell ⟨b, j, none⟩ v) :=
  ⟨h.os, h.tape, h.output, by simpa using h.size, fun k hk hs => (set_far w b j k v (by rintro rfl; rcases hb with hb | hb; exact hs hb; omega)).trans (h.block k hk hs)⟩
theorem Fr.below {B : Nat} {S : Nat → Prop} {w w' : World} (h : Fr S w w') (hs : ∀ k, S k → B ≤ k) (hB : B ≤ w.heap.size) : Below B w w' :=
  ⟨h.os, h.tape, h.output, h.size, fun k hk => h.block k (by omega) fun hh => by have := hs k hh; omega⟩
/-- The block in which the nodes lie. -/
def nbk (w : World) (rb : Nat) : Option Nat := match w.cell? ⟨rb, 1, none⟩ with | some v => v.ownBlock | none => none
/-- What a call of the reader's leaves: every block but the reader's own, and the nodes', is as it was. -/
structure Kpt (rb b : Nat) (w w' : World) : Prop where
  fr : Fr (fun k => k = rb ∨ k = b ∨ nbk w rb = some k) w w'
  nb : nbk w' rb = nbk w rb ∨ ∃ g, nbk w' rb = some g ∧ w.heap.size ≤ g
theorem nbk_heap {w w' : World} {rb : Nat} (h : w'.heap[rb]? = w.heap[rb]?) : nbk w' rb = nbk w rb := by
  unfold nbk; rw [World.cell?_of_block (a := ⟨rb, 1, none⟩) h]
theorem Kpt.refl (rb b : Nat) (w : World) : Kpt rb b w w := ⟨Fr.refl _ _, .inl rfl⟩
theorem Kpt.trans {rb b : Nat} {u v w : World} (h : Kpt rb b u v) (k : Kpt rb b v w) : Kpt rb b u w := by
  refine ⟨⟨k.fr.os.trans h.fr.os, k.fr.tape.trans h.fr.tape, k.fr.output.trans h.fr.output, Nat.le_trans h.fr.size k.fr.size, fun i hi hs => ?_⟩, ?_⟩
  · have h1 := h.fr.block i hi hs
    refine (k.fr.block i (Nat.lt_of_lt_of_le hi h.fr.size) fun hh => hs ?_).trans h1
    rcases hh with hh | hh | hh
    · exact .inl hh
    · exact .inr (.inl hh)
    · rcases h.nb with e | ⟨g, e, hg⟩
      · exact .inr (.inr (e ▸ hh))
      · rw [hh] at e; cases e; omega
  · rcases k.nb with e | ⟨g, e, hg⟩
    · rcases h.nb with e2 | ⟨g, e2, hg⟩
      · exact .inl (e.trans e2)
      · exact .inr ⟨g, e.trans e2, hg⟩
    · exact .inr ⟨g, e, Nat.le_trans h.fr.size hg⟩
theorem Kpt.of_below {rb b : Nat} {w w' : World} (hr : rb < w.heap.size) (h : Below w.heap.size w w') : Kpt rb b w w' := ⟨Fr.of_below h, .inl (nbk_heap (h.block rb hr))⟩
theorem Kpt.alloc {rb b : Nat} {u w : World} (h : Kpt rb b u w) (hr : rb < w.heap.size) (o : Obj) : Kpt rb b u (w.alloc o) := h.trans (Kpt.of_below hr ((Below.refl _ w).alloc (Nat.le_refl _) o))
theorem Kpt.drew {rb b : Nat} {u w : World} (h : Kpt rb b u w) : Kpt rb b u w.drew := h.trans ⟨⟨rfl, rfl, rfl, Nat.le_refl _, fun _ _ _ => rfl⟩, .inl rfl⟩
theorem Kpt.set {rb b : Nat} {u w : World} (h : Kpt rb b u w) {k j : Nat} (v : Value) (hk : u.heap.size ≤ k) (hr : rb < u.heap.size) : Kpt rb b u (w.setCell ⟨k, j, none⟩ v) :=
  ⟨h.fr.set v (.inr hk), by rw [nbk_heap (set_far w k j rb v (by omega))]; exact h.nb⟩
/-- A block of a call's own. -/
def Loc (rb b : Nat) (w : World) (k : Nat) (cs : Array Value) (t : TypeId) : Prop := w.heap[k]? = some (.cells cs t (0, 0)) ∧ k ≠ rb ∧ k ≠ b ∧ nbk w rb ≠ some k
theorem Loc.kpt {rb b k : Nat} {w w' : World} {cs : Array Value} {t : TypeId} (h : Loc rb b w k cs t) (hk : Kpt rb b w w') : Loc rb b w' k cs t := by
  obtain ⟨h1, h2, h3, h4⟩ := h
  have hlt := (Array.getElem?_eq_some_iff.1 h1).1
  refine ⟨(hk.fr.block k hlt fun hh => ?_).trans h1, h2, h3, fun e => ?_⟩
  · rcases hh with hh | hh | hh
    · exact h2 hh
    · exact h3 hh
    · exact h4 hh
  · rcases hk.nb with e2 | ⟨g, e2, hg⟩
    · exact h4 (e2 ▸ e)
    · rw [e] at e2; cases e2; omega
theorem Loc.set {rb b k j : Nat} {w : World} {cs : Array Value} {t : TypeId} (h : Loc rb b w k cs t) (v : Value) : Loc rb b (w.setCell ⟨k, j, none⟩ v) k (cs.setIfInBounds j v) t :=
  ⟨blk_put h.1, h.2.1, h.2.2.1, by rw [nbk_heap (set_far w k j rb v (Ne.symm h.2.1))]; exact h.2.2.2⟩
theorem Loc.far {rb b k m j : Nat} {w : World} {cs : Array Value} {t : TypeId} (h : Loc rb b w k cs t) (v : Value) (hm : m ≠ k) (hr : m ≠ rb) : Loc rb b (w.setCell ⟨m, j, none⟩ v) k cs t :=
  ⟨(set_far w m j k v (Ne.symm hm)).trans h.1, h.2.1, h.2.2.1, by rw [nbk_heap (set_far w m j rb v (Ne.symm hr))]; exact h.2.2.2⟩
theorem Loc.lt {rb b k : Nat} {w : World} {cs : Array Value} {t : TypeId} (h : Loc rb b w k cs t) : k < w.heap.size := (Array.getElem?_eq_some_iff.1 h.1).1
theorem Loc.cell {rb b k : Nat} {w : World} {cs : Array Value} {t : TypeId} (h : Loc rb b w k cs t) (j : Nat) : w.cell? ⟨k, j, none⟩ = cs[j]? := Blk_cell h.1 j
theorem Loc.frozen {rb b k : Nat} {w : World} {cs : Array Value} {t : TypeId} (h : Loc rb b w k cs t) (j : Nat) : w.frozen? ⟨k, j, none⟩ = false := Blk_frozen h.1 j
/-- Tokens from an address on. -/
def TkRow (w : World) (g o : Nat) (l : List Tk) : Prop := ∀ j t, l[j]? = some t →
  w.cell? ⟨g, o + j * 4, none⟩ = some (.int .i64 t.k) ∧ w.cell? ⟨g, o + j * 4 + 1, none⟩ = some (.string t.s) ∧ w.cell? ⟨g, o + j * 4 + 2, none⟩ = some (.int .i64 t.n) ∧ w.cell? ⟨g, o + j * 4 + 3, none⟩ = some (.int .i64 t.p)
theorem TkRow.heap {w w' : World} {g o : Nat} {l : List Tk} (h : TkRow w g o l) (he : w'.heap[g]? = w.heap[g]?) : TkRow w' g o l := fun j t hj => by
  obtain ⟨h0, h1, h2, h3⟩ := h j t hj
  have e : ∀ k, w'.cell? ⟨g, k, none⟩ = w.cell? ⟨g, k, none⟩ := fun k => World.cell?_of_block (a := ⟨g, k, none⟩) he
  exact ⟨(e _).trans h0, (e _).trans h1, (e _).trans h2, (e _).trans h3⟩
theorem TkRow.tail {w : World} {g o : Nat} {t : Tk} {l : List Tk} (h : TkRow w g o (t :: l)) : TkRow w g (o + 4) l := fun j t' hj => by
  have := h (j + 1) t' (by simpa using hj)
  rw [show o + (j + 1) * 4 = o + 4 + j * 4 by omega] at this
  exact this
/-- A reader of tokens: none, or one whose block is b. -/
def Rdr (B rb b : Nat) (w : World) (p : Option Addr) (l : List Tk) (E : Int) (dead : Bool) : Prop :=
  (dead = true ∧ p = none ∧ l = [] ∧ E = 0) ∨
  (dead = false ∧ p = some ⟨b, 0, none⟩ ∧ ∃ A c, w.heap[b]? = some (.cells #[.slice A l.length c, .int .i64 E] 82 (0, 0)) ∧ l.length ≤ c ∧ (l.length ≤ 1000000 ∧ ∀ t ∈ l, t.s.size ≤ 281474976710656) ∧ (l ≠ [] → ∃ g o, A = some ⟨g, o, none⟩ ∧ g < B ∧ g ≠ rb ∧ g ≠ b ∧ TkRow w g o l))
theorem Rdr.heap {B rb b : Nat} {w w' : World} {p : Option Addr} {l : List Tk} {E : Int} {dead : Bool} (h : Rdr B rb b w p l E dead) (hb : w'.heap[b]? = w.heap[b]?) (hg : ∀ g, g < B → g ≠ rb → g ≠ b → w'.heap[g]? = w.heap[g]?) : Rdr B rb b w' p l E dead := by
  rcases h with h | ⟨h1, h2, A, c, h3, h4, h5, h6⟩
  · exact .inl h
  · refine .inr ⟨h1, h2, A, c, hb.trans h3, h4, h5, fun h0 => ?_⟩
    obtain ⟨g, o, e, g1, g2, g3, hr⟩ := h6 h0
    exact ⟨g, o, e, g1, g2, g3, hr.heap (hg g g1 g2 g3)⟩
/-- Nodes of the call's own, whose parts lie in no block of Av's. -/
def OwnA (Av : Nat → Prop) (B : Nat) (w : World) (v : Value) (ps : List (Nd × Value)) : Prop := OwnN B w v ps ∧ ∀ x ∈ ps, ∀ g, x.2.ownBlock = some g → ¬ Av g
/-- The state of a reader of programs: its block rb, the tokens' reader's block b, nodes and their parts from block B on. -/
structure St (Av : Nat → Prop) (B rb b : Nat) (w : World) (s : PS) : Prop where
  av : ∀ g, Av g → g < w.heap.size
  hrb : rb < B
  hb : b < B
  hB : B ≤ w.heap.size
  ne : rb ≠ b
  at_ : ∃ p v ps, w.heap[rb]? = some (.cells #[.pointer p, v, .int .i64 s.d, .int .i64 s.err, .int .i64 s.place] 51 (0, 0)) ∧ Rdr B rb b w p s.l s.E s.dead ∧ ps.map Prod.fst = s.N ∧ OwnA Av B w v ps
section
variable {Av : Nat → Prop} {B rb b : Nat} {w w' : World} {s : PS}
theorem St.nbB (h : St Av B rb b w s) : ∀ g, nbk w rb = some g → B ≤ g ∧ ∃ cur, w.heap[g]? = some (.cells cur 37 (0, 0)) := by
  obtain ⟨p, v, ps, h1, h2, h3, h4⟩ := h.at_
  intro g hg
  have e : nbk w rb = v.ownBlock := by unfold nbk; rw [Blk_cell h1 1]; rfl
  rw [e] at hg
  exact own27 h4.1.1 g hg
/-- A state stays where only other blocks turn. -/
theorem St.heap (h : St Av B rb b w s) (hs : w.heap.size ≤ w'.heap.size) (hr : w'.heap[rb]? = w.heap[rb]?) (hb : w'.heap[b]? = w.heap[b]?) (hl : ∀ g, g < B → g ≠ rb → g ≠ b → w'.heap[g]? = w.heap[g]?)
    (hn : ∀ g cs t, B ≤ g → w.heap[g]? = some (.cells cs t (0, 0)) → (t = 97 ∧ ¬ Av g) ∨ nbk w rb = some g → w'.heap[g]? = w.heap[g]?) : St Av B rb b w' s := by
  obtain ⟨p, v, ps, h1, h2, h3, h4⟩ := h.at_
  have e : nbk w rb = v.ownBlock := by unfold nbk; rw [Blk_cell h1 1]; rfl
  refine ⟨fun g hg => Nat.lt_of_lt_of_le (h.av g hg) hs, h.hrb, h.hb, Nat.le_trans h.hB hs, h.ne, p, v, ps, hr.trans h1, h2.heap hb hl, h3, ⟨⟨h4.1.1.1, ?_⟩, fun x hx => ⟨(h4.1.2 x hx).1, ?_⟩⟩, h4.2⟩
  · rcases h4.1.1.2 with h0 | ⟨g, cap, cur, e1, e2, e3, e4⟩
    · exact .inl h0
    · exact .inr ⟨g, cap, cur, e1, e2, (hn g _ _ e2 e3 (.inr (by rw [e, e1]; rfl))).trans e3, e4⟩
  · rcases (h4.1.2 x hx).2 with h0 | ⟨g, cap, cur, e1, e2, e3, e4⟩
    · exact .inl h0
    · exact .inr ⟨g, cap, cur, e1, e2, (hn g _ _ e2 e3 (.inl ⟨rfl, h4.2 x hx g (by rw [e1]; rfl)⟩)).trans e3, e4⟩
theorem St.below (h : St Av B rb b w s) (hb : Below w.heap.size w w') : St Av B rb b w' s :=
  h.heap hb.size (hb.block _ (Nat.lt_of_lt_of_le h.hrb h.hB)) (hb.block _ (Nat.lt_of_lt_of_le h.hb h.hB)) (fun g hg _ _ => hb.block g (Nat.lt_of_lt_of_le hg h.hB)) fun g cs t _ hg _ => hb.block g (Array.getElem?_eq_some_iff.1 hg).1
theorem St.alloc (h : St Av B rb b w s) (o : Obj) : St Av B rb b (w.alloc o) s := h.below ((Below.refl _ w).alloc (Nat.le_refl _) o)
theorem St.drew (h : St Av B rb b w s) : St Av B rb b w.drew s := h.below (Below.refl _ w).drew
theorem St.loc {k j : Nat} {cs : Array Value} {t : TypeId} (h : St Av B rb b w s) (hl : Loc rb b w k cs t) (ht : t ≠ 97) (hk : B ≤ k) (v : Value) : St Av B rb b (w.setCell ⟨k, j, none⟩ v) s := by
  have hb := h.hb
  refine h.heap (by simp) (set_far _ _ _ _ _ (Ne.symm hl.2.1)) (set_far _ _ _ _ _ (Ne.symm hl.2.2.1)) (fun g hg _ _ => set_far _ _ _ _ _ (by omega)) fun g cs' t' hg hg' ht' => set_far _ _ _ _ _ ?_
  rintro rfl
  rcases ht' with ⟨rfl, _⟩ | h0
  · rw [hl.1] at hg'; injection hg' with e; injection e with _ e _; exact ht e
  · exact hl.2.2.2 h0
theorem St.rlt (h : St Av B rb b w s) : rb < w.heap.size := Nat.lt_of_lt_of_le h.hrb h.hB
theorem St.blt (h : St Av B rb b w s) : b < w.heap.size := Nat.lt_of_lt_of_le h.hb h.hB
/-- A new block is a call's own. -/
theorem Loc.new (h : St Av B rb b w s) (cs : Array Value) (t : TypeId) : Loc rb b (w.alloc (.cells cs t)) w.heap.size cs t := by
  have h1 := h.rlt
  have h2 := h.blt
  refine ⟨World.alloc_heap_new w _, by omega, by omega, fun e => ?_⟩
  rw [nbk_heap (Below.heap_alloc _ _ _ h1)] at e
  obtain ⟨_, cur, hc⟩ := h.nbB _ e
  have := (Array.getElem?_eq_some_iff.1 hc).1
  omega
theorem Loc.alloc {k : Nat} {cs : Array Value} {t : TypeId} (h : Loc rb b w k cs t) (hr : rb < w.heap.size) (o : Obj) : Loc rb b (w.alloc o) k cs t := h.kpt ((Kpt.refl rb b w).alloc hr o)
theorem Loc.drew {k : Nat} {cs : Array Value} {t : TypeId} (h : Loc rb b w k cs t) : Loc rb b w.drew k cs t := h.kpt (Kpt.refl rb b w).drew
end
/-- What a call of the reader's answers: a place, a state. -/
def APost (Av : Nat → Prop) (B rb b : Nat) (w : World) (a : Nat) (s' : PS) (e : Ending) (w' : World) : Prop := e = .returned (.int .i64 (a : Int)) ∧ St Av B rb b w' s' ∧ Kpt rb b w w'
/-- A call without a result. -/
def VPost (Av : Nat → Prop) (B rb b : Nat) (w : World) (s' : PS) (e : Ending) (w' : World) : Prop := e = .returned (.tuple #[]) ∧ St Av B rb b w' s' ∧ Kpt rb b w w'
def BPost (Av : Nat → Prop) (B rb b : Nat) (w : World) (x : Bool) (s' : PS) (e : Ending) (w' : World) : Prop := e = .returned (.bool x) ∧ St Av B rb b w' s' ∧ Kpt rb b w w'
def SPost (Av : Nat → Prop) (B rb b : Nat) (w : World) (x : ByteArray) (s' : PS) (e : Ending) (w' : World) : Prop := e = .returned (.string x) ∧ St Av B rb b w' s' ∧ Kpt rb b w w'
end Go.Proofs.YtjakeidbajkdcaaGreatDoor.A
/- How deep it is nested, no row turns. -/
namespace Go.Proofs.YtjakeidbajkdcaaGreatDoor.A
open T
theorem bnd {α β : Type} {o : Option α} {f : α → Option β} {r : β} (h : o.bind f = some r) : ∃ a, o = some a ∧ f a = some r := Option.bind_eq_some_iff.1 h
/-- A row that keeps the depth. -/
def Kd (X : PS → Ans) : Prop := ∀ s r, X s = some r → r.2.d = s.d
theorem nx_d (s : PS) : s.nx.d = s.d := rfl
theorem must_d (s : PS) (k : Int) (x : List UInt8) : (s.must k x).d = s.d := by unfold PS.must; split <;> rfl
theorem txt_d (s : PS) (k : Int) : (s.txt k).2.d = s.d := by unfold PS.txt; split <;> rfl
theorem lab_d (s : PS) (k : Int) (fs : List Fld) : (s.lab k fs).2.d = s.d := by
  unfold PS.lab
  split
  · exact txt_d s k
  · split
    · exact txt_d s k
    · exact txt_d s k
theorem add_d {s : PS} {n : Nd} {r : Nat × PS} (h : s.add n = some r) : r.2.d = s.d := by
  unfold PS.add at h
  split at h
  · cases h; rfl
  · cases h
theorem leaf_d (s : PS) : (leafN s).2.d = s.d := by
  unfold leafN
  repeat' split
  all_goals rfl
theorem op_d {X : PS → Ans} (hX : Kd X) {a : Nat} {s : PS} {r : Nat × PS} (h : opP X a s = some r) : r.2.d = s.d := by
  obtain ⟨q, h1, h2⟩ := bnd h
  exact (add_d h2).trans ((hX _ _ h1).trans (nx_d s))
theorem loop_d {X : PS → Ans} (hX : Kd X) (ops : List (List UInt8)) : ∀ n a s r, loopP ops X n a s = some r → r.2.d = s.d := by
  intro n
  induction n with
  | zero => intro a s r h; cases h
  | succ n ih =>
    intro a s r h
    rw [loopP] at h
    split at h
    · obtain ⟨q, h1, h2⟩ := bnd h
      exact (ih _ _ _ h2).trans (op_d hX h1)
    · cases h; rfl
theorem postL_d : ∀ n a s r, postL n a s = some r → r.2.d = s.d := by
  intro n
  induction n with
  | zero => intro a s r h; cases h
  | succ n ih =>
    intro a s r h
    rw [postL] at h
    split at h
    · obtain ⟨q, h1, h2⟩ := bnd h
      exact (ih _ _ _ h2).trans ((add_d h1).trans ((txt_d _ _).trans (nx_d s)))
    · cases h; rfl
theorem appL_d {X : PS → Ans} (hX : Kd X) : ∀ n a s r, appL X n a s = some r → r.2.d = s.d := by
  intro n
  induction n with
  | zero => intro a s r h; cases h
  | succ n ih =>
    intro a s r h
    rw [appL] at h
    split at h
    · split at h
      · cases h
      · obtain ⟨q, h1, h2⟩ := bnd h
        obtain ⟨u, h3, h4⟩ := bnd h2
        exact (ih _ _ _ h4).trans ((add_d h3).trans (hX _ _ h1))
    · cases h; rfl
theorem recL_d {X : PS → Ans} (hX : Kd X) (p : Int) : ∀ n fs s r, recL X p n fs s = some r → r.2.d = s.d := by
  intro n
  induction n with
  | zero => intro fs s r h; cases h
  | succ n ih =>
    intro fs s r h
    rw [recL] at h
    split at h
    · obtain ⟨q, h1, h2⟩ := bnd h
      have e1 : q.2.d = s.d := (hX _ _ h1).trans ((must_d _ _ _).trans (lab_d _ _ _))
      simp only at h2
      split at h2
      · exact (ih _ _ _ h2).trans ((nx_d _).trans e1)
      · exact (add_d h2).trans ((must_d _ _ _).trans e1)
    · cases h
theorem casL_d {X : PS → Ans} (hX : Kd X) (p : Int) (a : Nat) : ∀ n fs s r, casL X p a n fs s = some r → r.2.d = s.d := by
  intro n
  induction n with
  | zero => intro fs s r h; cases h
  | succ n ih =>
    intro fs s r h
    rw [casL] at h
    split at h
    · obtain ⟨q, h1, h2⟩ := bnd h
      have e1 : q.2.d = s.d := (hX _ _ h1).trans ((must_d _ _ _).trans ((txt_d _ _).trans (lab_d _ _ _)))
      simp only at h2
      split at h2
      · exact (ih _ _ _ h2).trans ((nx_d _).trans e1)
      · exact (add_d h2).trans ((must_d _ _ _).trans e1)
    · cases h
theorem atom_d {X : PS → Ans} (hX : Kd X) : Kd (atomP X) := by
  intro s r h
  unfold atomP at h
  split at h
  · obtain ⟨q, h1, h2⟩ := bnd h
    cases h2
    exact (must_d _ _ _).trans ((hX _ _ h1).trans (nx_d s))
  split at h
  · unfold recP at h
    split at h
    · exact (add_d h).trans rfl
    · exact (recL_d hX _ _ _ _ _ h).trans rfl
  split at h
  · obtain ⟨q, h1, h2⟩ := bnd h
    exact (casL_d hX _ _ _ _ _ _ h2).trans ((must_d _ _ _).trans ((hX _ _ h1).trans (nx_d s)))
  · exact (add_d h).trans (leaf_d s)
theorem post_d {X : PS → Ans} (hX : Kd X) : Kd (postP X) := by
  intro s r h
  obtain ⟨q, h1, h2⟩ := bnd h
  exact (postL_d _ _ _ _ h2).trans (atom_d hX _ _ h1)
theorem app_d {X : PS → Ans} (hX : Kd X) : Kd (appP X) := by
  intro s r h
  unfold appP at h
  split at h
  · obtain ⟨q, h1, h2⟩ := bnd h
    exact (add_d h2).trans ((post_d hX _ _ h1).trans (txt_d _ _))
  · obtain ⟨q, h1, h2⟩ := bnd h
    exact (appL_d (post_d hX) _ _ _ _ h2).trans (post_d hX _ _ h1)
theorem prod_d {X : PS → Ans} (hX : Kd X) : Kd (prodP X) := by
  intro s r h
  obtain ⟨q, h1, h2⟩ := bnd h
  exact (loop_d (app_d hX) _ _ _ _ _ h2).trans (app_d hX _ _ h1)
theorem sum_d {X : PS → Ans} (hX : Kd X) : Kd (sumP X) := by
  intro s r h
  obtain ⟨q, h1, h2⟩ := bnd h
  exact (loop_d (prod_d hX) _ _ _ _ _ h2).trans (prod_d hX _ _ h1)
theorem cmp_d {X : PS → Ans} (hX : Kd X) : Kd (cmpP X) := by
  intro s r h
  obtain ⟨q, h1, h2⟩ := bnd h
  split at h2
  · exact (op_d (sum_d hX) h2).trans (sum_d hX _ _ h1)
  · cases h2; exact sum_d hX _ _ h1
theorem fun_d {X : PS → Ans} (hX : Kd X) (p : Int) : Kd (funP X p) := by
  intro s r h
  obtain ⟨q, h1, h2⟩ := bnd h
  exact (add_d h2).trans ((hX _ _ h1).trans ((must_d _ _ _).trans (txt_d _ _)))
theorem bindK_d {X : PS → Ans} (hX : Kd X) (p k : Int) : Kd (bindK X p k) := by
  intro s r h
  obtain ⟨q, h1, h2⟩ := bnd h
  have e1 : q.2.d = s.d := (hX _ _ h1).trans ((must_d _ _ _).trans (txt_d _ _))
  simp only at h2
  split at h2
  · split at h2
    · cases h2
    · obtain ⟨u, h3, h4⟩ := bnd h2
      refine (add_d h4).trans ((hX _ _ h3).trans ((must_d _ _ _).trans ?_))
      split
      · exact e1
      · exact e1
  · obtain ⟨u, h3, h4⟩ := bnd h2
    exact (add_d h4).trans ((hX _ _ h3).trans ((must_d _ _ _).trans e1))
theorem bind_d {X : PS → Ans} (hX : Kd X) (p : Int) : Kd (bindP X p) := by
  intro s r h
  unfold bindP at h
  split at h
  · exact (bindK_d hX _ _ _ _ h).trans (nx_d s)
  · exact bindK_d hX _ _ _ _ h
theorem if_d {X : PS → Ans} (hX : Kd X) (p : Int) : Kd (ifP X p) := by
  intro s r h
  obtain ⟨q, h1, h2⟩ := bnd h
  obtain ⟨u, h3, h4⟩ := bnd h2
  obtain ⟨t, h5, h6⟩ := bnd h4
  exact (add_d h6).trans ((hX _ _ h5).trans ((must_d _ _ _).trans ((hX _ _ h3).trans ((must_d _ _ _).trans (hX _ _ h1)))))
theorem inner_d {X : PS → Ans} (hX : Kd X) (p : Int) : Kd (innerP X p) := by
  intro s r h
  unfold innerP at h
  split at h
  · exact (fun_d hX _ _ _ h).trans (nx_d s)
  split at h
  · exact (bind_d hX _ _ _ h).trans (nx_d s)
  split at h
  · exact (if_d hX _ _ _ h).trans (nx_d s)
  · exact cmp_d hX _ _ h
theorem deep_d (s : PS) : s.deep.d = s.d + 1 := rfl
theorem expr_d : ∀ f, Kd (exprP f) := by
  intro f
  induction f with
  | zero => intro s r h; cases h
  | succ f ih =>
    intro s r h
    rw [exprP] at h
    split at h
    · obtain ⟨q, h1, h2⟩ := bnd h
      cases h2
      have := inner_d ih _ _ _ h1
      rw [deep_d] at this
      show q.2.d - 1 = s.d
      omega
    · cases h
end Go.Proofs.YtjakeidbajkdcaaGreatDoor.A
