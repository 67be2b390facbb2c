/- Joined by program: AKeep, AGa, AGb, AGc, AGd. -/
import Derived.Test.YtjakeidbajkdcaaGreatDoorG25
/- How deep it is nested, no row turns. -/
namespace Go.Proofs.YtjakeidbajkdcaaGreatDoor.A
open T
theorem bnd {α β : Type} {o : Option α} {f : α → Option β} {r : β} (h : o.bind f = some r) : ∃ a, o = some a ∧ f a = some r := Option.bind_eq_some_iff.1 h
/-- A row that keeps the depth. -/
def Kd (X : PS → Ans) : Prop := ∀ s r, X s = some r → r.2.d = s.d
theorem nx_d (s : PS) : s.nx.d = s.d := rfl
theorem must_d (s : PS) (k : Int) (x : List UInt8) : (s.must k x).d = s.d := by unfold PS.must; split <;> rfl
theorem txt_d (s : PS) (k : Int) : (s.txt k).2.d = s.d := by unfold PS.txt; split <;> rfl
theorem lab_d (s : PS) (k : Int) (fs : List Fld) : (s.lab k fs).2.d = s.d := by
  unfold PS.lab
  split
  · exact txt_d s k
  · split
    · exact txt_d s k
    · exact txt_d s k
theorem add_d {s : PS} {n : Nd} {r : Nat × PS} (h : s.add n = some r) : r.2.d = s.d := by
  unfold PS.add at h
  split at h
  · cases h; rfl
  · cases h
theorem leaf_d (s : PS) : (leafN s).2.d = s.d := by
  unfold leafN
  repeat' split
  all_goals rfl
theorem op_d {X : PS → Ans} (hX : Kd X) {a : Nat} {s : PS} {r : Nat × PS} (h : opP X a s = some r) : r.2.d = s.d := by
  obtain ⟨q, h1, h2⟩ := bnd h
  exact (add_d h2).trans ((hX _ _ h1).trans (nx_d s))
theorem loop_d {X : PS → Ans} (hX : Kd X) (ops : List (List UInt8)) : ∀ n a s r, loopP ops X n a s = some r → r.2.d = s.d := by
  intro n
  induction n with
  | zero => intro a s r h; cases h
  | succ n ih =>
    intro a s r h
    rw [loopP] at h
    split at h
    · obtain ⟨q, h1, h2⟩ := bnd h
      exact (ih _ _ _ h2).trans (op_d hX h1)
    · cases h; rfl
theorem postL_d : ∀ n a s r, postL n a s = some r → r.2.d = s.d := by
  intro n
  induction n with
  | zero => intro a s r h; cases h
  | succ n ih =>
    intro a s r h
    rw [postL] at h
    split at h
    · obtain ⟨q, h1, h2⟩ := bnd h
      exact (ih _ _ _ h2).trans ((add_d h1).trans ((txt_d _ _).trans (nx_d s)))
    · cases h; rfl
theorem appL_d {X : PS → Ans} (hX : Kd X) : ∀ n a s r, appL X n a s = some r → r.2.d = s.d := by
  intro n
  induction n with
  | zero => intro a s r h; cases h
  | succ n ih =>
    intro a s r h
    rw [appL] at h
    split at h
    · split at h
      · cases h
      · obtain ⟨q, h1, h2⟩ := bnd h
        obtain ⟨u, h3, h4⟩ := bnd h2
        exact (ih _ _ _ h4).trans ((add_d h3).trans (hX _ _ h1))
    · cases h; rfl
theorem recL_d {X : PS → Ans} (hX : Kd X) (p : Int) : ∀ n fs s r, recL X p n fs s = some r → r.2.d = s.d := by
  intro n
  induction n with
  | zero => intro fs s r h; cases h
  | succ n ih =>
    intro fs s r h
    rw [recL] at h
    split at h
    · obtain ⟨q, h1, h2⟩ := bnd h
      have e1 : q.2.d = s.d := (hX _ _ h1).trans ((must_d _ _ _).trans (lab_d _ _ _))
      simp only at h2
      split at h2
      · exact (ih _ _ _ h2).trans ((nx_d _).trans e1)
      · exact (add_d h2).trans ((must_d _ _ _).trans e1)
    · cases h
theorem casL_d {X : PS → Ans} (hX : Kd X) (p : Int) (a : Nat) : ∀ n fs s r, casL X p a n fs s = some r → r.2.d = s.d := by
  intro n
  induction n with
  | zero => intro fs s r h; cases h
  | succ n ih =>
    intro fs s r h
    rw [casL] at h
    split at h
    · obtain ⟨q, h1, h2⟩ := bnd h
      have e1 : q.2.d = s.d := (hX _ _ h1).trans ((must_d _ _ _).trans ((txt_d _ _).trans (lab_d _ _ _)))
      simp only at h2
      split at h2
      · exact (ih _ _ _ h2).trans ((nx_d _).trans e1)
      · exact (add_d h2).trans ((must_d _ _ _).trans e1)
    · cases h
theorem atom_d {X : PS → Ans} (hX : Kd X) : Kd (atomP X) := by
  intro s r h
  unfold atomP at h
  split at h
  · obtain ⟨q, h1, h2⟩ := bnd h
    cases h2
    exact (must_d _ _ _).trans ((hX _ _ h1).trans (nx_d s))
  split at h
  · unfold recP at h
    split at h
    · exact (add_d h).trans rfl
    · exact (recL_d hX _ _ _ _ _ h).trans rfl
  split at h
  · obtain ⟨q, h1, h2⟩ := bnd h
    exact (casL_d hX _ _ _ _ _ _ h2).trans ((must_d _ _ _).trans ((hX _ _ h1).trans (nx_d s)))
  · exact (add_d h).trans (leaf_d s)
theorem post_d {X : PS → Ans} (hX : Kd X) : Kd (postP X) := by
  intro s r h
  obtain ⟨q, h1, h2⟩ := bnd h
  exact (postL_d _ _ _ _ h2).trans (atom_d hX _ _ h1)
theorem app_d {X : PS → Ans} (hX : Kd X) : Kd (appP X) := by
  intro s r h
  unfold appP at h
  split at h
  · obtain ⟨q, h1, h2⟩ := bnd h
    exact (add_d h2).trans ((post_d hX _ _ h1).trans (txt_d _ _))
  · obtain ⟨q, h1, h2⟩ := bnd h
    exact (appL_d (post_d hX) _ _ _ _ h2).trans (post_d hX _ _ h1)
theorem prod_d {X : PS → Ans} (hX : Kd X) : Kd (prodP X) := by
  intro s r h
  obtain ⟨q, h1, h2⟩ := bnd h
  exact (loop_d (app_d hX) _ _ _ _ _ h2).trans (app_d hX _ _ h1)
theorem sum_d {X : PS → Ans} (hX : Kd X) : Kd (sumP X) := by
  intro s r h
  obtain ⟨q, h1, h2⟩ := bnd h
  exact (loop_d (prod_d hX) _ _ _ _ _ h2).trans (prod_d hX _ _ h1)
theorem cmp_d {X : PS → Ans} (hX : Kd X) : Kd (cmpP X) := by
  intro s r h
  obtain ⟨q, h1, h2⟩ := bnd h
  split at h2
  · exact (op_d (sum_d hX) h2).trans (sum_d hX _ _ h1)
  · cases h2; exact sum_d hX _ _ h1
theorem fun_d {X : PS → Ans} (hX : Kd X) (p : Int) : Kd (funP X p) := by
  intro s r h
  obtain ⟨q, h1, h2⟩ := bnd h
  exact (add_d h2).trans ((hX _ _ h1).trans ((must_d _ _ _).trans (txt_d _ _)))
theorem bindK_d {X : PS → Ans} (hX : Kd X) (p k : Int) : Kd (bindK X p k) := by
  intro s r h
  obtain ⟨q, h1, h2⟩ := bnd h
  have e1 : q.2.d = s.d := (hX _ _ h1).trans ((must_d _ _ _).trans (txt_d _ _))
  simp only at h2
  split at h2
  · split at h2
    · cases h2
    · obtain ⟨u, h3, h4⟩ := bnd h2
      refine (add_d h4).trans ((hX _ _ h3).trans ((must_d _ _ _).trans ?_))
      split
      · exact e1
      · exact e1
  · obtain ⟨u, h3, h4⟩ := bnd h2
    exact (add_d h4).trans ((hX _ _ h3).trans ((must_d _ _ _).trans e1))
theorem bind_d {X : PS → Ans} (hX : Kd X) (p : Int) : Kd (bindP X p) := by
  intro s r h
  unfold bindP at h
  split at h
  · exact (bindK_d hX _ _ _ _ h).trans (nx_d s)
  · exact bindK_d hX _ _ _ _ h
theorem if_d {X : PS → Ans} (hX : Kd X) (p : Int) : Kd (ifP X p) := by
  intro s r h
  obtain ⟨q, h1, h2⟩ := bnd h
  obtain ⟨u, h3, h4⟩ := bnd h2
  obtain ⟨t, h5, h6⟩ := bnd h4
  exact (add_d h6).trans ((hX _ _ h5).trans ((must_d _ _ _).trans ((hX _ _ h3).trans ((must_d _ _ _).trans (hX _ _ h1)))))
theorem inner_d {X : PS → Ans} (hX : Kd X) (p : Int) : Kd (innerP X p) := by
  intro s r h
  unfold innerP at h
  split at h
  · exact (fun_d hX _ _ _ h).trans (nx_d s)
  split at h
  · exact (bind_d hX _ _ _ h).trans (nx_d s)
  split at h
  · exact (if_d hX _ _ _ h).trans (nx_d s)
  · exact cmp_d hX _ _ h
theorem deep_d (s : PS) : s.deep.d = s.d + 1 := rfl
theorem expr_d : ∀ f, Kd (exprP f) := by
  intro f
  induction f with
  | zero => intro s r h; cases h
  | succ f ih =>
    intro s r h
    rw [exprP] at h
    split at h
    · obtain ⟨q, h1, h2⟩ := bnd h
      cases h2
      have := inner_d ih _ _ _ h1
      rw [deep_d] at this
      show q.2.d - 1 = s.d
      omega
    · cases h
end Go.Proofs.YtjakeidbajkdcaaGreatDoor.A
/- The program's reader beside the language: what a failed state does, what the small calls do in a state without an error. -/
namespace Go.Proofs.YtjakeidbajkdcaaGreatDoor.A
open T
def Al (s : PS) : Prop := s.dead = false ∧ s.err = 0
/-- Failed: the error, its place. -/
def Dd (s : PS) (e p : Int) : Prop := s.dead = true ∧ s.l = [] ∧ s.E = 0 ∧ s.err = e ∧ s.place = p ∧ e ≠ 0
def D1 (s : PS) : PS := { s with N := s.N ++ [mk 0 0] }
section
variable {s : PS} {e p : Int}
theorem Dd.no (h : Dd s e p) (a c : Int) : s.no a c = s := by
  obtain ⟨h1, h2, h3, h4, h5, h6⟩ := h
  cases s
  simp only at h1 h2 h3 h4 h5
  subst h1 h2 h3 h4 h5
  simp [PS.no, h6]
theorem Dd.pk (h : Dd s e p) : s.pk = ⟨0, ⟨#[]⟩, 0, 0⟩ := by unfold PS.pk; rw [h.2.1]; simp [h.2.2.1]
theorem Dd.is (h : Dd s e p) (k : Int) (x : List UInt8) : s.is k x = false := by unfold PS.is; rw [h.2.1]; rfl
theorem Dd.must (h : Dd s e p) (k : Int) (x : List UInt8) : s.must k x = s := by unfold PS.must; rw [h.is, if_neg (by decide), h.no]
theorem Dd.txt (h : Dd s e p) {k : Int} (hk : k ≠ 0) : s.txt k = (⟨#[]⟩, s) := by
  unfold PS.txt
  rw [h.pk, if_neg (Ne.symm hk), h.no]
theorem Dd.lab (h : Dd s e p) {k : Int} (hk : k ≠ 0) (fs : List Fld) : s.lab k fs = (⟨#[]⟩, s) := by
  unfold PS.lab
  rw [h.txt hk]
  simp only [h.no]
  split
  · rfl
  · split <;> rfl
theorem Dd.d1 (h : Dd s e p) : Dd (D1 s) e p := h
theorem Dd.d (h : Dd s e p) (n : Nat) : Dd { s with d := n } e p := h
theorem Dd.leaf (h : Dd s e p) : leafN s = (mk 0 0, s) := by
  unfold leafN
  rw [h.is, h.is, h.pk, h.no]
  rfl
theorem Dd.beg (h : Dd s e p) : begins s.l = false := by rw [h.2.1]; rfl
theorem Dd.any (h : Dd s e p) (ops : List (List UInt8)) : anyOf ops s = false := by
  unfold anyOf
  rw [List.any_eq_false]
  intro o _
  rw [h.is]; decide
theorem add_some {n : Nd} (h : s.N.length < 1000000) : s.add n = some (s.N.length, { s with N := s.N ++ [n] }) := by unfold PS.add; rw [if_pos h]
theorem Dd.atom (h : Dd s e p) (X : PS → Ans) (hN : s.N.length < 1000000) : atomP X s = some (s.N.length, D1 s) := by
  unfold atomP
  rw [h.is, h.is, h.is, h.leaf]
  exact add_some hN
theorem Dd.post (h : Dd s e p) (X : PS → Ans) (hN : s.N.length < 1000000) : postP X s = some (s.N.length, D1 s) := by
  unfold postP
  rw [h.atom X hN, Option.bind_some, postL, h.d1.is]
  rfl
theorem Dd.app (h : Dd s e p) (X : PS → Ans) (hN : s.N.length < 1000000) : appP X s = some (s.N.length, D1 s) := by
  unfold appP
  rw [h.pk, if_neg (by decide), h.post X hN, Option.bind_some, appL, h.d1.beg]
  rfl
theorem Dd.prod (h : Dd s e p) (X : PS → Ans) (hN : s.N.length < 1000000) : prodP X s = some (s.N.length, D1 s) := by
  unfold prodP
  rw [h.app X hN, Option.bind_some, loopP, h.d1.any]
  rfl
theorem Dd.sum (h : Dd s e p) (X : PS → Ans) (hN : s.N.length < 1000000) : sumP X s = some (s.N.length, D1 s) := by
  unfold sumP
  rw [h.prod X hN, Option.bind_some, loopP, h.d1.any]
  rfl
theorem Dd.cmp (h : Dd s e p) (X : PS → Ans) (hN : s.N.length < 1000000) : cmpP X s = some (s.N.length, D1 s) := by
  unfold cmpP
  rw [h.sum X hN, Option.bind_some]
  simp only
  rw [h.d1.any]
  rfl
theorem Dd.inner (h : Dd s e p) (X : PS → Ans) (q : Int) (hN : s.N.length < 1000000) : innerP X q s = some (s.N.length, D1 s) := by
  unfold innerP
  rw [h.is, h.is, h.is]
  exact h.cmp X hN
theorem Dd.deep (h : Dd s e p) : s.deep = { s with d := s.d + 1 } := by
  unfold PS.deep
  rw [h.no]
  split <;> rfl
theorem Dd.expr (h : Dd s e p) (g : Nat) (hd : s.d < 1000) (hN : s.N.length < 1000000) : exprP (g + 1) s = some (s.N.length, D1 s) := by
  rw [exprP, if_pos hd, h.deep, (h.d (s.d + 1)).inner _ _ hN, Option.bind_some]
  rfl
/-- It ends failed, with so many nodes at most. -/
def Fin (e p : Int) (m : Nat) (o : Ans) : Prop := ∃ a s', o = some (a, s') ∧ Dd s' e p ∧ a < s'.N.length ∧ s'.N.length ≤ m
theorem Fin.mono {m m' : Nat} {o : Ans} (h : Fin e p m o) (hm : m ≤ m') : Fin e p m' o := by
  obtain ⟨a, s', h1, h2, h3, h4⟩ := h
  exact ⟨a, s', h1, h2, h3, Nat.le_trans h4 hm⟩
theorem Fin.add {m : Nat} (h : Dd s e p) (n : Nd) (hm : s.N.length + 1 ≤ m) (hb : m ≤ 999999) : Fin e p m (s.add n) :=
  ⟨_, _, add_some (by omega), h, by simp, by simp; omega⟩
theorem Fin.bind {m m' : Nat} {o : Ans} {K : Nat × PS → Ans} (h : Fin e p m o) (hK : ∀ a s', o = some (a, s') → Dd s' e p → a < s'.N.length → s'.N.length ≤ m → Fin e p m' (K (a, s'))) : Fin e p m' (o.bind K) := by
  obtain ⟨a, s', h1, h2, h3, h4⟩ := h
  subst h1
  exact hK a s' rfl h2 h3 h4
theorem D1_len (s : PS) : (D1 s).N.length = s.N.length + 1 := by simp [D1]
/-- A small call, in a state without an error. -/
theorem plc_pk (s : PS) : plc s.E s.l = s.pk.p := by unfold PS.pk plc; cases s.l <;> rfl
theorem no_dd (h : Al s) (q c : Int) (hc : c ≠ 0) : Dd (s.no q c) c q ∧ (s.no q c).N = s.N ∧ (s.no q c).d = s.d := by
  unfold PS.no
  rw [h.2]
  exact ⟨⟨rfl, rfl, rfl, rfl, rfl, hc⟩, rfl, rfl⟩
theorem txt_cases (h : Al s) {k : Int} (hk : k ≠ 0) : (∃ t m, s.l = t :: m ∧ s.txt k = (t.s, { s with l := m }) ∧ ∀ F, textT s.E k s.l F = F t.s m) ∨ ∃ q x s', s.txt k = (x, s') ∧ Dd s' 5 q ∧ s'.N = s.N ∧ s'.d = s.d ∧ ∀ F, textT s.E k s.l F = .bad 5 q := by
  cases hl : s.l with
  | nil =>
    refine .inr ⟨s.E, ⟨#[]⟩, s.no s.E 5, ?_, (no_dd h s.E 5 (by decide)).1, rfl, rfl, fun F => rfl⟩
    unfold PS.txt PS.pk
    rw [hl]
    simp only
    rw [if_neg (Ne.symm hk)]
  | cons t m =>
    by_cases hq : t.k = k
    · refine .inl ⟨t, m, rfl, ?_, fun F => by simp only [textT]; rw [if_pos hq]⟩
      unfold PS.txt PS.pk PS.nx
      rw [hl]
      simp only
      rw [if_pos hq]
      rfl
    · refine .inr ⟨t.p, ⟨#[]⟩, s.no t.p 5, ?_, (no_dd h t.p 5 (by decide)).1, rfl, rfl, fun F => by simp only [textT]; rw [if_neg hq]⟩
      unfold PS.txt PS.pk
      rw [hl]
      simp only
      rw [if_neg hq]
theorem must_cases (h : Al s) (k : Int) (x : List UInt8) : (∃ t m, s.l = t :: m ∧ s.must k x = { s with l := m } ∧ ∀ F, T.must s.E k x s.l F = F m) ∨ ∃ q s', s.must k x = s' ∧ Dd s' 5 q ∧ s'.N = s.N ∧ s'.d = s.d ∧ ∀ F, T.must s.E k x s.l F = .bad 5 q := by
  by_cases hq : isT k x s.l = true
  · obtain ⟨t, m, hl⟩ := isT_cons hq
    refine .inl ⟨t, m, hl, ?_, fun F => by unfold T.must; rw [if_pos hq, hl]; rfl⟩
    unfold PS.must PS.is PS.nx
    rw [if_pos hq, hl]
    rfl
  · refine .inr ⟨s.pk.p, s.no s.pk.p 5, ?_, (no_dd h _ 5 (by decide)).1, rfl, rfl, fun F => by unfold T.must; rw [if_neg hq, plc_pk]⟩
    unfold PS.must PS.is
    rw [if_neg hq]
theorem lab_cases (h : Al s) {k : Int} (hk : k ≠ 0) {fs gs : List Fld} (hg : gs.map Fld.nm = fs.map Fld.nm) (hn : gs.length ≤ 30) : (∃ t m, s.l = t :: m ∧ gs.length < 30 ∧ s.lab k gs = (t.s, { s with l := m }) ∧ ∀ F, labelT s.E k fs s.l F = F t.s m) ∨ ∃ q c x s', c ≠ 0 ∧ s.lab k gs = (x, s') ∧ Dd s' c q ∧ s'.N = s.N ∧ s'.d = s.d ∧ ∀ F, labelT s.E k fs s.l F = .bad c q := by
  have hlen : gs.length = fs.length := by have := congrArg List.length hg; simpa using this
  have hany : ∀ x : ByteArray, (gs.any fun y => y.nm.toList == x.toList) = fs.any fun y => y.nm.toList == x.toList := fun x => by
    have e : ∀ l : List Fld, (l.any fun y => y.nm.toList == x.toList) = (l.map Fld.nm).any fun z => z.toList == x.toList := fun l => by rw [List.any_map]; rfl
    rw [e, e, hg]
  rcases txt_cases h hk with ⟨t, m, hl, h1, h2⟩ | ⟨q, x, s', h1, h2, h3, h4, h5⟩
  · unfold PS.lab
    rw [h1, hany]
    by_cases h30 : gs.length = 30
    · have ha : Al { s with l := m } := h
      refine .inr ⟨s.pk.p, 8, t.s, ({ s with l := m } : PS).no s.pk.p 8, by decide, by rw [if_pos h30], (no_dd ha _ 8 (by decide)).1, rfl, rfl, fun F => ?_⟩
      unfold labelT
      rw [h2, if_pos (by omega), plc_pk]
    · rw [if_neg h30]
      by_cases hd : (fs.any fun y => y.nm.toList == t.s.toList) = true
      · have ha : Al { s with l := m } := h
        refine .inr ⟨s.pk.p, 5, t.s, ({ s with l := m } : PS).no s.pk.p 5, by decide, by simp only; rw [if_pos hd], (no_dd ha _ 5 (by decide)).1, rfl, rfl, fun F => ?_⟩
        unfold labelT
        rw [h2, if_neg (by omega), if_pos hd, plc_pk]
      · refine .inl ⟨t, m, hl, by omega, by simp only; rw [if_neg hd], fun F => ?_⟩
        unfold labelT
        rw [h2, if_neg (by omega), if_neg hd]
  · refine .inr ⟨q, 5, x, s', by decide, ?_, h2, h3, h4, fun F => h5 _⟩
    unfold PS.lab
    rw [h1]
    simp only [h2.no]
    split
    · rfl
    · split <;> rfl
end
end Go.Proofs.YtjakeidbajkdcaaGreatDoor.A
/- The program's reader beside the language: the rows of expr. -/
namespace Go.Proofs.YtjakeidbajkdcaaGreatDoor.A
open T
/-- From a state without an error, nodes laid behind N0: what the language reads is laid behind them; or it ends failed. -/
def Sim (N0 : List Nd) (s : PS) (m : Nat) (r : Rs) (o : Ans) : Prop := match r with
  | .ok t l => o = some ((lay N0 t).length - 1, { s with l := l, N := lay N0 t })
  | .bad e p => Fin e p m o
/-- How much room is wanted. -/
def fi (s : PS) : Nat := s.N.length + 4 * s.l.length
/-- What a row that reads an expr is known to do, at tokens fewer than L. -/
def Known (X : PS → Ans) (f d L : Nat) : Prop := ∀ s, Al s → s.d = d → s.l.length < L → fi s + 100 ≤ 900000 → Sim s.N s (fi s + 4) (G s.E f .expr d s.l) (X s)
theorem Sim.mono {N0 : List Nd} {s : PS} {m m' : Nat} {r : Rs} {o : Ans} (h : Sim N0 s m r o) (hm : m ≤ m') : Sim N0 s m' r o := by
  cases r with
  | ok t l => exact h
  | bad e p => exact Fin.mono h hm
/-- A dead state's expr. -/
theorem Dd.xx {X : PS → Ans} {s : PS} {e p : Int} {g : Nat} (hX : X = exprP (g + 1)) (h : Dd s e p) (hd : s.d < 1000) (hN : s.N.length < 1000000) : X s = some (s.N.length, D1 s) := by rw [hX]; exact h.expr g hd hN
/-- The two ways of a row that reads a tree: read, or failed. -/
theorem Sim.two {s : PS} {m f d : Nat} {R : Pr} {o : Ans} (hfit : fit R) (hfs : fitS R) (h : Sim s.N s m (G s.E f R d s.l) o) :
    (∃ t l, G s.E f R d s.l = .ok t l ∧ o = some ((lay s.N t).length - 1, { s with l := l, N := lay s.N t }) ∧ inOrd t ∧ 1 ≤ t.length ∧ t.length + eats R + 2 * l.length ≤ base R + 2 * s.l.length ∧ l.length + eats R ≤ s.l.length) ∨ ∃ e p, G s.E f R d s.l = .bad e p ∧ Fin e p m o := by
  cases hG : G s.E f R d s.l with
  | ok t l =>
    rw [hG] at h
    obtain ⟨h1, h2⟩ := G_ok s.E f R d _ _ _ hfit hG
    obtain ⟨h3, h4⟩ := G_size s.E f R d _ _ _ hfs hG
    exact .inl ⟨t, l, rfl, h, h1, List.length_pos_iff.2 h1.1, h4, h2⟩
  | bad e p =>
    rw [hG] at h
    exact .inr ⟨e, p, rfl, h⟩
theorem cast_pred {n : Nat} (h : 1 ≤ n) : ((n - 1 : Nat) : Int) = (n : Int) - 1 := by omega
theorem Al.l {s : PS} (h : Al s) (l : List Tk) (N : List Nd) : Al { s with l := l, N := N } := h
section
variable {X : PS → Ans} {f d g : Nat} {s : PS}
/-- Behind fun. -/
theorem fun_sim (hX : X = exprP (g + 1)) (hK : Known X f d s.l.length) (ha : Al s) (hd : s.d = d) (hd2 : d ≤ 100) (hr : fi s + 100 ≤ 900000) (p : Int) :
    Sim s.N s (fi s + 4) (textT s.E 2 s.l fun x l1 => T.must s.E 7 s_arrow l1 fun l2 => (G s.E f .expr d l2).go fun a l3 => .ok (joinN { mk 5 p with nm := x } [a]) l3) (funP X p s) := by
  unfold fi at hr
  unfold funP fi
  rcases txt_cases ha (k := 2) (by decide) with ⟨t, m, hl, e1, e2⟩ | ⟨q, x, s', e1, h2, h3, h4, e2⟩
  · rw [e2, e1]
    simp only
    have hl1 := congrArg List.length hl
    simp only [List.length_cons] at hl1
    have ha1 : Al { s with l := m } := ha
    rcases must_cases ha1 7 s_arrow with ⟨t2, m2, hl2, e3, e4⟩ | ⟨q, s', e3, h2, h3, h4, e4⟩
    · rw [e4, e3]
      simp only at hl2
      have hl3 := congrArg List.length hl2
      simp only [List.length_cons] at hl3
      have h := hK { s with l := m2 } ha hd (by simp only; omega) (by unfold fi; simp only; omega)
      rcases Sim.two (R := .expr) trivial trivial h with ⟨a, l, hG, ho, hin, hlen, hsz, hll⟩ | ⟨e, q, hG, hF⟩
      · rw [hG, ho]
        simp only [eats, base] at hsz hll
        simp only [Rs.go, Option.bind_some, Sim]
        rw [add_some (by simp only [lay_len]; omega), lay1 _ _ _ rfl, List.length_append]
        simp only [List.length_singleton, Nat.add_sub_cancel]
        congr 3
        · rw [cast_pred (by rw [lay_len]; omega)]; rfl
      · rw [hG]
        refine hF.bind fun a s' ho hD haN hN => Fin.add hD _ ?_ (by omega)
        unfold fi at hN
        simp only at hN
        omega
    · rw [e4, e3]
      have hd' : s'.d < 1000 := by rw [h4]; simp only; omega
      rw [h2.xx hX hd' (by rw [h3]; simp only; omega)]
      refine Fin.add h2.d1 _ ?_ (by omega)
      rw [D1_len, h3]
      simp only
      omega
  · rw [e2, e1]
    simp only
    rw [h2.must, h2.xx hX (by rw [h4]; omega) (by rw [h3]; omega)]
    refine Fin.add h2.d1 _ ?_ (by omega)
    rw [D1_len, h3]
    omega
end
end Go.Proofs.YtjakeidbajkdcaaGreatDoor.A
/- The program's reader beside the language: let, let rec, if. -/
namespace Go.Proofs.YtjakeidbajkdcaaGreatDoor.A
open T
section
variable {X : PS → Ans} {f d g m0 : Nat} {s : PS} {e p : Int}
theorem Dd.x_add (h : Dd s e p) (hX : X = exprP (g + 1)) (hd : s.d < 1000) (F : Nat × PS → Nd) (hm : s.N.length + 2 ≤ m0) (hb : m0 ≤ 999999) : Fin e p m0 ((X s).bind fun r => r.2.add (F r)) := by
  rw [h.xx hX hd (by omega)]
  exact Fin.add h.d1 _ (by rw [D1_len]; omega) hb
/-- The second expr of a let, from a failed state. -/
theorem Dd.in_ (h : Dd s e p) (hX : X = exprP (g + 1)) (hd : s.d < 1000) (F : Nat × PS → Nd) (hm : s.N.length + 2 ≤ m0) (hb : m0 ≤ 999999) : Fin e p m0 ((X (s.must 1 w_in)).bind fun r => r.2.add (F r)) := by
  rw [h.must]; exact h.x_add hX hd F hm hb
theorem let_sim (hX : X = exprP (g + 1)) (hK : Known X f d s.l.length) (ha : Al s) (hd : s.d = d) (hd2 : d ≤ 100) (hr : fi s + 100 ≤ 900000) (p : Int) :
    Sim s.N s (fi s + 4) (textT s.E 2 s.l fun x l1 => T.must s.E 7 s_eqs l1 fun l2 => (G s.E f .expr d l2).go fun a l3 => T.must s.E 1 w_in l3 fun l4 => (G s.E f .expr d l4).go fun b l5 => .ok (joinN { mk 7 p with nm := x } [a, b]) l5) (bindK X p 7 s) := by
  unfold fi at hr
  unfold bindK fi
  simp only [show ¬ ((7 : Int) = 8) by decide, if_false]
  have hkd : Kd X := by rw [hX]; exact expr_d _
  rcases txt_cases ha (k := 2) (by decide) with ⟨t, m, hl, e1, e2⟩ | ⟨q, x, s', e1, h2, h3, h4, e2⟩
  · rw [e2, e1]
    simp only
    have hl1 := congrArg List.length hl
    simp only [List.length_cons] at hl1
    have ha1 : Al { s with l := m } := ha
    rcases must_cases ha1 7 s_eqs with ⟨t2, m2, hl2, e3, e4⟩ | ⟨q, s', e3, h2, h3, h4, e4⟩
    · rw [e4, e3]
      simp only at hl2
      have hl3 := congrArg List.length hl2
      simp only [List.length_cons] at hl3
      have h := hK { s with l := m2 } ha hd (by simp only; omega) (by unfold fi; simp only; omega)
      rcases Sim.two (R := .expr) trivial trivial h with ⟨a, l, hG, ho, hin, hlen, hsz, hll⟩ | ⟨e, q, hG, hF⟩
      · rw [hG, ho]
        simp only [eats, base] at hsz hll
        simp only [Rs.go, Option.bind_some]
        have ha2 : Al { s with l := l, N := lay s.N a } := ha
        rcases must_cases ha2 1 w_in with ⟨t3, m3, hl4, e5, e6⟩ | ⟨q, s', e5, h2, h3, h4, e6⟩
        · rw [e6, e5]
          simp only at hl4
          have hl5 := congrArg List.length hl4
          simp only [List.length_cons] at hl5
          have h := hK { s with l := m3, N := lay s.N a } ha hd (by simp only; omega) (by unfold fi; simp only [lay_len]; omega)
          rcases Sim.two (R := .expr) trivial trivial h with ⟨b, l', hG2, ho2, hin2, hlen2, hsz2, hll2⟩ | ⟨e, q, hG2, hF⟩
          · rw [hG2, ho2]
            simp only [eats, base] at hsz2 hll2
            simp only [Option.bind_some, Sim]
            rw [add_some (by simp only [lay_len]; omega), lay2 _ _ _ _ rfl, List.length_append]
            simp only [List.length_singleton, Nat.add_sub_cancel]
            congr 3
            · rw [cast_pred (by rw [lay_len]; omega), cast_pred (by rw [lay_len]; omega)]; rfl
          · rw [hG2]
            refine hF.bind fun a' s' ho hD haN hN => Fin.add hD _ ?_ (by omega)
            unfold fi at hN
            simp only [lay_len] at hN
            omega
        · rw [e6, e5]
          refine h2.x_add hX (by rw [h4]; simp only; omega) _ ?_ (by omega)
          rw [h3]
          simp only [lay_len]
          omega
      · rw [hG]
        refine hF.bind fun a s' ho hD haN hN => ?_
        have hd' : s'.d < 1000 := by have := hkd _ _ ho; simp only at this; omega
        unfold fi at hN
        simp only at hN
        exact hD.in_ hX hd' _ (by omega) (by omega)
    · rw [e4, e3]
      have hd' : s'.d < 1000 := by rw [h4]; simp only; omega
      rw [h2.xx hX hd' (by rw [h3]; simp only; omega)]
      simp only [Option.bind_some]
      exact h2.d1.in_ hX hd' _ (by rw [D1_len, h3]; simp only; omega) (by omega)
  · rw [e2, e1]
    simp only
    rw [h2.must, h2.xx hX (by rw [h4]; omega) (by rw [h3]; omega)]
    simp only [Option.bind_some]
    exact h2.d1.in_ hX (by show s'.d < 1000; rw [h4]; omega) _ (by rw [D1_len, h3]; omega) (by omega)
/-- Behind the first expr of a let rec: from a failed state. -/
theorem Dd.rec_ (h : Dd s e p) (hX : X = exprP (g + 1)) (hd : s.d < 1000) {a : Nat} (haN : a < s.N.length) (q pl : Int) (nm : ByteArray) (hm : s.N.length + 2 ≤ m0) (hb : m0 ≤ 999999) :
    Fin e p m0 (match s.N[a]? with
      | none => none
      | some x => (X ((if x.kind = 5 then s else s.no pl 5).must 1 w_in)).bind fun r => r.2.add { mk 8 q with nm := nm, a := a, b := r.1 }) := by
  rw [List.getElem?_eq_getElem haN]
  simp only
  rw [h.no]
  simp only [ite_self]
  exact h.in_ hX hd _ hm hb
theorem rec_sim (hX : X = exprP (g + 1)) (hK : Known X f d s.l.length) (ha : Al s) (hd : s.d = d) (hd2 : d ≤ 100) (hr : fi s + 100 ≤ 900000) (p : Int) :
    Sim s.N s (fi s + 4) (textT s.E 2 s.l fun x l1 => T.must s.E 7 s_eqs l1 fun l2 => (G s.E f .expr d l2).go fun a l3 => if lastK a = 5 then T.must s.E 1 w_in l3 fun l4 => (G s.E f .expr d l4).go fun b l5 => .ok (joinN { mk 8 p with nm := x } [a, b]) l5 else .bad 5 (plc s.E l2)) (bindK X p 8 s) := by
  unfold fi at hr
  unfold bindK fi
  simp only [if_true]
  have hkd : Kd X := by rw [hX]; exact expr_d _
  rcases txt_cases ha (k := 2) (by decide) with ⟨t, m, hl, e1, e2⟩ | ⟨q, x, s', e1, h2, h3, h4, e2⟩
  · rw [e2, e1]
    simp only
    have hl1 := congrArg List.length hl
    simp only [List.length_cons] at hl1
    have ha1 : Al { s with l := m } := ha
    rcases must_cases ha1 7 s_eqs with ⟨t2, m2, hl2, e3, e4⟩ | ⟨q, s', e3, h2, h3, h4, e4⟩
    · rw [e4, e3]
      simp only at hl2
      have hl3 := congrArg List.length hl2
      simp only [List.length_cons] at hl3
      have h := hK { s with l := m2 } ha hd (by simp only; omega) (by unfold fi; simp only; omega)
      rcases Sim.two (R := .expr) trivial trivial h with ⟨a, l, hG, ho, hin, hlen, hsz, hll⟩ | ⟨e, q, hG, hF⟩
      · rw [hG, ho]
        simp only [eats, base] at hsz hll
        simp only [Rs.go, Option.bind_some]
        obtain ⟨y, hy, hyk, _⟩ := lay_last s.N (a := a) (by intro h0; rw [h0] at hlen; simp at hlen)
        rw [hy]
        simp only [hyk]
        by_cases hk5 : lastK a = 5
        · rw [if_pos hk5, if_pos hk5]
          have ha2 : Al { s with l := l, N := lay s.N a } := ha
          rcases must_cases ha2 1 w_in with ⟨t3, m3, hl4, e5, e6⟩ | ⟨q, s', e5, h2, h3, h4, e6⟩
          · rw [e6, e5]
            simp only at hl4
            have hl5 := congrArg List.length hl4
            simp only [List.length_cons] at hl5
            have h := hK { s with l := m3, N := lay s.N a } ha hd (by simp only; omega) (by unfold fi; simp only [lay_len]; omega)
            rcases Sim.two (R := .expr) trivial trivial h with ⟨b, l', hG2, ho2, hin2, hlen2, hsz2, hll2⟩ | ⟨e, q, hG2, hF⟩
            · rw [hG2, ho2]
              simp only [eats, base] at hsz2 hll2
              simp only [Option.bind_some, Sim]
              rw [add_some (by simp only [lay_len]; omega), lay2 _ _ _ _ rfl, List.length_append]
              simp only [List.length_singleton, Nat.add_sub_cancel]
              congr 3
              · rw [cast_pred (by rw [lay_len]; omega), cast_pred (by rw [lay_len]; omega)]; rfl
            · rw [hG2]
              refine hF.bind fun a' s' ho hD haN hN => Fin.add hD _ ?_ (by omega)
              unfold fi at hN
              simp only [lay_len] at hN
              omega
          · rw [e6, e5]
            refine h2.x_add hX (by rw [h4]; simp only; omega) _ ?_ (by omega)
            rw [h3]
            simp only [lay_len]
            omega
        · rw [if_neg hk5, if_neg hk5]
          have ha2 : Al { s with l := l, N := lay s.N a } := ha
          obtain ⟨n1, n2, n3⟩ := no_dd ha2 ({ s with l := m2 } : PS).pk.p 5 (by decide)
          rw [show plc s.E m2 = ({ s with l := m2 } : PS).pk.p from plc_pk ({ s with l := m2 } : PS)]
          refine n1.in_ hX (by rw [n3]; simp only; omega) _ ?_ (by omega)
          rw [n2]
          simp only [lay_len]
          omega
      · rw [hG]
        refine hF.bind fun a s' ho hD haN hN => ?_
        have hd' : s'.d < 1000 := by have := hkd _ _ ho; simp only at this; omega
        unfold fi at hN
        simp only at hN
        exact hD.rec_ hX hd' haN _ _ _ (by omega) (by omega)
    · rw [e4, e3]
      have hd' : s'.d < 1000 := by rw [h4]; simp only; omega
      rw [h2.xx hX hd' (by rw [h3]; simp only; omega)]
      simp only [Option.bind_some]
      exact h2.d1.rec_ hX hd' (by rw [D1_len]; omega) _ _ _ (by rw [D1_len, h3]; simp only; omega) (by omega)
  · rw [e2, e1]
    simp only
    rw [h2.must, h2.xx hX (by rw [h4]; omega) (by rw [h3]; omega)]
    simp only [Option.bind_some]
    exact h2.d1.rec_ hX (by show s'.d < 1000; rw [h4]; omega) (by rw [D1_len]; omega) _ _ _ (by rw [D1_len, h3]; omega) (by omega)
theorem Dd.else_ (h : Dd s e p) (hX : X = exprP (g + 1)) (hd : s.d < 1000) (F : Nat × PS → Nd) (hm : s.N.length + 2 ≤ m0) (hb : m0 ≤ 999999) : Fin e p m0 ((X (s.must 1 w_else)).bind fun r => r.2.add (F r)) := by
  rw [h.must]; exact h.x_add hX hd F hm hb
theorem Dd.then_ (h : Dd s e p) (hX : X = exprP (g + 1)) (hd : s.d < 1000) (F : Nat × PS → Nat × PS → Nd) (hm : s.N.length + 3 ≤ m0) (hb : m0 ≤ 999999) : Fin e p m0 ((X (s.must 1 w_then)).bind fun q => (X (q.2.must 1 w_else)).bind fun r => r.2.add (F q r)) := by
  rw [h.must, h.xx hX hd (by omega)]
  simp only [Option.bind_some]
  exact h.d1.else_ hX hd _ (by rw [D1_len]; omega) hb
theorem if_sim (hX : X = exprP (g + 1)) (hK : Known X f d (s.l.length + 1)) (ha : Al s) (hd : s.d = d) (hd2 : d ≤ 100) (hr : fi s + 100 ≤ 900000) (p : Int) :
    Sim s.N s (fi s + 8) ((G s.E f .expr d s.l).go fun a l1 => T.must s.E 1 w_then l1 fun l2 => (G s.E f .expr d l2).go fun b l3 => T.must s.E 1 w_else l3 fun l4 => (G s.E f .expr d l4).go fun c l5 => .ok (joinN (mk 9 p) [a, b, c]) l5) (ifP X p s) := by
  unfold fi at hr
  unfold ifP fi
  have hkd : Kd X := by rw [hX]; exact expr_d _
  have h := hK s ha hd (by omega) (by unfold fi; omega)
  rcases Sim.two (R := .expr) trivial trivial h with ⟨a, l, hG, ho, hin, hlen, hsz, hll⟩ | ⟨e, q, hG, hF⟩
  · rw [hG, ho]
    simp only [eats, base] at hsz hll
    simp only [Rs.go, Option.bind_some]
    have ha2 : Al { s with l := l, N := lay s.N a } := ha
    rcases must_cases ha2 1 w_then with ⟨t3, m3, hl4, e5, e6⟩ | ⟨q, s', e5, h2, h3, h4, e6⟩
    · rw [e6, e5]
      simp only at hl4
      have hl5 := congrArg List.length hl4
      simp only [List.length_cons] at hl5
      have h := hK { s with l := m3, N := lay s.N a } ha hd (by simp only; omega) (by unfold fi; simp only [lay_len]; omega)
      rcases Sim.two (R := .expr) trivial trivial h with ⟨b, l', hG2, ho2, hin2, hlen2, hsz2, hll2⟩ | ⟨e, q, hG2, hF⟩
      · rw [hG2, ho2]
        simp only [eats, base] at hsz2 hll2
        simp only [Option.bind_some]
        have ha3 : Al { s with l := l', N := lay (lay s.N a) b } := ha
        rcases must_cases ha3 1 w_else with ⟨t5, m5, hl6, e7, e8⟩ | ⟨q, s', e7, h2, h3, h4, e8⟩
        · rw [e8, e7]
          simp only at hl6
          have hl7 := congrArg List.length hl6
          simp only [List.length_cons] at hl7
          have h := hK { s with l := m5, N := lay (lay s.N a) b } ha hd (by simp only; omega) (by unfold fi; simp only [lay_len]; omega)
          rcases Sim.two (R := .expr) trivial trivial h with ⟨c, l9, hG3, ho3, hin3, hlen3, hsz3, hll3⟩ | ⟨e, q, hG3, hF⟩
          · rw [hG3, ho3]
            simp only [eats, base] at hsz3 hll3
            simp only [Option.bind_some, Sim]
            rw [add_some (by simp only [lay_len]; omega), lay3 _ _ _ _ _ rfl, List.length_append]
            simp only [List.length_singleton, Nat.add_sub_cancel]
            congr 3
            · rw [cast_pred (by rw [lay_len]; omega), cast_pred (by rw [lay_len]; omega), cast_pred (by rw [lay_len]; omega)]; rfl
          · rw [hG3]
            refine hF.bind fun a' s' ho hD haN hN => Fin.add hD _ ?_ (by omega)
            unfold fi at hN
            simp only [lay_len] at hN
            omega
        · rw [e8, e7]
          refine h2.x_add hX (by rw [h4]; simp only; omega) _ ?_ (by omega)
          rw [h3]
          simp only [lay_len]
          omega
      · rw [hG2]
        refine hF.bind fun a' s' ho hD haN hN => ?_
        have hd' : s'.d < 1000 := by have := hkd _ _ ho; simp only at this; omega
        unfold fi at hN
        simp only [lay_len] at hN
        exact hD.else_ hX hd' _ (by omega) (by omega)
    · rw [e6, e5]
      have hd' : s'.d < 1000 := by rw [h4]; simp only; omega
      rw [h2.xx hX hd' (by rw [h3]; simp only [lay_len]; omega)]
      simp only [Option.bind_some]
      refine h2.d1.else_ hX hd' _ ?_ (by omega)
      rw [D1_len, h3]
      simp only [lay_len]
      omega
  · rw [hG]
    refine hF.bind fun a s' ho hD haN hN => ?_
    have hd' : s'.d < 1000 := by have := hkd _ _ ho; simp only at this; omega
    unfold fi at hN
    exact hD.then_ hX hd' _ (by omega) (by omega)
end
end Go.Proofs.YtjakeidbajkdcaaGreatDoor.A
/- The program's reader beside the language: the rows and their loops. -/
namespace Go.Proofs.YtjakeidbajkdcaaGreatDoor.A
open T
/-- A sign of these is next, on both sides; or none is. -/
def OpRel (O : List (List UInt8 × Int)) (o : List (List UInt8)) : Prop := ∀ s : PS, (anyOf o s = false ∧ opOf O s.l = none) ∨ ∃ t m, s.l = t :: m ∧ anyOf o s = true ∧ opOf O s.l = some (prim t.s)
theorem opRel_of {O : List (List UInt8 × Int)} {o : List (List UInt8)} (h1 : O.map Prod.fst = o) (h2 : ∀ q ∈ O, ∀ x : ByteArray, x.toList = q.1 → prim x = q.2) : OpRel O o := by
  intro s
  subst h1
  unfold anyOf PS.is opOf
  cases hl : s.l with
  | nil => exact .inl ⟨by simp [isT], rfl⟩
  | cons t m =>
    simp only
    by_cases hk : t.k = 7
    · rw [if_pos hk]
      cases hf : O.find? fun q => t.s.toList == q.1 with
      | none =>
        refine .inl ⟨?_, rfl⟩
        rw [List.any_eq_false]
        intro q hq
        rw [List.mem_map] at hq
        obtain ⟨r, hr, rfl⟩ := hq
        have := (List.find?_eq_none.1 hf) r hr
        simpa [isT, hk] using this
      | some r =>
        refine .inr ⟨t, m, rfl, ?_, ?_⟩
        · rw [List.any_eq_true]
          have := List.find?_some hf
          exact ⟨r.1, List.mem_map_of_mem (List.mem_of_find?_eq_some hf), by simpa [isT, hk] using this⟩
        · have h3 := List.find?_some hf
          simp only [beq_iff_eq] at h3
          rw [h2 r (List.mem_of_find?_eq_some hf) t.s h3]; rfl
    · rw [if_neg hk]
      refine .inl ⟨?_, rfl⟩
      rw [List.any_eq_false]
      intro q _
      simp [isT, hk]
theorem rel_prod : OpRel prodOps o_prod := opRel_of rfl (by
  intro q hq x hx
  simp only [prodOps, List.mem_cons, List.mem_nil_iff, or_false] at hq
  rcases hq with rfl | rfl <;> simp [prim, hx])
theorem rel_sum : OpRel sumOps o_sum := opRel_of rfl (by
  intro q hq x hx
  simp only [sumOps, List.mem_cons, List.mem_nil_iff, or_false] at hq
  rcases hq with rfl | rfl | rfl <;> simp [prim, hx])
theorem rel_cmp : OpRel cmpOps o_cmp := opRel_of rfl (by
  intro q hq x hx
  simp only [cmpOps, List.mem_cons, List.mem_nil_iff, or_false] at hq
  rcases hq with rfl | rfl <;> simp [prim, hx])
/-- What a row is known to do, at tokens fewer than L. -/
def KnownR (R : Pr) (Y : PS → Ans) (f d L : Nat) : Prop := ∀ s, Al s → s.d = d → s.l.length < L → fi s + 100 ≤ 900000 → Sim s.N s (fi s + 4) (G s.E f R d s.l) (Y s)
section
variable {Y : PS → Ans} {f d m0 : Nat} {s : PS} {e p : Int} {N0 A : List Nd}
theorem pk_cons {t : Tk} {m : List Tk} (h : s.l = t :: m) : s.pk = t := by unfold PS.pk; rw [h]
theorem nx_cons {t : Tk} {m : List Tk} (h : s.l = t :: m) : s.nx = { s with l := m } := by unfold PS.nx; rw [h]; rfl
theorem plc_cons {E : Int} {t : Tk} {m l : List Tk} (h : l = t :: m) : plc E l = t.p := by rw [h]; rfl
/-- An operation behind a tree. -/
theorem op_sim {R : Pr} (hfit : fit R) (hfs : fitS R) (hea : eats R = 1) (hba : base R = 0) (hK : KnownR R Y f d s.l.length) (ha : Al s) (hd : s.d = d) (hr : fi s + 100 ≤ 900000) (hN : s.N = lay N0 A) (hA : 1 ≤ A.length) {t : Tk} {m : List Tk} (hl : s.l = t :: m) (n : Int) (hn : prim t.s = n) :
    (∃ b l2, G s.E f R d m = .ok b l2 ∧ 1 ≤ b.length ∧ b.length + 1 + 2 * l2.length ≤ 2 * m.length ∧ l2.length + 1 ≤ m.length ∧ opP Y (s.N.length - 1) s = some ((lay N0 (joinN { mk 10 t.p with n := n } [A, b])).length - 1, { s with l := l2, N := lay N0 (joinN { mk 10 t.p with n := n } [A, b]) })) ∨
    ∃ e q, G s.E f R d m = .bad e q ∧ Fin e q (fi s + 2) (opP Y (s.N.length - 1) s) := by
  have hl1 := congrArg List.length hl
  simp only [List.length_cons] at hl1
  unfold fi at hr
  unfold opP
  rw [nx_cons hl, pk_cons hl]
  have h := hK { s with l := m } ha hd (by simp only; omega) (by unfold fi; simp only; omega)
  rcases Sim.two hfit hfs h with ⟨b, l, hG, ho, hin, hlen, hsz, hll⟩ | ⟨e, q, hG, hF⟩
  · rw [hea, hba] at hsz
    rw [hea] at hll
    refine .inl ⟨b, l, hG, hlen, by simp only at hsz; omega, by simp only at hll; omega, ?_⟩
    rw [ho]
    simp only at hsz hll
    simp only [Option.bind_some]
    rw [add_some (by simp only [lay_len]; omega), lay2 _ _ _ _ rfl, List.length_append]
    simp only [List.length_singleton, Nat.add_sub_cancel]
    have hNl : s.N.length = N0.length + A.length := by rw [hN, lay_len]
    congr 3
    · rw [hN]
    · rw [hN]
      congr 2
      rw [cast_pred (by rw [lay_len]; omega), cast_pred (by rw [lay_len, lay_len]; omega), hn]; rfl
  · refine .inr ⟨e, q, hG, hF.bind fun a' s' ho hD haN hN => Fin.add hD _ ?_ ?_⟩
    · unfold fi at hN ⊢
      simp only at hN
      omega
    · unfold fi; omega
/-- sum's, and product's, loop. -/
theorem loop_sim {R : Pr} {O : List (List UInt8 × Int)} {o : List (List UInt8)} (hO : OpRel O o) (L : List Nd → Pr) (hfit : fit R) (hfs : fitS R) (hea : eats R = 1) (hba : base R = 0)
    (hGL : ∀ E f A d l, G E (f + 1) (L A) d l = match opOf O l with
      | none => .ok A l
      | some n => (G E f R d l.tail).go fun b l2 => G E f (L (joinN { mk 10 (plc E l) with n := n } [A, b])) d l2)
    (hRec : ∀ (s : PS) (A : List Nd) (n : Nat), Al s → s.d = d → fi s + 100 ≤ 900000 → s.N = lay N0 A → 1 ≤ A.length → s.l.length < n → 8 * s.l.length + 1 ≤ f → Sim N0 s (fi s + 4) (G s.E f (L A) d s.l) (loopP o Y n (s.N.length - 1) s))
    (hK : KnownR R Y f d s.l.length) (ha : Al s) (hd : s.d = d) (hr : fi s + 100 ≤ 900000) (hN : s.N = lay N0 A) (hA : 1 ≤ A.length) {n : Nat} (hn : s.l.length < n) (hf : 8 * s.l.length + 1 ≤ f + 1) :
    Sim N0 s (fi s + 4) (G s.E (f + 1) (L A) d s.l) (loopP o Y n (s.N.length - 1) s) := by
  obtain ⟨n, rfl⟩ : ∃ k, n = k + 1 := ⟨n - 1, by omega⟩
  rw [hGL, loopP]
  rcases hO s with ⟨h1, h2⟩ | ⟨t, m, hl, h1, h2⟩
  · rw [h2, if_neg (by rw [h1]; decide)]
    simp only [Sim]
    rw [← hN]
  · rw [h2, if_pos h1]
    simp only
    have hl1 := congrArg List.length hl
    simp only [List.length_cons] at hl1
    rw [show s.l.tail = m by rw [hl]; rfl, plc_cons hl]
    rcases op_sim hfit hfs hea hba hK ha hd hr hN hA hl _ rfl with ⟨b, l2, hG, hb1, hb2, hb3, ho⟩ | ⟨e, q, hG, hF⟩
    · rw [hG, ho]
      simp only [Rs.go, Option.bind_some]
      have hjl : (joinN { mk 10 t.p with n := prim t.s } [A, b]).length = A.length + b.length + 1 := jl2 _ _ _
      have hNl : s.N.length = N0.length + A.length := by rw [hN, lay_len]
      unfold fi at hr ⊢
      refine Sim.mono (hRec { s with l := l2, N := lay N0 (joinN { mk 10 t.p with n := prim t.s } [A, b]) } _ n ha hd ?_ rfl (by rw [hjl]; omega) (by simp only; omega) (by simp only; omega)) ?_
      · unfold fi
        simp only [lay_len, hjl]
        omega
      · unfold fi
        simp only [lay_len, hjl]
        omega
    · rw [hG]
      refine hF.bind fun a' s' _ hD haN hN' => ?_
      obtain ⟨n, rfl⟩ : ∃ k, n = k + 1 := ⟨n - 1, by omega⟩
      rw [loopP, hD.any]
      exact ⟨a', s', rfl, hD, haN, by omega⟩
/-- A row that is another row with a loop behind it. -/
theorem row_sim {R : Pr} (L : List Nd → Pr) (hfit : fit R) (hfs : fitS R) (hea : eats R = 1) (hba : base R = 0) {W : Nat → Nat → PS → Ans} (hW : ∀ (s : PS) (e p : Int) n a, Dd s e p → W (n + 1) a s = some (a, s))
    (hK : Sim s.N s (fi s + 4) (G s.E f R d s.l) (Y s)) (ha : Al s) (hd : s.d = d) (_hr : fi s + 100 ≤ 900000)
    (hL : ∀ (s' : PS) (A : List Nd) (n : Nat), Al s' → s'.d = d → s'.E = s.E → fi s' + 2 ≤ fi s → s'.N = lay s.N A → 1 ≤ A.length → inOrd A → s'.l.length < n → s'.l.length + 1 ≤ s.l.length → Sim s.N s' (fi s + 4) (G s'.E f (L A) d s'.l) (W n (s'.N.length - 1) s')) :
    Sim s.N s (fi s + 4) ((G s.E f R d s.l).go fun a l1 => G s.E f (L a) d l1) ((Y s).bind fun r => W (r.2.l.length + 1) r.1 r.2) := by
  rcases Sim.two hfit hfs hK with ⟨a, l, hG, ho, hin, hlen, hsz, hll⟩ | ⟨e, q, hG, hF⟩
  · rw [hG, ho]
    rw [hea, hba] at hsz
    rw [hea] at hll
    simp only [Rs.go, Option.bind_some]
    have hfi : fi { s with l := l, N := lay s.N a } + 2 ≤ fi s := by unfold fi; simp only [lay_len]; omega
    exact hL { s with l := l, N := lay s.N a } a (l.length + 1) ha hd rfl hfi rfl hlen hin (by simp) (by simp only; omega)
  · rw [hG]
    refine hF.bind fun a' s' _ hD haN hN' => ?_
    rw [hW s' e q _ _ hD]
    exact ⟨a', s', rfl, hD, haN, hN'⟩
end
end Go.Proofs.YtjakeidbajkdcaaGreatDoor.A
