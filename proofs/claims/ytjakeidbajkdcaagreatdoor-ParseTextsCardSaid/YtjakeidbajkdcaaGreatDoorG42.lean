/- Joined by program. -/
import Derived.Test.YtjakeidbajkdcaaGreatDoorG19
namespace Go.Proofs.YtjakeidbajkdcaaGreatDoor.A
open T
def Al (s : PS) : Prop := s.dead = false /\ s.err = 0
def Dd (s : PS) (e p : Int) : Prop := s.dead = true /\ s.l = [] /\ s.E = 0 /\ s.err = e /\ s.place = p /\ e ≠ 0
def D1 (s : PS) : PS := { s with N := s.N ++ [mk 0 0] }
section
variable {s : PS} {e p : Int}
theorem Dd.no (h : Dd s e p) (a c : Int) : s.no a c = s := by
 obtain ⟨h1, h2, h3, h4, h5, h6⟩ := h
 cases s
 simp only at h1 h2 h3 h4 h5
 subst h1 h2 h3 h4 h5
 simp [PS.no, h6]
theorem Dd.pk (h : Dd s e p) : s.pk = ⟨0, ⟨#[]⟩, 0, 0⟩ := by unfold PS.pk; rw [h.2.1]; simp [h.2.2.1]
theorem Dd.is (h : Dd s e p) (k : Int) (x : List UInt8) : s.is k x = false := by unfold PS.is; rw [h.2.1]; rfl
theorem Dd.must (h : Dd s e p) (k : Int) (x : List UInt8) : s.must k x = s := by unfold PS.must; rw [h.is, if_neg (by decide), h.no]
theorem Dd.txt (h : Dd s e p) {k : Int} (hk : k ≠ 0) : s.txt k = (⟨#[]⟩, s) := by
 unfold PS.txt
 rw [h.pk, if_neg (Ne.symm hk), h.no]
theorem Dd.lab (h : Dd s e p) {k : Int} (hk : k ≠ 0) (fs : List Fld) : s.lab k fs = (⟨#[]⟩, s) := by
 unfold PS.lab
 rw [h.txt hk]
 simp only [h.no]
 split
 ·rfl
 ·split <;> rfl
theorem Dd.d1 (h : Dd s e p) : Dd (D1 s) e p := h
theorem Dd.d (h : Dd s e p) (n : Nat) : Dd { s with d := n } e p := h
theorem Dd.leaf (h : Dd s e p) : leafN s = (mk 0 0, s) := by
 unfold leafN
 rw [h.is, h.is, h.pk, h.no]
 rfl
theorem Dd.beg (h : Dd s e p) : begins s.l = false := by rw [h.2.1]; rfl
theorem Dd.any (h : Dd s e p) (ops : List (List UInt8)) : anyOf ops s = false := by
 unfold anyOf
 rw [List.any_eq_false]
 intro o _
 rw [h.is]; decide
theorem zbn {n : Nd} (h : s.N.length < 1000000) : s.add n = some (s.N.length, { s with N := s.N ++ [n] }) := by unfold PS.add; rw [if_pos h]
theorem Dd.atom (h : Dd s e p) (X : PS -> Ans) (hN : s.N.length < 1000000) : atomP X s = some (s.N.length, D1 s) := by
 unfold atomP
 rw [h.is, h.is, h.is, h.leaf]
 exact zbn hN
theorem Dd.post (h : Dd s e p) (X : PS -> Ans) (hN : s.N.length < 1000000) : postP X s = some (s.N.length, D1 s) := by
 unfold postP
 rw [h.atom X hN, Option.bind_some, postL, h.d1.is]
 rfl
theorem Dd.app (h : Dd s e p) (X : PS -> Ans) (hN : s.N.length < 1000000) : appP X s = some (s.N.length, D1 s) := by
 unfold appP
 rw [h.pk, if_neg (by decide), h.post X hN, Option.bind_some, appL, h.d1.beg]
 rfl
theorem Dd.prod (h : Dd s e p) (X : PS -> Ans) (hN : s.N.length < 1000000) : prodP X s = some (s.N.length, D1 s) := by
 unfold prodP
 rw [h.app X hN, Option.bind_some, loopP, h.d1.any]
 rfl
theorem Dd.sum (h : Dd s e p) (X : PS -> Ans) (hN : s.N.length < 1000000) : sumP X s = some (s.N.length, D1 s) := by
 unfold sumP
 rw [h.prod X hN, Option.bind_some, loopP, h.d1.any]
 rfl
theorem Dd.cmp (h : Dd s e p) (X : PS -> Ans) (hN : s.N.length < 1000000) : cmpP X s = some (s.N.length, D1 s) := by
 unfold cmpP
 rw [h.sum X hN, Option.bind_some]
 simp only
 rw [h.d1.any]
 rfl
theorem Dd.inner (h : Dd s e p) (X : PS -> Ans) (q : Int) (hN : s.N.length < 1000000) : innerP X q s = some (s.N.length, D1 s) := by
 unfold innerP
 rw [h.is, h.is, h.is]
 exact h.cmp X hN
theorem Dd.deep (h : Dd s e p) : s.deep = { s with d := s.d + 1 } := by
 unfold PS.deep
 rw [h.no]
 split <;> rfl
theorem Dd.expr (h : Dd s e p) (g : Nat) (hd : s.d < 1000) (hN : s.N.length < 1000000) : exprP (g + 1) s = some (s.N.length, D1 s) := by
 rw [exprP, if_pos hd, h.deep, (h.d (s.d + 1)).inner _ _ hN, Option.bind_some]
 rfl
def Fin (e p : Int) (m : Nat) (o : Ans) : Prop := ∃ a s', o = some (a, s') /\ Dd s' e p /\ a < s'.N.length /\ s'.N.length <= m
theorem Fin.mono {m m' : Nat} {o : Ans} (h : Fin e p m o) (hm : m <= m') : Fin e p m' o := by
 obtain ⟨a, s', h1, h2, h3, h4⟩ := h
 exact ⟨a, s', h1, h2, h3, ltr h4 hm⟩
theorem Fin.add {m : Nat} (h : Dd s e p) (n : Nd) (hm : s.N.length + 1 <= m) (hb : m <= 999999) : Fin e p m (s.add n) :=
 ⟨_, _, zbn (by omega), h, by simp, by simp; omega⟩
theorem Fin.bind {m m' : Nat} {o : Ans} {K : Nat × PS -> Ans} (h : Fin e p m o) (hK : ∀ a s', o = some (a, s') -> Dd s' e p -> a < s'.N.length -> s'.N.length <= m -> Fin e p m' (K (a, s'))) : Fin e p m' (o.bind K) := by
 obtain ⟨a, s', h1, h2, h3, h4⟩ := h
 subst h1
 exact hK a s' rfl h2 h3 h4
theorem zb7 (s : PS) : (D1 s).N.length = s.N.length + 1 := by simp [D1]
theorem zcv (s : PS) : plc s.E s.l = s.pk.p := by unfold PS.pk plc; cases s.l <;> rfl
theorem zhl (h : Al s) (q c : Int) (hc : c ≠ 0) : Dd (s.no q c) c q /\ (s.no q c).N = s.N /\ (s.no q c).d = s.d := by
 unfold PS.no
 rw [h.2]
 exact ⟨⟨rfl, rfl, rfl, rfl, rfl, hc⟩, rfl, rfl⟩
theorem zdi (h : Al s) {k : Int} (hk : k ≠ 0) : (∃ t m, s.l = t :: m /\ s.txt k = (t.s, { s with l := m }) /\ ∀ F, textT s.E k s.l F = F t.s m) ∨ ∃ q x s', s.txt k = (x, s') /\ Dd s' 5 q /\ s'.N = s.N /\ s'.d = s.d /\ ∀ F, textT s.E k s.l F = .bad 5 q := by
 cases hl : s.l with
 | nil =>
  refine .inr ⟨s.E, ⟨#[]⟩, s.no s.E 5, ?_, (zhl h s.E 5 (by decide)).1, rfl, rfl, fun F => rfl⟩
  unfold PS.txt PS.pk
  rw [hl]
  simp only
  rw [if_neg (Ne.symm hk)]
 | cons t m =>
  by_cases hq : t.k = k
  ·refine .inl ⟨t, m, rfl, ?_, fun F => by simp only [textT]; rw [if_pos hq]⟩
   unfold PS.txt PS.pk PS.nx
   rw [hl]
   simp only
   rw [if_pos hq]
   rfl
  ·refine .inr ⟨t.p, ⟨#[]⟩, s.no t.p 5, ?_, (zhl h t.p 5 (by decide)).1, rfl, rfl, fun F => by simp only [textT]; rw [if_neg hq]⟩
   unfold PS.txt PS.pk
   rw [hl]
   simp only
   rw [if_neg hq]
theorem zak (h : Al s) (k : Int) (x : List UInt8) : (∃ t m, s.l = t :: m /\ s.must k x = { s with l := m } /\ ∀ F, T.must s.E k x s.l F = F m) ∨ ∃ q s', s.must k x = s' /\ Dd s' 5 q /\ s'.N = s.N /\ s'.d = s.d /\ ∀ F, T.must s.E k x s.l F = .bad 5 q := by
 by_cases hq : isT k x s.l = true
 ·obtain ⟨t, m, hl⟩ := za7 hq
  refine .inl ⟨t, m, hl, ?_, fun F => by unfold T.must; rw [if_pos hq, hl]; rfl⟩
  unfold PS.must PS.is PS.nx
  rw [if_pos hq, hl]
  rfl
 ·refine .inr ⟨s.pk.p, s.no s.pk.p 5, ?_, (zhl h _ 5 (by decide)).1, rfl, rfl, fun F => by unfold T.must; rw [if_neg hq, zcv]⟩
  unfold PS.must PS.is
  rw [if_neg hq]
theorem zdz (h : Al s) {k : Int} (hk : k ≠ 0) {fs gs : List Fld} (hg : gs.map Fld.nm = fs.map Fld.nm) (hn : gs.length <= 30) : (∃ t m, s.l = t :: m /\ gs.length < 30 /\ s.lab k gs = (t.s, { s with l := m }) /\ ∀ F, labelT s.E k fs s.l F = F t.s m) ∨ ∃ q c x s', c ≠ 0 /\ s.lab k gs = (x, s') /\ Dd s' c q /\ s'.N = s.N /\ s'.d = s.d /\ ∀ F, labelT s.E k fs s.l F = .bad c q := by
 have hlen : gs.length = fs.length := by have := congrArg List.length hg; simpa using this
 have hany : ∀ x : ByteArray, (gs.any fun y => y.nm.toList == x.toList) = fs.any fun y => y.nm.toList == x.toList := fun x => by
  have e : ∀ l : List Fld, (l.any fun y => y.nm.toList == x.toList) = (l.map Fld.nm).any fun z => z.toList == x.toList := fun l => by rw [List.any_map]; rfl
  rw [e, e, hg]
 rcases zdi h hk with ⟨t, m, hl, h1, h2⟩ | ⟨q, x, s', h1, h2, h3, h4, h5⟩
 ·unfold PS.lab
  rw [h1, hany]
  by_cases h30 : gs.length = 30
  ·have ha : Al { s with l := m } := h
   refine .inr ⟨s.pk.p, 8, t.s, ({ s with l := m } : PS).no s.pk.p 8, by decide, by rw [if_pos h30], (zhl ha _ 8 (by decide)).1, rfl, rfl, fun F => ?_⟩
   unfold labelT
   rw [h2, if_pos (by omega), zcv]
  ·rw [if_neg h30]
   by_cases hd : (fs.any fun y => y.nm.toList == t.s.toList) = true
   ·have ha : Al { s with l := m } := h
    refine .inr ⟨s.pk.p, 5, t.s, ({ s with l := m } : PS).no s.pk.p 5, by decide, by simp only; rw [if_pos hd], (zhl ha _ 5 (by decide)).1, rfl, rfl, fun F => ?_⟩
    unfold labelT
    rw [h2, if_neg (by omega), if_pos hd, zcv]
   ·refine .inl ⟨t, m, hl, by omega, by simp only; rw [if_neg hd], fun F => ?_⟩
    unfold labelT
    rw [h2, if_neg (by omega), if_neg hd]
 ·refine .inr ⟨q, 5, x, s', by decide, ?_, h2, h3, h4, fun F => h5 _⟩
  unfold PS.lab
  rw [h1]
  simp only [h2.no]
  split
  ·rfl
  ·split <;> rfl
end
open T
def Sim (N0 : List Nd) (s : PS) (m : Nat) (r : Rs) (o : Ans) : Prop := match r with
 | .ok t l => o = some ((lay N0 t).length - 1, { s with l := l, N := lay N0 t })
 | .bad e p => Fin e p m o
def fi (s : PS) : Nat := s.N.length + 4 * s.l.length
def Known (X : PS -> Ans) (f d L : Nat) : Prop := ∀ s, Al s -> s.d = d -> s.l.length < L -> fi s + 100 <= 900000 -> Sim s.N s (fi s + 4) (G s.E f .expr d s.l) (X s)
theorem Sim.mono {N0 : List Nd} {s : PS} {m m' : Nat} {r : Rs} {o : Ans} (h : Sim N0 s m r o) (hm : m <= m') : Sim N0 s m' r o := by
 cases r with
 | ok t l => exact h
 | bad e p => exact Fin.mono h hm
theorem Dd.xx {X : PS -> Ans} {s : PS} {e p : Int} {g : Nat} (hX : X = exprP (g + 1)) (h : Dd s e p) (hd : s.d < 1000) (hN : s.N.length < 1000000) : X s = some (s.N.length, D1 s) := by rw [hX]; exact h.expr g hd hN
theorem Sim.two {s : PS} {m f d : Nat} {R : Pr} {o : Ans} (hfit : fit R) (hfs : fitS R) (h : Sim s.N s m (G s.E f R d s.l) o) :
  (∃ t l, G s.E f R d s.l = .ok t l /\ o = some ((lay s.N t).length - 1, { s with l := l, N := lay s.N t }) /\ inOrd t /\ 1 <= t.length /\ t.length + eats R + 2 * l.length <= base R + 2 * s.l.length /\ l.length + eats R <= s.l.length) ∨ ∃ e p, G s.E f R d s.l = .bad e p /\ Fin e p m o := by
 cases hG : G s.E f R d s.l with
 | ok t l =>
  rw [hG] at h
  obtain ⟨h1, h2⟩ := G_ok s.E f R d _ _ _ hfit hG
  obtain ⟨h3, h4⟩ := zlz s.E f R d _ _ _ hfs hG
  exact .inl ⟨t, l, rfl, h, h1, List.length_pos_iff.2 h1.1, h4, h2⟩
 | bad e p =>
  rw [hG] at h
  exact .inr ⟨e, p, rfl, h⟩
theorem za5 {n : Nat} (h : 1 <= n) : ((n - 1 : Nat) : Int) = (n : Int) - 1 := by omega
theorem Al.l {s : PS} (h : Al s) (l : List Tk) (N : List Nd) : Al { s with l := l, N := N } := h
section
variable {X : PS -> Ans} {f d g : Nat} {s : PS}
theorem zju (hX : X = exprP (g + 1)) (hK : Known X f d s.l.length) (ha : Al s) (hd : s.d = d) (hd2 : d <= 100) (hr : fi s + 100 <= 900000) (p : Int) :
  Sim s.N s (fi s + 4) (textT s.E 2 s.l fun x l1 => T.must s.E 7 zbc l1 fun l2 => (G s.E f .expr d l2).go fun a l3 => .ok (joinN { mk 5 p with nm := x } [a]) l3) (funP X p s) := by
 unfold fi at hr
 unfold funP fi
 rcases zdi ha (k := 2) (by decide) with ⟨t, m, hl, e1, e2⟩ | ⟨q, x, s', e1, h2, h3, h4, e2⟩
 ·rw [e2, e1]
  simp only
  have hl1 := congrArg List.length hl
  simp only [List.length_cons] at hl1
  have ha1 : Al { s with l := m } := ha
  rcases zak ha1 7 zbc with ⟨t2, m2, hl2, e3, e4⟩ | ⟨q, s', e3, h2, h3, h4, e4⟩
  ·rw [e4, e3]
   simp only at hl2
   have hl3 := congrArg List.length hl2
   simp only [List.length_cons] at hl3
   have h := hK { s with l := m2 } ha hd (by simp only; omega) (by unfold fi; simp only; omega)
   rcases Sim.two (R := .expr) trivial trivial h with ⟨a, l, hG, ho, hin, hlen, hsz, hll⟩ | ⟨e, q, hG, hF⟩
   ·rw [hG, ho]
    simp only [eats, base] at hsz hll
    simp only [Rs.go, Option.bind_some, Sim]
    rw [zbn (by simp only [zae]; omega), lay1 _ _ _ rfl, List.length_append]
    simp only [List.length_singleton, Nat.add_sub_cancel]
    congr 3
    ·rw [za5 (by rw [zae]; omega)]; rfl
   ·rw [hG]
    refine hF.bind fun a s' ho hD haN hN => Fin.add hD _ ?_ (by omega)
    unfold fi at hN
    simp only at hN
    omega
  ·rw [e4, e3]
   have hd' : s'.d < 1000 := by rw [h4]; simp only; omega
   rw [h2.xx hX hd' (by rw [h3]; simp only; omega)]
   refine Fin.add h2.d1 _ ?_ (by omega)
   rw [zb7, h3]
   simp only
   omega
 ·rw [e2, e1]
  simp only
  rw [h2.must, h2.xx hX (by rw [h4]; omega) (by rw [h3]; omega)]
  refine Fin.add h2.d1 _ ?_ (by omega)
  rw [zb7, h3]
  omega
end
open T
section
variable {X : PS -> Ans} {f d g m0 : Nat} {s : PS} {e p : Int}
theorem Dd.x_add (h : Dd s e p) (hX : X = exprP (g + 1)) (hd : s.d < 1000) (F : Nat × PS -> Nd) (hm : s.N.length + 2 <= m0) (hb : m0 <= 999999) : Fin e p m0 ((X s).bind fun r => r.2.add (F r)) := by
 rw [h.xx hX hd (by omega)]
 exact Fin.add h.d1 _ (by rw [zb7]; omega) hb
theorem Dd.in_ (h : Dd s e p) (hX : X = exprP (g + 1)) (hd : s.d < 1000) (F : Nat × PS -> Nd) (hm : s.N.length + 2 <= m0) (hb : m0 <= 999999) : Fin e p m0 ((X (s.must 1 w_in)).bind fun r => r.2.add (F r)) := by
 rw [h.must]; exact h.x_add hX hd F hm hb
theorem zjz (hX : X = exprP (g + 1)) (hK : Known X f d s.l.length) (ha : Al s) (hd : s.d = d) (hd2 : d <= 100) (hr : fi s + 100 <= 900000) (p : Int) :
  Sim s.N s (fi s + 4) (textT s.E 2 s.l fun x l1 => T.must s.E 7 zbg l1 fun l2 => (G s.E f .expr d l2).go fun a l3 => T.must s.E 1 w_in l3 fun l4 => (G s.E f .expr d l4).go fun b l5 => .ok (joinN { mk 7 p with nm := x } [a, b]) l5) (bindK X p 7 s) := by
 unfold fi at hr
 unfold bindK fi
 simp only [show ¬ ((7 : Int) = 8) by decide, if_false]
 have hkd : Kd X := by rw [hX]; exact zgb _
 rcases zdi ha (k := 2) (by decide) with ⟨t, m, hl, e1, e2⟩ | ⟨q, x, s', e1, h2, h3, h4, e2⟩
 ·rw [e2, e1]
  simp only
  have hl1 := congrArg List.length hl
  simp only [List.length_cons] at hl1
  have ha1 : Al { s with l := m } := ha
  rcases zak ha1 7 zbg with ⟨t2, m2, hl2, e3, e4⟩ | ⟨q, s', e3, h2, h3, h4, e4⟩
  ·rw [e4, e3]
   simp only at hl2
   have hl3 := congrArg List.length hl2
   simp only [List.length_cons] at hl3
   have h := hK { s with l := m2 } ha hd (by simp only; omega) (by unfold fi; simp only; omega)
   rcases Sim.two (R := .expr) trivial trivial h with ⟨a, l, hG, ho, hin, hlen, hsz, hll⟩ | ⟨e, q, hG, hF⟩
   ·rw [hG, ho]
    simp only [eats, base] at hsz hll
    simp only [Rs.go, Option.bind_some]
    have ha2 : Al { s with l := l, N := lay s.N a } := ha
    rcases zak ha2 1 w_in with ⟨t3, m3, hl4, e5, e6⟩ | ⟨q, s', e5, h2, h3, h4, e6⟩
    ·rw [e6, e5]
     simp only at hl4
     have hl5 := congrArg List.length hl4
     simp only [List.length_cons] at hl5
     have h := hK { s with l := m3, N := lay s.N a } ha hd (by simp only; omega) (by unfold fi; simp only [zae]; omega)
     rcases Sim.two (R := .expr) trivial trivial h with ⟨b, l', hG2, ho2, hin2, hlen2, hsz2, hll2⟩ | ⟨e, q, hG2, hF⟩
     ·rw [hG2, ho2]
      simp only [eats, base] at hsz2 hll2
      simp only [Option.bind_some, Sim]
      rw [zbn (by simp only [zae]; omega), lay2 _ _ _ _ rfl, List.length_append]
      simp only [List.length_singleton, Nat.add_sub_cancel]
      congr 3
      ·rw [za5 (by rw [zae]; omega), za5 (by rw [zae]; omega)]; rfl
     ·rw [hG2]
      refine hF.bind fun a' s' ho hD haN hN => Fin.add hD _ ?_ (by omega)
      unfold fi at hN
      simp only [zae] at hN
      omega
    ·rw [e6, e5]
     refine h2.x_add hX (by rw [h4]; simp only; omega) _ ?_ (by omega)
     rw [h3]
     simp only [zae]
     omega
   ·rw [hG]
    refine hF.bind fun a s' ho hD haN hN => ?_
    have hd' : s'.d < 1000 := by have := hkd _ _ ho; simp only at this; omega
    unfold fi at hN
    simp only at hN
    exact hD.in_ hX hd' _ (by omega) (by omega)
  ·rw [e4, e3]
   have hd' : s'.d < 1000 := by rw [h4]; simp only; omega
   rw [h2.xx hX hd' (by rw [h3]; simp only; omega)]
   simp only [Option.bind_some]
   exact h2.d1.in_ hX hd' _ (by rw [zb7, h3]; simp only; omega) (by omega)
 ·rw [e2, e1]
  simp only
  rw [h2.must, h2.xx hX (by rw [h4]; omega) (by rw [h3]; omega)]
  simp only [Option.bind_some]
  exact h2.d1.in_ hX (by show s'.d < 1000; rw [h4]; omega) _ (by rw [zb7, h3]; omega) (by omega)
theorem Dd.rec_ (h : Dd s e p) (hX : X = exprP (g + 1)) (hd : s.d < 1000) {a : Nat} (haN : a < s.N.length) (q pl : Int) (nm : ByteArray) (hm : s.N.length + 2 <= m0) (hb : m0 <= 999999) :
  Fin e p m0 (match s.N[a]? with
   | none => none
   | some x => (X ((if x.kind = 5 then s else s.no pl 5).must 1 w_in)).bind fun r => r.2.add { mk 8 q with nm := nm, a := a, b := r.1 }) := by
 rw [List.getElem?_eq_getElem haN]
 simp only
 rw [h.no]
 simp only [ite_self]
 exact h.in_ hX hd _ hm hb
theorem zjy (hX : X = exprP (g + 1)) (hK : Known X f d s.l.length) (ha : Al s) (hd : s.d = d) (hd2 : d <= 100) (hr : fi s + 100 <= 900000) (p : Int) :
  Sim s.N s (fi s + 4) (textT s.E 2 s.l fun x l1 => T.must s.E 7 zbg l1 fun l2 => (G s.E f .expr d l2).go fun a l3 => if lastK a = 5 then T.must s.E 1 w_in l3 fun l4 => (G s.E f .expr d l4).go fun b l5 => .ok (joinN { mk 8 p with nm := x } [a, b]) l5 else .bad 5 (plc s.E l2)) (bindK X p 8 s) := by
 unfold fi at hr
 unfold bindK fi
 simp only [if_true]
 have hkd : Kd X := by rw [hX]; exact zgb _
 rcases zdi ha (k := 2) (by decide) with ⟨t, m, hl, e1, e2⟩ | ⟨q, x, s', e1, h2, h3, h4, e2⟩
 ·rw [e2, e1]
  simp only
  have hl1 := congrArg List.length hl
  simp only [List.length_cons] at hl1
  have ha1 : Al { s with l := m } := ha
  rcases zak ha1 7 zbg with ⟨t2, m2, hl2, e3, e4⟩ | ⟨q, s', e3, h2, h3, h4, e4⟩
  ·rw [e4, e3]
   simp only at hl2
   have hl3 := congrArg List.length hl2
   simp only [List.length_cons] at hl3
   have h := hK { s with l := m2 } ha hd (by simp only; omega) (by unfold fi; simp only; omega)
   rcases Sim.two (R := .expr) trivial trivial h with ⟨a, l, hG, ho, hin, hlen, hsz, hll⟩ | ⟨e, q, hG, hF⟩
   ·rw [hG, ho]
    simp only [eats, base] at hsz hll
    simp only [Rs.go, Option.bind_some]
    obtain ⟨y, hy, hyk, _⟩ := zkl s.N (a := a) (by intro h0; rw [h0] at hlen; simp at hlen)
    rw [hy]
    simp only [hyk]
    by_cases hk5 : lastK a = 5
    ·rw [if_pos hk5, if_pos hk5]
     have ha2 : Al { s with l := l, N := lay s.N a } := ha
     rcases zak ha2 1 w_in with ⟨t3, m3, hl4, e5, e6⟩ | ⟨q, s', e5, h2, h3, h4, e6⟩
     ·rw [e6, e5]
      simp only at hl4
      have hl5 := congrArg List.length hl4
      simp only [List.length_cons] at hl5
      have h := hK { s with l := m3, N := lay s.N a } ha hd (by simp only; omega) (by unfold fi; simp only [zae]; omega)
      rcases Sim.two (R := .expr) trivial trivial h with ⟨b, l', hG2, ho2, hin2, hlen2, hsz2, hll2⟩ | ⟨e, q, hG2, hF⟩
      ·rw [hG2, ho2]
       simp only [eats, base] at hsz2 hll2
       simp only [Option.bind_some, Sim]
       rw [zbn (by simp only [zae]; omega), lay2 _ _ _ _ rfl, List.length_append]
       simp only [List.length_singleton, Nat.add_sub_cancel]
       congr 3
       ·rw [za5 (by rw [zae]; omega), za5 (by rw [zae]; omega)]; rfl
      ·rw [hG2]
       refine hF.bind fun a' s' ho hD haN hN => Fin.add hD _ ?_ (by omega)
       unfold fi at hN
       simp only [zae] at hN
       omega
     ·rw [e6, e5]
      refine h2.x_add hX (by rw [h4]; simp only; omega) _ ?_ (by omega)
      rw [h3]
      simp only [zae]
      omega
    ·rw [if_neg hk5, if_neg hk5]
     have ha2 : Al { s with l := l, N := lay s.N a } := ha
     obtain ⟨n1, n2, n3⟩ := zhl ha2 ({ s with l := m2 } : PS).pk.p 5 (by decide)
     rw [show plc s.E m2 = ({ s with l := m2 } : PS).pk.p from zcv ({ s with l := m2 } : PS)]
     refine n1.in_ hX (by rw [n3]; simp only; omega) _ ?_ (by omega)
     rw [n2]
     simp only [zae]
     omega
   ·rw [hG]
    refine hF.bind fun a s' ho hD haN hN => ?_
    have hd' : s'.d < 1000 := by have := hkd _ _ ho; simp only at this; omega
    unfold fi at hN
    simp only at hN
    exact hD.rec_ hX hd' haN _ _ _ (by omega) (by omega)
  ·rw [e4, e3]
   have hd' : s'.d < 1000 := by rw [h4]; simp only; omega
   rw [h2.xx hX hd' (by rw [h3]; simp only; omega)]
   simp only [Option.bind_some]
   exact h2.d1.rec_ hX hd' (by rw [zb7]; omega) _ _ _ (by rw [zb7, h3]; simp only; omega) (by omega)
 ·rw [e2, e1]
  simp only
  rw [h2.must, h2.xx hX (by rw [h4]; omega) (by rw [h3]; omega)]
  simp only [Option.bind_some]
  exact h2.d1.rec_ hX (by show s'.d < 1000; rw [h4]; omega) (by rw [zb7]; omega) _ _ _ (by rw [zb7, h3]; omega) (by omega)
theorem Dd.else_ (h : Dd s e p) (hX : X = exprP (g + 1)) (hd : s.d < 1000) (F : Nat × PS -> Nd) (hm : s.N.length + 2 <= m0) (hb : m0 <= 999999) : Fin e p m0 ((X (s.must 1 zc0)).bind fun r => r.2.add (F r)) := by
 rw [h.must]; exact h.x_add hX hd F hm hb
theorem Dd.then_ (h : Dd s e p) (hX : X = exprP (g + 1)) (hd : s.d < 1000) (F : Nat × PS -> Nat × PS -> Nd) (hm : s.N.length + 3 <= m0) (hb : m0 <= 999999) : Fin e p m0 ((X (s.must 1 zdt)).bind fun q => (X (q.2.must 1 zc0)).bind fun r => r.2.add (F q r)) := by
 rw [h.must, h.xx hX hd (by omega)]
 simp only [Option.bind_some]
 exact h.d1.else_ hX hd _ (by rw [zb7]; omega) hb
theorem zp2 (hX : X = exprP (g + 1)) (hK : Known X f d (s.l.length + 1)) (ha : Al s) (hd : s.d = d) (hd2 : d <= 100) (hr : fi s + 100 <= 900000) (p : Int) :
  Sim s.N s (fi s + 8) ((G s.E f .expr d s.l).go fun a l1 => T.must s.E 1 zdt l1 fun l2 => (G s.E f .expr d l2).go fun b l3 => T.must s.E 1 zc0 l3 fun l4 => (G s.E f .expr d l4).go fun c l5 => .ok (joinN (mk 9 p) [a, b, c]) l5) (ifP X p s) := by
 unfold fi at hr
 unfold ifP fi
 have hkd : Kd X := by rw [hX]; exact zgb _
 have h := hK s ha hd (by omega) (by unfold fi; omega)
 rcases Sim.two (R := .expr) trivial trivial h with ⟨a, l, hG, ho, hin, hlen, hsz, hll⟩ | ⟨e, q, hG, hF⟩
 ·rw [hG, ho]
  simp only [eats, base] at hsz hll
  simp only [Rs.go, Option.bind_some]
  have ha2 : Al { s with l := l, N := lay s.N a } := ha
  rcases zak ha2 1 zdt with ⟨t3, m3, hl4, e5, e6⟩ | ⟨q, s', e5, h2, h3, h4, e6⟩
  ·rw [e6, e5]
   simp only at hl4
   have hl5 := congrArg List.length hl4
   simp only [List.length_cons] at hl5
   have h := hK { s with l := m3, N := lay s.N a } ha hd (by simp only; omega) (by unfold fi; simp only [zae]; omega)
   rcases Sim.two (R := .expr) trivial trivial h with ⟨b, l', hG2, ho2, hin2, hlen2, hsz2, hll2⟩ | ⟨e, q, hG2, hF⟩
   ·rw [hG2, ho2]
    simp only [eats, base] at hsz2 hll2
    simp only [Option.bind_some]
    have ha3 : Al { s with l := l', N := lay (lay s.N a) b } := ha
    rcases zak ha3 1 zc0 with ⟨t5, m5, hl6, e7, e8⟩ | ⟨q, s', e7, h2, h3, h4, e8⟩
    ·rw [e8, e7]
     simp only at hl6
     have hl7 := congrArg List.length hl6
     simp only [List.length_cons] at hl7
     have h := hK { s with l := m5, N := lay (lay s.N a) b } ha hd (by simp only; omega) (by unfold fi; simp only [zae]; omega)
     rcases Sim.two (R := .expr) trivial trivial h with ⟨c, l9, hG3, ho3, hin3, hlen3, hsz3, hll3⟩ | ⟨e, q, hG3, hF⟩
     ·rw [hG3, ho3]
      simp only [eats, base] at hsz3 hll3
      simp only [Option.bind_some, Sim]
      rw [zbn (by simp only [zae]; omega), lay3 _ _ _ _ _ rfl, List.length_append]
      simp only [List.length_singleton, Nat.add_sub_cancel]
      congr 3
      ·rw [za5 (by rw [zae]; omega), za5 (by rw [zae]; omega), za5 (by rw [zae]; omega)]; rfl
     ·rw [hG3]
      refine hF.bind fun a' s' ho hD haN hN => Fin.add hD _ ?_ (by omega)
      unfold fi at hN
      simp only [zae] at hN
      omega
    ·rw [e8, e7]
     refine h2.x_add hX (by rw [h4]; simp only; omega) _ ?_ (by omega)
     rw [h3]
     simp only [zae]
     omega
   ·rw [hG2]
    refine hF.bind fun a' s' ho hD haN hN => ?_
    have hd' : s'.d < 1000 := by have := hkd _ _ ho; simp only at this; omega
    unfold fi at hN
    simp only [zae] at hN
    exact hD.else_ hX hd' _ (by omega) (by omega)
  ·rw [e6, e5]
   have hd' : s'.d < 1000 := by rw [h4]; simp only; omega
   rw [h2.xx hX hd' (by rw [h3]; simp only [zae]; omega)]
   simp only [Option.bind_some]
   refine h2.d1.else_ hX hd' _ ?_ (by omega)
   rw [zb7, h3]
   simp only [zae]
   omega
 ·rw [hG]
  refine hF.bind fun a s' ho hD haN hN => ?_
  have hd' : s'.d < 1000 := by have := hkd _ _ ho; simp only at this; omega
  unfold fi at hN
  exact hD.then_ hX hd' _ (by omega) (by omega)
end
open T
def OpRel (O : List (List UInt8 × Int)) (o : List (List UInt8)) : Prop := ∀ s : PS, (anyOf o s = false /\ opOf O s.l = none) ∨ ∃ t m, s.l = t :: m /\ anyOf o s = true /\ opOf O s.l = some (prim t.s)
theorem zie {O : List (List UInt8 × Int)} {o : List (List UInt8)} (h1 : O.map Prod.fst = o) (h2 : ∀ q ∈ O, ∀ x : ByteArray, x.toList = q.1 -> prim x = q.2) : OpRel O o := by
 intro s
 subst h1
 unfold anyOf PS.is opOf
 cases hl : s.l with
 | nil => exact .inl ⟨by simp [isT], rfl⟩
 | cons t m =>
  simp only
  by_cases hk : t.k = 7
  ·rw [if_pos hk]
   cases hf : O.find? fun q => t.s.toList == q.1 with
   | none =>
    refine .inl ⟨?_, rfl⟩
    rw [List.any_eq_false]
    intro q hq
    rw [List.mem_map] at hq
    obtain ⟨r, hr, rfl⟩ := hq
    have := (List.find?_eq_none.1 hf) r hr
    simpa [isT, hk] using this
   | some r =>
    refine .inr ⟨t, m, rfl, ?_, ?_⟩
    ·rw [List.any_eq_true]
     have := List.find?_some hf
     exact ⟨r.1, List.mem_map_of_mem (List.mem_of_find?_eq_some hf), by simpa [isT, hk] using this⟩
    ·have h3 := List.find?_some hf
     simp only [beq_iff_eq] at h3
     rw [h2 r (List.mem_of_find?_eq_some hf) t.s h3]; rfl
  ·rw [if_neg hk]
   refine .inl ⟨?_, rfl⟩
   rw [List.any_eq_false]
   intro q _
   simp [isT, hk]
theorem zrh : OpRel prodOps zfm := zie rfl (by
 intro q hq x hx
 simp only [prodOps, List.mem_cons, List.mem_nil_iff, or_false] at hq
 rcases hq with rfl | rfl <;> simp [prim, hx])
theorem zxy : OpRel sumOps zik := zie rfl (by
 intro q hq x hx
 simp only [sumOps, List.mem_cons, List.mem_nil_iff, or_false] at hq
 rcases hq with rfl | rfl | rfl <;> simp [prim, hx])
theorem zvd : OpRel cmpOps zpw := zie rfl (by
 intro q hq x hx
 simp only [cmpOps, List.mem_cons, List.mem_nil_iff, or_false] at hq
 rcases hq with rfl | rfl <;> simp [prim, hx])
def KnownR (R : Pr) (Y : PS -> Ans) (f d L : Nat) : Prop := ∀ s, Al s -> s.d = d -> s.l.length < L -> fi s + 100 <= 900000 -> Sim s.N s (fi s + 4) (G s.E f R d s.l) (Y s)
section
variable {Y : PS -> Ans} {f d m0 : Nat} {s : PS} {e p : Int} {N0 A : List Nd}
theorem zby {t : Tk} {m : List Tk} (h : s.l = t :: m) : s.pk = t := by unfold PS.pk; rw [h]
theorem za6 {t : Tk} {m : List Tk} (h : s.l = t :: m) : s.nx = { s with l := m } := by unfold PS.nx; rw [h]; rfl
theorem zcc {E : Int} {t : Tk} {m l : List Tk} (h : l = t :: m) : plc E l = t.p := by rw [h]; rfl
theorem zuc {R : Pr} (hfit : fit R) (hfs : fitS R) (hea : eats R = 1) (hba : base R = 0) (hK : KnownR R Y f d s.l.length) (ha : Al s) (hd : s.d = d) (hr : fi s + 100 <= 900000) (hN : s.N = lay N0 A) (hA : 1 <= A.length) {t : Tk} {m : List Tk} (hl : s.l = t :: m) (n : Int) (hn : prim t.s = n) :
  (∃ b l2, G s.E f R d m = .ok b l2 /\ 1 <= b.length /\ b.length + 1 + 2 * l2.length <= 2 * m.length /\ l2.length + 1 <= m.length /\ opP Y (s.N.length - 1) s = some ((lay N0 (joinN { mk 10 t.p with n := n } [A, b])).length - 1, { s with l := l2, N := lay N0 (joinN { mk 10 t.p with n := n } [A, b]) })) ∨
  ∃ e q, G s.E f R d m = .bad e q /\ Fin e q (fi s + 2) (opP Y (s.N.length - 1) s) := by
 have hl1 := congrArg List.length hl
 simp only [List.length_cons] at hl1
 unfold fi at hr
 unfold opP
 rw [za6 hl, zby hl]
 have h := hK { s with l := m } ha hd (by simp only; omega) (by unfold fi; simp only; omega)
 rcases Sim.two hfit hfs h with ⟨b, l, hG, ho, hin, hlen, hsz, hll⟩ | ⟨e, q, hG, hF⟩
 ·rw [hea, hba] at hsz
  rw [hea] at hll
  refine .inl ⟨b, l, hG, hlen, by simp only at hsz; omega, by simp only at hll; omega, ?_⟩
  rw [ho]
  simp only at hsz hll
  simp only [Option.bind_some]
  rw [zbn (by simp only [zae]; omega), lay2 _ _ _ _ rfl, List.length_append]
  simp only [List.length_singleton, Nat.add_sub_cancel]
  have hNl : s.N.length = N0.length + A.length := by rw [hN, zae]
  congr 3
  ·rw [hN]
  ·rw [hN]
   congr 2
   rw [za5 (by rw [zae]; omega), za5 (by rw [zae, zae]; omega), hn]; rfl
 ·refine .inr ⟨e, q, hG, hF.bind fun a' s' ho hD haN hN => Fin.add hD _ ?_ ?_⟩
  ·unfold fi at hN ⊢
   simp only at hN
   omega
  ·unfold fi; omega
theorem zet {R : Pr} {O : List (List UInt8 × Int)} {o : List (List UInt8)} (hO : OpRel O o) (L : List Nd -> Pr) (hfit : fit R) (hfs : fitS R) (hea : eats R = 1) (hba : base R = 0)
  (hGL : ∀ E f A d l, G E (f + 1) (L A) d l = match opOf O l with
   | none => .ok A l
   | some n => (G E f R d l.tail).go fun b l2 => G E f (L (joinN { mk 10 (plc E l) with n := n } [A, b])) d l2)
  (hRec : ∀ (s : PS) (A : List Nd) (n : Nat), Al s -> s.d = d -> fi s + 100 <= 900000 -> s.N = lay N0 A -> 1 <= A.length -> s.l.length < n -> 8 * s.l.length + 1 <= f -> Sim N0 s (fi s + 4) (G s.E f (L A) d s.l) (loopP o Y n (s.N.length - 1) s))
  (hK : KnownR R Y f d s.l.length) (ha : Al s) (hd : s.d = d) (hr : fi s + 100 <= 900000) (hN : s.N = lay N0 A) (hA : 1 <= A.length) {n : Nat} (hn : s.l.length < n) (hf : 8 * s.l.length + 1 <= f + 1) :
  Sim N0 s (fi s + 4) (G s.E (f + 1) (L A) d s.l) (loopP o Y n (s.N.length - 1) s) := by
 obtain ⟨n, rfl⟩ : ∃ k, n = k + 1 := ⟨n - 1, by omega⟩
 rw [hGL, loopP]
 rcases hO s with ⟨h1, h2⟩ | ⟨t, m, hl, h1, h2⟩
 ·rw [h2, if_neg (by rw [h1]; decide)]
  simp only [Sim]
  rw [<- hN]
 ·rw [h2, if_pos h1]
  simp only
  have hl1 := congrArg List.length hl
  simp only [List.length_cons] at hl1
  rw [show s.l.tail = m by rw [hl]; rfl, zcc hl]
  rcases zuc hfit hfs hea hba hK ha hd hr hN hA hl _ rfl with ⟨b, l2, hG, hb1, hb2, hb3, ho⟩ | ⟨e, q, hG, hF⟩
  ·rw [hG, ho]
   simp only [Rs.go, Option.bind_some]
   have hjl : (joinN { mk 10 t.p with n := prim t.s } [A, b]).length = A.length + b.length + 1 := jl2 _ _ _
   have hNl : s.N.length = N0.length + A.length := by rw [hN, zae]
   unfold fi at hr ⊢
   refine Sim.mono (hRec { s with l := l2, N := lay N0 (joinN { mk 10 t.p with n := prim t.s } [A, b]) } _ n ha hd ?_ rfl (by rw [hjl]; omega) (by simp only; omega) (by simp only; omega)) ?_
   ·unfold fi
    simp only [zae, hjl]
    omega
   ·unfold fi
    simp only [zae, hjl]
    omega
  ·rw [hG]
   refine hF.bind fun a' s' _ hD haN hN' => ?_
   obtain ⟨n, rfl⟩ : ∃ k, n = k + 1 := ⟨n - 1, by omega⟩
   rw [loopP, hD.any]
   exact ⟨a', s', rfl, hD, haN, by omega⟩
theorem zdo {R : Pr} (L : List Nd -> Pr) (hfit : fit R) (hfs : fitS R) (hea : eats R = 1) (hba : base R = 0) {W : Nat -> Nat -> PS -> Ans} (hW : ∀ (s : PS) (e p : Int) n a, Dd s e p -> W (n + 1) a s = some (a, s))
  (hK : Sim s.N s (fi s + 4) (G s.E f R d s.l) (Y s)) (ha : Al s) (hd : s.d = d) (_hr : fi s + 100 <= 900000)
  (hL : ∀ (s' : PS) (A : List Nd) (n : Nat), Al s' -> s'.d = d -> s'.E = s.E -> fi s' + 2 <= fi s -> s'.N = lay s.N A -> 1 <= A.length -> inOrd A -> s'.l.length < n -> s'.l.length + 1 <= s.l.length -> Sim s.N s' (fi s + 4) (G s'.E f (L A) d s'.l) (W n (s'.N.length - 1) s')) :
  Sim s.N s (fi s + 4) ((G s.E f R d s.l).go fun a l1 => G s.E f (L a) d l1) ((Y s).bind fun r => W (r.2.l.length + 1) r.1 r.2) := by
 rcases Sim.two hfit hfs hK with ⟨a, l, hG, ho, hin, hlen, hsz, hll⟩ | ⟨e, q, hG, hF⟩
 ·rw [hG, ho]
  rw [hea, hba] at hsz
  rw [hea] at hll
  simp only [Rs.go, Option.bind_some]
  have hfi : fi { s with l := l, N := lay s.N a } + 2 <= fi s := by unfold fi; simp only [zae]; omega
  exact hL { s with l := l, N := lay s.N a } a (l.length + 1) ha hd rfl hfi rfl hlen hin (by simp) (by simp only; omega)
 ·rw [hG]
  refine hF.bind fun a' s' _ hD haN hN' => ?_
  rw [hW s' e q _ _ hD]
  exact ⟨a', s', rfl, hD, haN, hN'⟩
end
open T
section
variable {X Y : PS -> Ans} {f d g m0 : Nat} {s : PS} {e p : Int} {N0 A : List Nd}
theorem zf7 (hRec : ∀ (s : PS) (A : List Nd) (n : Nat), Al s -> s.d = d -> fi s + 100 <= 900000 -> s.N = lay N0 A -> 1 <= A.length -> s.l.length < n -> 8 * s.l.length + 1 <= f -> Sim N0 s (fi s + 4) (G s.E f (.postL A) d s.l) (postL n (s.N.length - 1) s))
  (ha : Al s) (hd : s.d = d) (hr : fi s + 100 <= 900000) (hN : s.N = lay N0 A) (hA : 1 <= A.length) {n : Nat} (hn : s.l.length < n) (hf : 8 * s.l.length + 1 <= f + 1) :
  Sim N0 s (fi s + 4) (G s.E (f + 1) (.postL A) d s.l) (postL n (s.N.length - 1) s) := by
 obtain ⟨n, rfl⟩ : ∃ k, n = k + 1 := ⟨n - 1, by omega⟩
 rw [G, postL]
 unfold PS.is
 by_cases hx : isT 7 zeg s.l = true
 ·rw [if_pos hx, if_pos hx]
  obtain ⟨t, m, hl⟩ := za7 hx
  have hl1 := congrArg List.length hl
  simp only [List.length_cons] at hl1
  rw [show s.l.tail = m by rw [hl]; rfl, zcc hl, za6 hl, zby hl]
  have ha1 : Al { s with l := m } := ha
  have hNl : s.N.length = N0.length + A.length := by rw [hN, zae]
  unfold fi at hr ⊢
  rcases zdi ha1 (k := 2) (by decide) with ⟨t2, m2, hl2, e1, e2⟩ | ⟨q, x, s', e1, h2, h3, h4, e2⟩
  ·rw [e2, e1]
   simp only at hl2
   have hl3 := congrArg List.length hl2
   simp only [List.length_cons] at hl3
   simp only
   rw [zbn (by simp only; omega)]
   simp only [Option.bind_some]
   have hjl : (joinN { mk 12 t.p with nm := t2.s } [A]).length = A.length + 1 := jl1 _ _
   have hNN : s.N ++ [{ mk 12 t.p with nm := t2.s, a := ((s.N.length - 1 : Nat) : Int) }] = lay N0 (joinN { mk 12 t.p with nm := t2.s } [A]) := by
    rw [lay1 _ _ _ rfl, hN]
    congr 2
    rw [za5 (by rw [zae]; omega)]; rfl
   have hln : (s.N ++ [({ mk 12 t.p with nm := t2.s, a := ((s.N.length - 1 : Nat) : Int) } : Nd)]).length - 1 = s.N.length := by simp
   refine Sim.mono (m := fi { s with l := m2, N := s.N ++ [{ mk 12 t.p with nm := t2.s, a := ((s.N.length - 1 : Nat) : Int) }] } + 4) ?_ (by unfold fi; simp only [List.length_append, List.length_singleton]; omega)
   have h := hRec { s with l := m2, N := s.N ++ [{ mk 12 t.p with nm := t2.s, a := ((s.N.length - 1 : Nat) : Int) }] } (joinN { mk 12 t.p with nm := t2.s } [A]) n ha hd (by unfold fi; simp only [List.length_append, List.length_singleton]; omega) hNN (by rw [hjl]; omega) (by simp only; omega) (by simp only; omega)
   simp only [hln] at h
   exact h
  ·rw [e2, e1]
   simp only
   rw [zbn (by rw [h3]; simp only; omega)]
   simp only [Option.bind_some]
   obtain ⟨n, rfl⟩ : ∃ k, n = k + 1 := ⟨n - 1, by omega⟩
   rw [postL, show ({ s' with N := s'.N ++ [_] } : PS).is 7 zeg = false from Dd.is (s := { s' with N := s'.N ++ [_] }) h2 _ _]
   refine ⟨_, _, rfl, h2, by simp, ?_⟩
   simp only [List.length_append, List.length_singleton, h3]
   omega
 ·rw [if_neg hx, if_neg hx]
  simp only [Sim]
  rw [<- hN]
theorem zhc (hK : KnownR .post Y f d (s.l.length + 1)) (hRec : ∀ (s : PS) (A : List Nd) (n : Nat), Al s -> s.d = d -> fi s + 100 <= 900000 -> s.N = lay N0 A -> 1 <= A.length -> s.l.length < n -> 8 * s.l.length + 3 <= f -> Sim N0 s (fi s + 6) (G s.E f (.appL A) d s.l) (appL Y n (s.N.length - 1) s))
  (ha : Al s) (hd : s.d = d) (hr : fi s + 100 <= 900000) (hN : s.N = lay N0 A) (hA : 1 <= A.length) {n : Nat} (hn : s.l.length < n) (hf : 8 * s.l.length + 3 <= f + 1) :
  Sim N0 s (fi s + 6) (G s.E (f + 1) (.appL A) d s.l) (appL Y n (s.N.length - 1) s) := by
 obtain ⟨n, rfl⟩ : ∃ k, n = k + 1 := ⟨n - 1, by omega⟩
 rw [G, appL]
 by_cases hx : begins s.l = true
 ·rw [if_pos hx, if_pos hx]
  obtain ⟨y, hy, _, hyp⟩ := zkl N0 (a := A) (by intro h0; rw [h0] at hA; simp at hA)
  rw [hN, hy]
  simp only [hyp]
  rw [<- hN]
  have hNl : s.N.length = N0.length + A.length := by rw [hN, zae]
  have h := hK s ha hd (by omega) (by omega)
  unfold fi at hr
  rcases Sim.two (R := .post) trivial trivial h with ⟨b, l, hG, ho, hin, hlen, hsz, hll⟩ | ⟨e, q, hG, hF⟩
  ·rw [hG, ho]
   simp only [eats, base] at hsz hll
   simp only [Rs.go, Option.bind_some]
   rw [zbn (by simp only [zae]; omega)]
   simp only [Option.bind_some]
   have hjl : (joinN (mk 6 (lastP A)) [A, b]).length = A.length + b.length + 1 := jl2 _ _ _
   have hNN : lay s.N b ++ [{ mk 6 (lastP A) with a := ((s.N.length - 1 : Nat) : Int), b := (((lay s.N b).length - 1 : Nat) : Int) }] = lay N0 (joinN (mk 6 (lastP A)) [A, b]) := by
    rw [lay2 _ _ _ _ rfl, hN]
    congr 2
    rw [za5 (by rw [zae]; omega), za5 (by rw [zae, zae]; omega)]; rfl
   have hln : (lay s.N b ++ [({ mk 6 (lastP A) with a := ((s.N.length - 1 : Nat) : Int), b := (((lay s.N b).length - 1 : Nat) : Int) } : Nd)]).length - 1 = (lay s.N b).length := by simp
   refine Sim.mono (m := fi { s with l := l, N := lay s.N b ++ [{ mk 6 (lastP A) with a := ((s.N.length - 1 : Nat) : Int), b := (((lay s.N b).length - 1 : Nat) : Int) }] } + 6) ?_ (by unfold fi; simp only [List.length_append, List.length_singleton, zae]; omega)
   have h := hRec { s with l := l, N := lay s.N b ++ [{ mk 6 (lastP A) with a := ((s.N.length - 1 : Nat) : Int), b := (((lay s.N b).length - 1 : Nat) : Int) }] } (joinN (mk 6 (lastP A)) [A, b]) n ha hd (by unfold fi; simp only [List.length_append, List.length_singleton, zae]; omega) hNN (by rw [hjl]; omega) (by simp only; omega) (by simp only; omega)
   simp only [hln] at h
   exact h
  ·rw [hG]
   have hpos : 1 <= s.l.length := by
    cases hh : s.l with
    | nil => rw [hh] at hx; cases hx
    | cons t m => simp
   refine hF.bind fun a' s' _ hD haN hN' => ?_
   unfold fi at hN'
   simp only
   rw [zbn (by omega)]
   simp only [Option.bind_some]
   obtain ⟨n, rfl⟩ : ∃ k, n = k + 1 := ⟨n - 1, by omega⟩
   rw [appL, Dd.beg (s := { s' with N := s'.N ++ [_] }) hD]
   refine ⟨_, _, rfl, hD, by simp, ?_⟩
   simp only [List.length_append, List.length_singleton]
   unfold fi
   omega
 ·rw [if_neg hx, if_neg hx]
  simp only [Sim]
  rw [<- hN]
end
end Go.Proofs.YtjakeidbajkdcaaGreatDoor.A
