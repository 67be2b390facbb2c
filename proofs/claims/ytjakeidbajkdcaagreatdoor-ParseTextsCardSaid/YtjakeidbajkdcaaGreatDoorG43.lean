/- Joined by program. -/
import Derived.Test.YtjakeidbajkdcaaGreatDoorG42
import Derived.Test.YtjakeidbajkdcaaGreatDoorG19
import Derived.Test.YtjakeidbajkdcaaGreatDoorG18
set_option maxHeartbeats 1000000
namespace Go.Proofs.YtjakeidbajkdcaaGreatDoor.A
open T
theorem zfv : ∀ (fs : List Fld) (ks : List Int), ks.length = fs.length -> (relab fs ks).map Fld.nm = fs.map Fld.nm /\ (relab fs ks).length = fs.length := by
 intro fs
 induction fs with
 | nil => intro ks h; cases ks with
  | nil => exact ⟨rfl, rfl⟩
  | cons k ks => simp at h
 | cons x fs ih => intro ks h; cases ks with
  | nil => simp at h
  | cons k ks =>
   obtain ⟨h1, h2⟩ := ih ks (by simpa using h)
   unfold relab at h1 h2 ⊢
   exact ⟨by simp [h1], by simp at h2 ⊢; omega⟩
theorem zfc (fs : List Fld) (ks : List Int) (h : ks.length = fs.length) (x v : ByteArray) (k : Int) : relab (fs ++ [fld x v]) (ks ++ [k]) = relab fs ks ++ [⟨x, v, k⟩] := by
 unfold relab
 rw [List.zipWith_append h.symm]
 rfl
section
variable {X : PS -> Ans} {f d g : Nat} {s : PS} {e p : Int} {N0 : List Nd} {fs gs : List Fld} {ts : List (List Nd)}
theorem zhx (hX : X = exprP (g + 1)) (hK : Known X f d s.l.length) (hd2 : d <= 100)
  (hRec : ∀ (s : PS) (fs gs : List Fld) (ts : List (List Nd)) (n : Nat), Al s -> s.d = d -> fi s + 100 <= 900000 -> s.N = (lays N0 ts).1 -> ts.length = fs.length -> gs = relab fs (lays N0 ts).2 -> fs.length <= 30 -> s.l.length < n -> 8 * s.l.length + 1 <= f -> Sim N0 s (fi s + 4) (G s.E f (.recL p fs ts) d s.l) (recL X p n gs s))
  (ha : Al s) (hd : s.d = d) (hr : fi s + 100 <= 900000) (hN : s.N = (lays N0 ts).1) (htl : ts.length = fs.length) (hg : gs = relab fs (lays N0 ts).2) (h30 : fs.length <= 30) {n : Nat} (hn : s.l.length < n) (hf : 8 * s.l.length + 1 <= f + 1) :
  Sim N0 s (fi s + 4) (G s.E (f + 1) (.recL p fs ts) d s.l) (recL X p n gs s) := by
 obtain ⟨n, rfl⟩ : ∃ k, n = k + 1 := ⟨n - 1, by omega⟩
 have hkd : Kd X := by rw [hX]; exact zgb _
 have hKl : (lays N0 ts).2.length = fs.length := by rw [zlc, htl]
 obtain ⟨g1, g2⟩ := zfv fs _ hKl
 rw [<- hg] at g1 g2
 rw [G, recL, if_pos (by omega)]
 unfold fi at hr ⊢
 have tail : ∀ (x : ByteArray) (e q : Int) (a : Nat) (s' : PS), Dd s' e q -> s'.N.length + 1 <= s.N.length + 4 * s.l.length + 4 -> Fin e q (s.N.length + 4 * s.l.length + 4) (if s'.is 7 zb6 = true then recL X p n (gs ++ [⟨x, ⟨#[]⟩, a⟩]) s'.nx else (s'.must 7 zbl).add { mk 11 p with l := gs ++ [⟨x, ⟨#[]⟩, a⟩] }) := fun x e q a s' hD hNN => by
  rw [hD.is, if_neg (by decide), hD.must]
  exact Fin.add hD _ hNN (by omega)
 rcases zdz ha (k := 2) (by decide) g1 (by omega) with ⟨t, m, hl, hg30, e1, e2⟩ | ⟨q, c, x, s', hc, e1, h2, h3, h4, e2⟩
 ·rw [e2, e1]
  simp only
  have hl1 := congrArg List.length hl
  simp only [List.length_cons] at hl1
  have ha1 : Al { s with l := m } := ha
  rcases zak ha1 7 zbg with ⟨t2, m2, hl2, e3, e4⟩ | ⟨q, s', e3, h2, h3, h4, e4⟩
  ·rw [e4, e3]
   simp only at hl2
   have hl3 := congrArg List.length hl2
   simp only [List.length_cons] at hl3
   have h := hK { s with l := m2 } ha hd (by simp only; omega) (by unfold fi; simp only; omega)
   rcases Sim.two (R := .expr) trivial trivial h with ⟨a, l, hG, ho, hin, hlen, hsz, hll⟩ | ⟨e, q, hG, hF⟩
   ·rw [hG, ho]
    simp only [eats, base] at hsz hll
    simp only [Rs.go, Option.bind_some]
    have hls := zf6 N0 ts a
    rw [<- hN] at hls
    have hgs : gs ++ [(⟨t.s, ⟨#[]⟩, (((lay s.N a).length - 1 : Nat) : Int)⟩ : Fld)] = relab (fs ++ [fld t.s ⟨#[]⟩]) (lays N0 (ts ++ [a])).2 := by
     rw [hls, zfc _ _ hKl, hg, za5 (by rw [zae]; omega)]
    have hls1 : (lays N0 (ts ++ [a])).1 = lay s.N a := by rw [hls]
    unfold PS.is
    by_cases hx : isT 7 zb6 l = true
    ·rw [if_pos hx, if_pos hx]
     obtain ⟨t3, m3, hl4⟩ := za7 hx
     have hl5 := congrArg List.length hl4
     simp only [List.length_cons] at hl5
     rw [show l.tail = m3 by rw [hl4]; rfl, show ({ s with l := l, N := lay s.N a } : PS).nx = { s with l := m3, N := lay s.N a } from za6 hl4]
     exact Sim.mono (hRec { s with l := m3, N := lay s.N a } _ _ (ts ++ [a]) n ha hd (by unfold fi; simp only [zae]; omega) hls1.symm (by simp [htl]) hgs (by simp; omega) (by simp only; omega) (by simp only; omega)) (by unfold fi; simp only [zae]; omega)
    ·rw [if_neg hx, if_neg hx]
     have ha2 : Al { s with l := l, N := lay s.N a } := ha
     rcases zak ha2 7 zbl with ⟨t3, m3, hl4, e5, e6⟩ | ⟨q, s', e5, h2, h3, h4, e6⟩
     ·rw [e6, e5]
      simp only [Sim]
      rw [zbn (by simp only [zae]; omega), layN _ _ _ (by simp [kids, kids0, many, mk, htl]), hls1, List.length_append]
      simp only [List.length_singleton, Nat.add_sub_cancel]
      congr 3
      ·rw [hgs]; rfl
     ·rw [e6, e5]
      refine Fin.add h2 _ ?_ (by omega)
      rw [h3]
      simp only [zae]
      omega
   ·rw [hG]
    refine hF.bind fun a s' ho hD haN hN' => ?_
    unfold fi at hN'
    simp only at hN'
    exact tail _ _ _ a s' hD (by omega)
  ·rw [e4, e3]
   rw [h2.xx hX (by rw [h4]; simp only; omega) (by rw [h3]; simp only; omega)]
   exact tail _ _ _ _ _ h2.d1 (by rw [zb7, h3]; simp only; omega)
 ·rw [e2, e1]
  simp only
  rw [h2.must, h2.xx hX (by rw [h4]; omega) (by rw [h3]; omega)]
  exact tail _ _ _ _ _ h2.d1 (by rw [zb7, h3]; omega)
theorem zhy (hX : X = exprP (g + 1)) (hK : Known X f d s.l.length) (hd2 : d <= 100) {a0 : Nat}
  (hRec : ∀ (s : PS) (fs gs : List Fld) (ts : List (List Nd)) (K : List Int) (n : Nat), Al s -> s.d = d -> fi s + 100 <= 900000 -> s.N = (lays N0 ts).1 -> (lays N0 ts).2 = (a0 : Int) :: K -> ts.length = fs.length + 1 -> gs = relab fs K -> fs.length <= 30 -> s.l.length < n -> 8 * s.l.length + 1 <= f -> Sim N0 s (fi s + 4) (G s.E f (.casL p fs ts) d s.l) (casL X p a0 n gs s))
  (ha : Al s) (hd : s.d = d) (hr : fi s + 100 <= 900000) (hN : s.N = (lays N0 ts).1) {K : List Int} (hKK : (lays N0 ts).2 = (a0 : Int) :: K) (htl : ts.length = fs.length + 1) (hg : gs = relab fs K) (h30 : fs.length <= 30) {n : Nat} (hn : s.l.length < n) (hf : 8 * s.l.length + 1 <= f + 1) :
  Sim N0 s (fi s + 4) (G s.E (f + 1) (.casL p fs ts) d s.l) (casL X p a0 n gs s) := by
 obtain ⟨n, rfl⟩ : ∃ k, n = k + 1 := ⟨n - 1, by omega⟩
 have hkd : Kd X := by rw [hX]; exact zgb _
 have hKl : K.length = fs.length := by have := zlc N0 ts; rw [hKK, htl] at this; simpa using this
 obtain ⟨g1, g2⟩ := zfv fs _ hKl
 rw [<- hg] at g1 g2
 rw [G, casL, if_pos (by omega)]
 unfold fi at hr ⊢
 have tail : ∀ (x v : ByteArray) (e q : Int) (a : Nat) (s' : PS), Dd s' e q -> s'.N.length + 1 <= s.N.length + 4 * s.l.length + 4 -> Fin e q (s.N.length + 4 * s.l.length + 4) (if s'.is 7 zej = true then casL X p a0 n (gs ++ [⟨x, v, a⟩]) s'.nx else (s'.must 1 zfq).add { mk 14 p with a := a0, l := gs ++ [⟨x, v, a⟩] }) := fun x v e q a s' hD hNN => by
  rw [hD.is, if_neg (by decide), hD.must]
  exact Fin.add hD _ hNN (by omega)
 rcases zdz ha (k := 3) (by decide) g1 (by omega) with ⟨t, m, hl, hg30, e1, e2⟩ | ⟨q, c, x, s', hc, e1, h2, h3, h4, e2⟩
 ·rw [e2, e1]
  simp only
  have hl1 := congrArg List.length hl
  simp only [List.length_cons] at hl1
  have ha1 : Al { s with l := m } := ha
  rcases zdi ha1 (k := 2) (by decide) with ⟨tv, mv, hlv, ev, ev2⟩ | ⟨q, x, s', ev, h2, h3, h4, ev2⟩
  ·rw [ev2, ev]
   simp only at hlv
   have hlv1 := congrArg List.length hlv
   simp only [List.length_cons] at hlv1
   simp only
   have ha2 : Al { s with l := mv } := ha
   rcases zak ha2 7 zbc with ⟨t2, m2, hl2, e3, e4⟩ | ⟨q, s', e3, h2, h3, h4, e4⟩
   ·rw [e4, e3]
    simp only at hl2
    have hl3 := congrArg List.length hl2
    simp only [List.length_cons] at hl3
    have h := hK { s with l := m2 } ha hd (by simp only; omega) (by unfold fi; simp only; omega)
    rcases Sim.two (R := .expr) trivial trivial h with ⟨a, l, hG, ho, hin, hlen, hsz, hll⟩ | ⟨e, q, hG, hF⟩
    ·rw [hG, ho]
     simp only [eats, base] at hsz hll
     simp only [Rs.go, Option.bind_some]
     have hls := zf6 N0 ts a
     rw [<- hN, hKK] at hls
     have hls2 : (lays N0 (ts ++ [a])).2 = (a0 : Int) :: (K ++ [((lay s.N a).length : Int) - 1]) := by rw [hls]; rfl
     have hgs : gs ++ [(⟨t.s, tv.s, (((lay s.N a).length - 1 : Nat) : Int)⟩ : Fld)] = relab (fs ++ [fld t.s tv.s]) (K ++ [((lay s.N a).length : Int) - 1]) := by
      rw [zfc _ _ hKl, hg, za5 (by rw [zae]; omega)]
     have hls1 : (lays N0 (ts ++ [a])).1 = lay s.N a := by rw [hls]
     unfold PS.is
     by_cases hx : isT 7 zej l = true
     ·rw [if_pos hx, if_pos hx]
      obtain ⟨t3, m3, hl4⟩ := za7 hx
      have hl5 := congrArg List.length hl4
      simp only [List.length_cons] at hl5
      rw [show l.tail = m3 by rw [hl4]; rfl, show ({ s with l := l, N := lay s.N a } : PS).nx = { s with l := m3, N := lay s.N a } from za6 hl4]
      exact Sim.mono (hRec { s with l := m3, N := lay s.N a } _ _ (ts ++ [a]) _ n ha hd (by unfold fi; simp only [zae]; omega) hls1.symm hls2 (by simp [htl]) hgs (by simp; omega) (by simp only; omega) (by simp only; omega)) (by unfold fi; simp only [zae]; omega)
     ·rw [if_neg hx, if_neg hx]
      have ha3 : Al { s with l := l, N := lay s.N a } := ha
      rcases zak ha3 1 zfq with ⟨t3, m3, hl4, e5, e6⟩ | ⟨q, s', e5, h2, h3, h4, e6⟩
      ·rw [e6, e5]
       simp only [Sim]
       rw [zbn (by simp only [zae]; omega), layN _ _ _ (by simp [kids, kids0, many, mk, htl]), hls1, hls2, List.length_append]
       simp only [List.length_singleton, Nat.add_sub_cancel]
       congr 3
       ·rw [hgs]; rfl
      ·rw [e6, e5]
       refine Fin.add h2 _ ?_ (by omega)
       rw [h3]
       simp only [zae]
       omega
    ·rw [hG]
     refine hF.bind fun a s' ho hD haN hN' => ?_
     unfold fi at hN'
     simp only at hN'
     exact tail _ _ _ _ a s' hD (by omega)
   ·rw [e4, e3]
    rw [h2.xx hX (by rw [h4]; simp only; omega) (by rw [h3]; simp only; omega)]
    exact tail _ _ _ _ _ _ h2.d1 (by rw [zb7, h3]; simp only; omega)
  ·rw [ev2, ev]
   simp only
   rw [h2.must, h2.xx hX (by rw [h4]; simp only; omega) (by rw [h3]; simp only; omega)]
   exact tail _ _ _ _ _ _ h2.d1 (by rw [zb7, h3]; simp only; omega)
 ·rw [e2, e1]
  simp only
  rw [h2.txt (by decide)]
  simp only
  rw [h2.must, h2.xx hX (by rw [h4]; omega) (by rw [h3]; omega)]
  exact tail _ _ _ _ _ _ h2.d1 (by rw [zb7, h3]; omega)
end
open T
theorem zkk {e p : Int} {m : Nat} {s : PS} (h : Dd s e p) {a : Nat} (ha : a < s.N.length) (hm : s.N.length <= m) : Fin e p m (some (a, s)) := ⟨a, s, rfl, h, ha, hm⟩
section
variable {X : PS -> Ans} {f d g m0 : Nat} {s : PS} {e p : Int}
theorem zbv {t : Tk} {m : List Tk} (hl : s.l = t :: m) (hr : fi s + 20 <= 900000) {y : Nd} (hy : wk y [] = y) (hk : (kids y).length = 0) (mm : Nat) : Sim s.N s mm (.ok (joinN y []) m) (s.nx.add y) := by
 unfold fi at hr
 rw [za6 hl, zbn (by simp only; omega)]
 simp only [Sim]
 rw [lay0 _ _ hk, hy]
 simp
theorem zcn {t : Tk} {m : List Tk} (hl : s.l = t :: m) {k : Int} (h : t.k ≠ k) (x : List UInt8) : s.is k x = false := by unfold PS.is; rw [hl]; simp [isT, h]
theorem zhz (hX : X = exprP (g + 1)) (hK : Known X f d s.l.length) (hd2 : d <= 100)
  (hRec : ∀ (s' : PS) (p : Int), Al s' -> s'.d = d -> s'.E = s.E -> fi s' + 100 <= 900000 -> s'.l.length + 1 = s.l.length -> Sim s'.N s' (fi s' + 4) (G s'.E f (.recL p [] []) d s'.l) (recL X p (s'.l.length + 2) [] s'))
  (hCas : ∀ (s' : PS) (N0 a : List Nd) (p : Int), Al s' -> s'.d = d -> s'.E = s.E -> fi s' + 100 <= 900000 -> s'.N = lay N0 a -> 1 <= a.length -> s'.l.length + 1 < s.l.length -> Sim N0 s' (fi s' + 4) (G s'.E f (.casL p [] [a]) d s'.l) (casL X p (s'.N.length - 1) (s'.l.length + 2) [] s'))
  (ha : Al s) (hd : s.d = d) (hr : fi s + 100 <= 900000) :
  Sim s.N s (fi s + 4) (G s.E (f + 1) .atom d s.l) (atomP X s) := by
 have hrr := hr
 unfold fi at hr
 cases hl : s.l with
 | nil =>
  rw [G]
  have n1 : ∀ k x, s.is k x = false := fun k x => by unfold PS.is; rw [hl]; rfl
  have hpk : s.pk = ⟨0, ⟨#[]⟩, 0, s.E⟩ := by unfold PS.pk; rw [hl]
  unfold atomP leafN
  simp only [n1, hpk]
  refine Fin.add (zhl ha s.E 5 (by decide)).1 _ ?_ (by unfold fi; omega)
  show s.N.length + 1 <= _
  unfold fi; omega
 | cons t m =>
  rw [G]
  have hl1 := congrArg List.length hl
  simp only [List.length_cons] at hl1
  have hpk := zby hl
  have hnx := za6 hl
  unfold atomP
  by_cases h4 : t.k = 4
  ·rw [if_pos h4, zcn hl (by omega), zcn hl (by omega), zcn hl (by omega)]
   unfold leafN
   simp only [zcn hl (k := 1) (by omega), hpk, h4, if_true]
   exact zbv hl (by omega) rfl rfl _
  rw [if_neg h4]
  by_cases h5 : t.k = 5
  ·rw [if_pos h5, zcn hl (by omega), zcn hl (by omega), zcn hl (by omega)]
   unfold leafN
   simp only [zcn hl (k := 1) (by omega), hpk, h5, if_true, show ¬ ((5 : Int) = 4) by decide, if_false]
   exact zbv hl (by omega) rfl rfl _
  rw [if_neg h5]
  by_cases h2 : t.k = 2
  ·rw [if_pos h2, zcn hl (by omega), zcn hl (by omega), zcn hl (by omega)]
   unfold leafN
   simp only [zcn hl (k := 1) (by omega), hpk, h2, if_true, show ¬ ((2 : Int) = 4) by decide, show ¬ ((2 : Int) = 5) by decide, if_false]
   exact zbv hl (by omega) rfl rfl _
  rw [if_neg h2]
  rw [<- hl]
  by_cases ht : isT 1 zar s.l = true
  ·have hk1 : t.k = 1 := by rw [hl] at ht; simp [isT] at ht; exact ht.1
   have hs : t.s.toList = zar := by rw [hl] at ht; simp [isT] at ht; exact ht.2
   rw [if_pos ht, zcn hl (by omega), zcn hl (by omega), show s.is 1 zbk = false by unfold PS.is; rw [hl]; simp [isT, hs]; intro _; decide]
   unfold leafN
   rw [show s.is 1 zar = true from ht]
   simp only [hpk, if_true]
   exact zbv hl (by omega) rfl rfl _
  rw [if_neg ht]
  by_cases hf : isT 1 zan s.l = true
  ·have hk1 : t.k = 1 := by rw [hl] at hf; simp [isT] at hf; exact hf.1
   have hs : t.s.toList = zan := by rw [hl] at hf; simp [isT] at hf; exact hf.2
   rw [if_pos hf, zcn hl (by omega), zcn hl (by omega), show s.is 1 zbk = false by unfold PS.is; rw [hl]; simp [isT, hs]; intro _; decide]
   unfold leafN
   rw [show s.is 1 zar = false from beff.2 ht, show s.is 1 zan = true from hf]
   simp only [hpk, if_true]
   exact zbv hl (by omega) rfl rfl _
  rw [if_neg hf]
  have ha1 : Al { s with l := m } := ha
  have hkd : Kd X := by rw [hX]; exact zgb _
  by_cases hp : isT 7 za3 s.l = true
  ·rw [if_pos hp, show s.is 7 za3 = true from hp]
   simp only [if_true]
   rw [hnx]
   have h := hK { s with l := m } ha hd (by simp only; omega) (by unfold fi; simp only; omega)
   rcases Sim.two (R := .expr) trivial trivial h with ⟨a, l, hG, ho, hin, hlen, hsz, hll⟩ | ⟨e, q, hG, hF⟩
   ·rw [hG, ho]
    simp only [eats, base] at hsz hll
    simp only [Rs.go, Option.bind_some]
    have ha2 : Al { s with l := l, N := lay s.N a } := ha
    rcases zak ha2 7 zgf with ⟨t3, m3, hl4, e5, e6⟩ | ⟨q, s', e5, h2, h3, h4, e6⟩
    ·rw [e6, e5]
     simp only [Sim]
    ·rw [e6, e5]
     refine zkk h2 ?_ ?_
     ·rw [h3]; simp only [zae]; omega
     ·rw [h3]; unfold fi; simp only [zae]; omega
   ·rw [hG]
    refine hF.bind fun a s' ho hD haN hN' => ?_
    unfold fi at hN' ⊢
    simp only at hN' ⊢
    rw [hD.must]
    exact zkk hD haN (by omega)
  rw [if_neg hp, show s.is 7 za3 = false from beff.2 hp]
  by_cases hb : isT 7 zbb s.l = true
  ·rw [if_pos hb, show s.is 7 zbb = true from hb]
   simp only [if_true, Bool.false_eq_true, if_false]
   rw [hnx, hpk]
   unfold recP
   rw [show ({ s with l := m } : PS).is 7 zbl = isT 7 zbl m from rfl]
   by_cases hc : isT 7 zbl m = true
   ·rw [if_pos hc, if_pos hc]
    obtain ⟨t2, m2, hl2⟩ := za7 hc
    have := zbv (s := { s with l := m }) (t := t2) (m := m2) hl2 (by unfold fi; simp only; omega) (y := mk 11 t.p) rfl rfl (fi s + 4)
    rw [show m.tail = m2 by rw [hl2]; rfl]
    exact this
   ·rw [if_neg hc, if_neg hc]
    exact Sim.mono (hRec { s with l := m } t.p ha hd rfl (by unfold fi; simp only; omega) (by simp only; omega)) (by unfold fi; simp only; omega)
  rw [if_neg hb, show s.is 7 zbb = false from beff.2 hb]
  by_cases hc : isT 1 zbk s.l = true
  ·rw [if_pos hc, show s.is 1 zbk = true from hc]
   simp only [if_true, Bool.false_eq_true, if_false]
   rw [hnx, hpk]
   unfold casP
   have h := hK { s with l := m } ha hd (by simp only; omega) (by unfold fi; simp only; omega)
   rcases Sim.two (R := .expr) trivial trivial h with ⟨a, l, hG, ho, hin, hlen, hsz, hll⟩ | ⟨e, q, hG, hF⟩
   ·rw [hG, ho]
    simp only [eats, base] at hsz hll
    simp only [Rs.go, Option.bind_some]
    have ha2 : Al { s with l := l, N := lay s.N a } := ha
    rcases zak ha2 1 w_of with ⟨t3, m3, hl4, e5, e6⟩ | ⟨q, s', e5, h2, h3, h4, e6⟩
    ·rw [e6, e5]
     simp only at hl4
     have hl5 := congrArg List.length hl4
     simp only [List.length_cons] at hl5
     exact Sim.mono (hCas { s with l := m3, N := lay s.N a } s.N a t.p ha hd rfl (by unfold fi; simp only [zae]; omega) rfl hlen (by simp only; omega)) (by unfold fi; simp only [zae]; omega)
    ·rw [e6, e5]
     rw [casL, if_pos (by simp), h2.lab (by decide)]
     simp only
     rw [h2.txt (by decide)]
     simp only
     rw [h2.must, h2.xx hX (by rw [h4]; simp only; omega) (by rw [h3]; simp only [zae]; omega)]
     simp only [Option.bind_some]
     rw [h2.d1.is, if_neg (by decide), h2.d1.must]
     refine Fin.add h2.d1 _ ?_ (by unfold fi; omega)
     rw [zb7, h3]
     unfold fi
     simp only [zae]
     omega
   ·rw [hG]
    refine hF.bind fun a s' ho hD haN hN' => ?_
    have hd' : s'.d < 1000 := by have := hkd _ _ ho; simp only at this; omega
    unfold fi at hN' ⊢
    simp only at hN' ⊢
    rw [hD.must, casL, if_pos (by simp), hD.lab (by decide)]
    simp only
    rw [hD.txt (by decide)]
    simp only
    rw [hD.must, hD.xx hX hd' (by omega)]
    simp only [Option.bind_some]
    rw [hD.d1.is, if_neg (by decide), hD.d1.must]
    refine Fin.add hD.d1 _ ?_ (by omega)
    rw [zb7]
    omega
  rw [if_neg hc, show s.is 1 zbk = false from beff.2 hc]
  simp only [Bool.false_eq_true, if_false]
  unfold leafN
  rw [show s.is 1 zar = false from beff.2 ht, show s.is 1 zan = false from beff.2 hf, hpk]
  simp only [h4, h5, h2, Bool.false_eq_true, if_false]
  refine Fin.add (zhl ha t.p 5 (by decide)).1 _ ?_ (by unfold fi; omega)
  show s.N.length + 1 <= _
  unfold fi; omega
end
open T
structure Rows (f : Nat) : Prop where
 expr : ∀ g d s, Al s -> s.d = d -> d <= 100 -> 101 <= g + d -> fi s + 100 <= 900000 -> 8 * s.l.length + 7 <= f -> Sim s.N s (fi s + 4) (G s.E f .expr d s.l) (exprP g s)
 cmp : ∀ g d s, Al s -> s.d = d -> d <= 100 -> 101 <= g + d -> fi s + 100 <= 900000 -> 8 * s.l.length + 6 <= f -> Sim s.N s (fi s + 4) (G s.E f .cmp d s.l) (cmpP (exprP g) s)
 sum : ∀ g d s, Al s -> s.d = d -> d <= 100 -> 101 <= g + d -> fi s + 100 <= 900000 -> 8 * s.l.length + 5 <= f -> Sim s.N s (fi s + 4) (G s.E f .sum d s.l) (sumP (exprP g) s)
 prod : ∀ g d s, Al s -> s.d = d -> d <= 100 -> 101 <= g + d -> fi s + 100 <= 900000 -> 8 * s.l.length + 4 <= f -> Sim s.N s (fi s + 4) (G s.E f .prod d s.l) (prodP (exprP g) s)
 app : ∀ g d s, Al s -> s.d = d -> d <= 100 -> 101 <= g + d -> fi s + 100 <= 900000 -> 8 * s.l.length + 3 <= f -> Sim s.N s (fi s + 4) (G s.E f .app d s.l) (appP (exprP g) s)
 post : ∀ g d s, Al s -> s.d = d -> d <= 100 -> 101 <= g + d -> fi s + 100 <= 900000 -> 8 * s.l.length + 2 <= f -> Sim s.N s (fi s + 4) (G s.E f .post d s.l) (postP (exprP g) s)
 atom : ∀ g d s, Al s -> s.d = d -> d <= 100 -> 101 <= g + d -> fi s + 100 <= 900000 -> 8 * s.l.length + 1 <= f -> Sim s.N s (fi s + 4) (G s.E f .atom d s.l) (atomP (exprP g) s)
 sumL : ∀ g d s N0 A n, Al s -> s.d = d -> d <= 100 -> 101 <= g + d -> fi s + 100 <= 900000 -> s.N = lay N0 A -> 1 <= A.length -> s.l.length < n -> 8 * s.l.length + 1 <= f -> Sim N0 s (fi s + 4) (G s.E f (.sumL A) d s.l) (loopP zik (prodP (exprP g)) n (s.N.length - 1) s)
 prodL : ∀ g d s N0 A n, Al s -> s.d = d -> d <= 100 -> 101 <= g + d -> fi s + 100 <= 900000 -> s.N = lay N0 A -> 1 <= A.length -> s.l.length < n -> 8 * s.l.length + 1 <= f -> Sim N0 s (fi s + 4) (G s.E f (.prodL A) d s.l) (loopP zfm (appP (exprP g)) n (s.N.length - 1) s)
 appL : ∀ g d s N0 A n, Al s -> s.d = d -> d <= 100 -> 101 <= g + d -> fi s + 100 <= 900000 -> s.N = lay N0 A -> 1 <= A.length -> s.l.length < n -> 8 * s.l.length + 3 <= f -> Sim N0 s (fi s + 6) (G s.E f (.appL A) d s.l) (appL (postP (exprP g)) n (s.N.length - 1) s)
 postL : ∀ d s N0 A n, Al s -> s.d = d -> fi s + 100 <= 900000 -> s.N = lay N0 A -> 1 <= A.length -> s.l.length < n -> 8 * s.l.length + 1 <= f -> Sim N0 s (fi s + 4) (G s.E f (.postL A) d s.l) (postL n (s.N.length - 1) s)
 recL : ∀ g d p s N0 fs gs ts n, Al s -> s.d = d -> d <= 100 -> 101 <= g + d -> fi s + 100 <= 900000 -> s.N = (lays N0 ts).1 -> ts.length = fs.length -> gs = relab fs (lays N0 ts).2 -> fs.length <= 30 -> s.l.length < n -> 8 * s.l.length + 1 <= f -> Sim N0 s (fi s + 4) (G s.E f (.recL p fs ts) d s.l) (recL (exprP g) p n gs s)
 casL : ∀ g d p (a0 : Nat) s N0 fs gs ts K n, Al s -> s.d = d -> d <= 100 -> 101 <= g + d -> fi s + 100 <= 900000 -> s.N = (lays N0 ts).1 -> (lays N0 ts).2 = (a0 : Int) :: K -> ts.length = fs.length + 1 -> gs = relab fs K -> fs.length <= 30 -> s.l.length < n -> 8 * s.l.length + 1 <= f -> Sim N0 s (fi s + 4) (G s.E f (.casL p fs ts) d s.l) (casL (exprP g) p a0 n gs s)
theorem zm2 {s : PS} {n m : Nat} {r : Rs} {o : Ans} (h : Sim s.N { s with d := s.d + n } m r o) (hn : n = 1) : Sim s.N s m r (o.bind fun q => some (q.1, q.2.up)) := by
 subst hn
 cases r with
 | ok t l =>
  simp only [Sim] at h ⊢
  rw [h]
  rfl
 | bad e p =>
  refine Fin.bind h fun a s' _ hD haN hN => ?_
  exact ⟨a, s'.up, rfl, hD, haN, hN⟩
theorem Rows.known {f : Nat} (H : Rows f) {g d L : Nat} (hd2 : d <= 100) (hg : 101 <= g + d) (hL : ∀ n, n < L -> 8 * n + 7 <= f) : Known (exprP g) f d L := fun s ha hd hl hr => H.expr g d s ha hd hd2 hg hr (hL _ hl)
theorem zhf {f : Nat} (H : Rows f) (g d : Nat) (s : PS) (ha : Al s) (hd : s.d = d) (hd2 : d <= 100) (hg : 101 <= g + d) (hr : fi s + 100 <= 900000) (hf : 8 * s.l.length + 7 <= f + 1) : Sim s.N s (fi s + 4) (G s.E (f + 1) .expr d s.l) (exprP g s) := by
 obtain ⟨g, rfl⟩ : ∃ k, g = k + 1 := ⟨g - 1, by omega⟩
 have hrr := hr
 unfold fi at hr
 have hlt : s.d < 1000 := by omega
 rw [G, exprP]
 by_cases h100 : 100 <= d
 ·rw [if_pos h100, if_pos hlt]
  have hd1 : s.d = 100 := by omega
  have hn := (zhl ha s.pk.p 6 (by decide)).1
  have e : s.deep = { (s.no s.pk.p 6) with d := s.d + 1 } := by unfold PS.deep; rw [if_pos hd1]
  rw [e, (hn.d (s.d + 1)).inner _ _ (by show s.N.length < _; omega), zcv]
  refine ⟨_, _, rfl, hn, ?_, ?_⟩
  ·show s.N.length < (D1 _).N.length; rw [zb7]; show s.N.length < s.N.length + 1; omega
  ·show (D1 _).N.length <= _; rw [zb7]; show s.N.length + 1 <= _; unfold fi; omega
 rw [if_neg h100, if_pos hlt]
 have hdp : s.deep = { s with d := s.d + 1 } := by unfold PS.deep; rw [if_neg (by omega)]
 rw [hdp]
 refine zm2 (n := 1) ?_ rfl
 obtain ⟨g, rfl⟩ : ∃ k, g = k + 1 := ⟨g - 1, by omega⟩
 have ha1 : Al { s with d := s.d + 1 } := ha
 unfold innerP
 rw [show ({ s with d := s.d + 1 } : PS).is 1 zb5 = isT 1 zb5 s.l from rfl, show ({ s with d := s.d + 1 } : PS).is 1 zcf = isT 1 zcf s.l from rfl, show ({ s with d := s.d + 1 } : PS).is 1 w_if = isT 1 w_if s.l from rfl]
 by_cases h1 : isT 1 zb5 s.l = true
 ·rw [if_pos h1, if_pos h1]
  obtain ⟨t, m, hl⟩ := za7 h1
  have hl1 := congrArg List.length hl
  simp only [List.length_cons] at hl1
  rw [show s.l.tail = m by rw [hl]; rfl, zcv, show ({ s with d := s.d + 1 } : PS).nx = { s with l := m, d := s.d + 1 } from za6 (s := { s with d := s.d + 1 }) hl]
  have hK : Known (exprP (g + 1)) f (d + 1) m.length := H.known (by omega) (by omega) fun n hn => by omega
  have h := zju (g := g) rfl (s := { s with l := m, d := s.d + 1 }) hK ha (by simp only; omega) (by omega) (by unfold fi; simp only; omega) s.pk.p
  unfold fi at h ⊢
  simp only at h
  exact Sim.mono h (by omega)
 rw [if_neg h1, if_neg h1]
 by_cases h2 : isT 1 zcf s.l = true
 ·rw [if_pos h2, if_pos h2]
  obtain ⟨t, m, hl⟩ := za7 h2
  have hl1 := congrArg List.length hl
  simp only [List.length_cons] at hl1
  rw [show s.l.tail = m by rw [hl]; rfl, zcv, show ({ s with d := s.d + 1 } : PS).nx = { s with l := m, d := s.d + 1 } from za6 (s := { s with d := s.d + 1 }) hl]
  unfold bindP
  rw [show ({ s with l := m, d := s.d + 1 } : PS).is 1 zdw = isT 1 zdw m from rfl]
  by_cases h3 : isT 1 zdw m = true
  ·rw [if_pos h3, if_pos h3]
   obtain ⟨t2, m2, hl2⟩ := za7 h3
   have hl3 := congrArg List.length hl2
   simp only [List.length_cons] at hl3
   rw [show m.tail = m2 by rw [hl2]; rfl, show ({ s with l := m, d := s.d + 1 } : PS).nx = { s with l := m2, d := s.d + 1 } from za6 (s := { s with l := m, d := s.d + 1 }) hl2]
   have hK : Known (exprP (g + 1)) f (d + 1) m2.length := H.known (by omega) (by omega) fun n hn => by omega
   have h := zjy (g := g) rfl (s := { s with l := m2, d := s.d + 1 }) hK ha (by simp only; omega) (by omega) (by unfold fi; simp only; omega) s.pk.p
   unfold fi at h ⊢
   simp only at h
   exact Sim.mono h (by omega)
  ·rw [if_neg h3, if_neg h3]
   have hK : Known (exprP (g + 1)) f (d + 1) m.length := H.known (by omega) (by omega) fun n hn => by omega
   have h := zjz (g := g) rfl (s := { s with l := m, d := s.d + 1 }) hK ha (by simp only; omega) (by omega) (by unfold fi; simp only; omega) s.pk.p
   unfold fi at h ⊢
   simp only at h
   exact Sim.mono h (by omega)
 rw [if_neg h2, if_neg h2]
 by_cases h3 : isT 1 w_if s.l = true
 ·rw [if_pos h3, if_pos h3]
  obtain ⟨t, m, hl⟩ := za7 h3
  have hl1 := congrArg List.length hl
  simp only [List.length_cons] at hl1
  rw [show s.l.tail = m by rw [hl]; rfl, zcv, show ({ s with d := s.d + 1 } : PS).nx = { s with l := m, d := s.d + 1 } from za6 (s := { s with d := s.d + 1 }) hl]
  have hK : Known (exprP (g + 1)) f (d + 1) (m.length + 1) := H.known (by omega) (by omega) fun n hn => by omega
  have h := zp2 (g := g) rfl (s := { s with l := m, d := s.d + 1 }) hK ha (by simp only; omega) (by omega) (by unfold fi; simp only; omega) s.pk.p
  unfold fi at h ⊢
  simp only at h
  exact Sim.mono h (by omega)
 rw [if_neg h3, if_neg h3]
 exact H.cmp (g + 1) (d + 1) { s with d := s.d + 1 } ha (by simp only; omega) (by omega) (by omega) hrr (by simp only; omega)
theorem zf1 : ∀ f, Rows f := by
 intro f
 induction f with
 | zero => constructor <;> intros <;> omega
 | succ f H =>
  have happ : ∀ g d L, d <= 100 -> 101 <= g + d -> (∀ n, n < L -> 8 * n + 3 <= f) -> KnownR .app (appP (exprP g)) f d L := fun g d L h1 h2 h3 s ha hd hl hr => H.app g d s ha hd h1 h2 hr (h3 _ hl)
  have hprod : ∀ g d L, d <= 100 -> 101 <= g + d -> (∀ n, n < L -> 8 * n + 4 <= f) -> KnownR .prod (prodP (exprP g)) f d L := fun g d L h1 h2 h3 s ha hd hl hr => H.prod g d s ha hd h1 h2 hr (h3 _ hl)
  have hsum : ∀ g d L, d <= 100 -> 101 <= g + d -> (∀ n, n < L -> 8 * n + 5 <= f) -> KnownR .sum (sumP (exprP g)) f d L := fun g d L h1 h2 h3 s ha hd hl hr => H.sum g d s ha hd h1 h2 hr (h3 _ hl)
  have hpost : ∀ g d L, d <= 100 -> 101 <= g + d -> (∀ n, n < L -> 8 * n + 2 <= f) -> KnownR .post (postP (exprP g)) f d L := fun g d L h1 h2 h3 s ha hd hl hr => H.post g d s ha hd h1 h2 hr (h3 _ hl)
  constructor
  ·exact zhf H
  ·intro g d s ha hd hd2 hg hr hf
   rw [G]
   unfold cmpP
   have h := H.sum g d s ha hd hd2 hg hr (by omega)
   rcases Sim.two (R := .sum) trivial trivial h with ⟨a, l, hG, ho, hin, hlen, hsz, hll⟩ | ⟨e, q, hG, hF⟩
   ·rw [hG, ho]
    simp only [eats, base] at hsz hll
    simp only [Rs.go, Option.bind_some]
    unfold fi at hr
    rcases zvd { s with l := l, N := lay s.N a } with ⟨h1, h2⟩ | ⟨t, m, hl, h1, h2⟩
    ·simp only at h2
     rw [h2, h1]
     simp [Sim]
    ·simp only at h2 hl
     have hl1 := congrArg List.length hl
     simp only [List.length_cons] at hl1
     rw [h2, if_pos h1]
     simp only
     rw [show l.tail = m by rw [hl]; rfl, zcc hl]
     have hop := zuc (R := .sum) (N0 := s.N) (A := a) (s := { s with l := l, N := lay s.N a }) trivial trivial rfl rfl (hsum g d l.length hd2 hg fun n hn => by omega) ha hd (by unfold fi; simp only [zae]; omega) rfl hlen hl _ rfl
     rcases hop with ⟨b, l2, hG2, hb1, hb2, hb3, ho2⟩ | ⟨e, q, hG2, hF2⟩
     ·rw [hG2]
      simp only [Sim]
      exact ho2
     ·rw [hG2]
      exact Fin.mono hF2 (by unfold fi; simp only [zae]; omega)
   ·rw [hG]
    refine hF.bind fun a' s' _ hD haN hN' => ?_
    simp only
    rw [hD.any]
    exact zkk hD haN hN'
  ·intro g d s ha hd hd2 hg hr hf
   rw [G]
   exact zdo (R := .prod) Pr.sumL trivial trivial rfl rfl (W := loopP zik (prodP (exprP g))) (fun s e p n a hD => by rw [loopP, hD.any]; rfl) (H.prod g d s ha hd hd2 hg hr (by omega)) ha hd hr
    fun s' A n ha' hd' _ hfi hN hA _ hn hl => Sim.mono (H.sumL g d s' s.N A n ha' hd' hd2 hg (by omega) hN hA hn (by omega)) (by omega)
  ·intro g d s ha hd hd2 hg hr hf
   rw [G]
   exact zdo (R := .app) Pr.prodL trivial trivial rfl rfl (W := loopP zfm (appP (exprP g))) (fun s e p n a hD => by rw [loopP, hD.any]; rfl) (H.app g d s ha hd hd2 hg hr (by omega)) ha hd hr
    fun s' A n ha' hd' _ hfi hN hA _ hn hl => Sim.mono (H.prodL g d s' s.N A n ha' hd' hd2 hg (by omega) hN hA hn (by omega)) (by omega)
  ·intro g d s ha hd hd2 hg hr hf
   rw [G]
   unfold appP
   by_cases hk : kindT 3 s.l = true
   ·rw [if_pos hk]
    obtain ⟨t, m, hl⟩ : ∃ t m, s.l = t :: m := by
     cases h : s.l with
     | nil => rw [h] at hk; cases hk
     | cons t m => exact ⟨t, m, rfl⟩
    have hl1 := congrArg List.length hl
    simp only [List.length_cons] at hl1
    have hk3 : t.k = 3 := by rw [hl] at hk; simpa [kindT] using hk
    rw [zby hl, if_pos hk3]
    have htx : s.txt 3 = (t.s, { s with l := m }) := by unfold PS.txt; rw [zby hl, if_pos hk3, za6 hl]
    rw [htx, zcc hl, hl]
    simp only [textT]
    rw [if_pos hk3]
    unfold fi at hr ⊢
    have h := H.post g d { s with l := m } ha hd hd2 hg (by unfold fi; simp only; omega) (by simp only; omega)
    rcases Sim.two (R := .post) trivial trivial h with ⟨b, l, hG, ho, hin, hlen, hsz, hll⟩ | ⟨e, q, hG, hF⟩
    ·rw [hG, ho]
     simp only [eats, base] at hsz hll
     simp only [Rs.go, Option.bind_some, Sim]
     rw [zbn (by simp only [zae]; omega), lay1 _ _ _ rfl, List.length_append]
     simp only [List.length_singleton, Nat.add_sub_cancel]
     congr 3
     ·rw [za5 (by rw [zae]; omega)]; rfl
    ·rw [hG]
     refine hF.bind fun a s' ho hD haN hN => Fin.add hD _ ?_ ?_
     ·unfold fi at hN; simp only at hN; omega
     ·omega
   ·rw [if_neg hk]
    have hk3 : ¬ s.pk.k = 3 := by
     intro h
     cases hl : s.l with
     | nil => rw [show s.pk = ⟨0, ⟨#[]⟩, 0, s.E⟩ by unfold PS.pk; rw [hl]] at h; cases h
     | cons t m => rw [zby hl] at h; rw [hl] at hk; exact hk (by simpa [kindT] using h)
    rw [if_neg hk3]
    exact zdo (R := .post) Pr.appL trivial trivial rfl rfl (W := appL (postP (exprP g))) (fun s e p n a hD => by rw [appL, hD.beg]; rfl) (H.post g d s ha hd hd2 hg hr (by omega)) ha hd hr
     fun s' A n ha' hd' _ hfi hN hA _ hn hl => Sim.mono (H.appL g d s' s.N A n ha' hd' hd2 hg (by omega) hN hA hn (by omega)) (by omega)
  ·intro g d s ha hd hd2 hg hr hf
   rw [G]
   exact zdo (R := .atom) Pr.postL trivial trivial rfl rfl (W := postL) (fun s e p n a hD => by rw [postL, hD.is]; rfl) (H.atom g d s ha hd hd2 hg hr (by omega)) ha hd hr
    fun s' A n ha' hd' _ hfi hN hA _ hn hl => Sim.mono (H.postL d s' s.N A n ha' hd' (by omega) hN hA hn (by omega)) (by omega)
  ·intro g d s ha hd hd2 hg hr hf
   obtain ⟨g, rfl⟩ : ∃ k, g = k + 1 := ⟨g - 1, by omega⟩
   refine zhz (g := g) rfl (H.known hd2 hg fun n hn => by omega) hd2 (fun s' p ha' hd' _ hr' hl => ?_) (fun s' N0 a p ha' hd' _ hr' hN hA hl => ?_) ha hd hr
   ·exact H.recL (g + 1) d p s' s'.N [] [] [] _ ha' hd' hd2 hg hr' rfl rfl rfl (by simp) (by omega) (by omega)
   ·have hla : lays N0 [a] = (lay N0 a, [((lay N0 a).length : Int) - 1]) := zf6 N0 [] a
    have hpos : 1 <= (lay N0 a).length := by rw [zae]; omega
    exact H.casL (g + 1) d p (s'.N.length - 1) s' N0 [] [] [a] [] _ ha' hd' hd2 hg hr' (by rw [hla]; exact hN) (by rw [hla, hN, za5 hpos]) rfl rfl (by simp) (by omega) (by omega)
  ·intro g d s N0 A n ha hd hd2 hg hr hN hA hn hf
   exact zet (R := .prod) zxy Pr.sumL trivial trivial rfl rfl (fun E f A d l => by rw [G]; cases opOf sumOps l <;> rfl) (fun s A n h1 h2 h3 h4 h5 h6 h7 => H.sumL g d s N0 A n h1 h2 hd2 hg h3 h4 h5 h6 h7) (hprod g d _ hd2 hg fun n hn => by omega) ha hd hr hN hA hn hf
  ·intro g d s N0 A n ha hd hd2 hg hr hN hA hn hf
   exact zet (R := .app) zrh Pr.prodL trivial trivial rfl rfl (fun E f A d l => by rw [G]; cases opOf prodOps l <;> rfl) (fun s A n h1 h2 h3 h4 h5 h6 h7 => H.prodL g d s N0 A n h1 h2 hd2 hg h3 h4 h5 h6 h7) (happ g d _ hd2 hg fun n hn => by omega) ha hd hr hN hA hn hf
  ·intro g d s N0 A n ha hd hd2 hg hr hN hA hn hf
   exact zhc (hpost g d _ hd2 hg fun n hn => by omega) (fun s A n h1 h2 h3 h4 h5 h6 h7 => H.appL g d s N0 A n h1 h2 hd2 hg h3 h4 h5 h6 h7) ha hd hr hN hA hn hf
  ·intro d s N0 A n ha hd hr hN hA hn hf
   exact zf7 (fun s A n h1 h2 h3 h4 h5 h6 h7 => H.postL d s N0 A n h1 h2 h3 h4 h5 h6 h7) ha hd hr hN hA hn hf
  ·intro g d p s N0 fs gs ts n ha hd hd2 hg hr hN htl hgs h30 hn hf
   obtain ⟨g, rfl⟩ : ∃ k, g = k + 1 := ⟨g - 1, by omega⟩
   exact zhx (g := g) rfl (H.known hd2 hg fun n hn => by omega) hd2 (fun s fs gs ts n h1 h2 h3 h4 h5 h6 h7 h8 h9 => H.recL (g + 1) d p s N0 fs gs ts n h1 h2 hd2 hg h3 h4 h5 h6 h7 h8 h9) ha hd hr hN htl hgs h30 hn hf
  ·intro g d p a0 s N0 fs gs ts K n ha hd hd2 hg hr hN hKK htl hgs h30 hn hf
   obtain ⟨g, rfl⟩ : ∃ k, g = k + 1 := ⟨g - 1, by omega⟩
   exact zhy (g := g) rfl (H.known hd2 hg fun n hn => by omega) hd2 (fun s fs gs ts K n h1 h2 h3 h4 h5 h6 h7 h8 h9 h10 => H.casL (g + 1) d p a0 s N0 fs gs ts K n h1 h2 hd2 hg h3 h4 h5 h6 h7 h8 h9 h10) ha hd hr hN hKK htl hgs h30 hn hf
open T
def okT (x : ByteArray) : Prop := x.size <= 281474976710656
def Cl (s : PS) : Prop := (∀ t ∈ s.l, okT t.s) /\ ∀ x ∈ s.N, Clonable x
def okF (fs : List Fld) : Prop := ∀ f ∈ fs, okT f.nm /\ okT f.vr
theorem za0 : okT ⟨#[]⟩ := Nat.zero_le _
def Ck (X : PS -> Ans) : Prop := ∀ s r, Cl s -> X s = some r -> Cl r.2
section
variable {s : PS}
theorem zjv (h : Cl s) (p e : Int) : Cl (s.no p e) := ⟨fun t ht => (by cases ht), h.2⟩
theorem zd9 (h : Cl s) : Cl s.nx := ⟨fun t ht => h.1 t (List.mem_of_mem_tail ht), h.2⟩
theorem zzx (h : Cl s) : okT s.pk.s := by
 unfold PS.pk
 cases hl : s.l with
 | nil => exact za0
 | cons t m => exact h.1 t (by rw [hl]; simp)
theorem zco (h : Cl s) (k : Int) (x : List UInt8) : Cl (s.must k x) := by
 unfold PS.must
 split
 ·exact zd9 h
 ·exact zjv h _ _
theorem zg4 (h : Cl s) (k : Int) : okT (s.txt k).1 /\ Cl (s.txt k).2 := by
 unfold PS.txt
 split
 ·exact ⟨zzx h, zd9 h⟩
 ·exact ⟨za0, zjv h _ _⟩
theorem ztw (h : Cl s) (k : Int) (fs : List Fld) : okT (s.lab k fs).1 /\ Cl (s.lab k fs).2 := by
 have h1 := zg4 h k
 unfold PS.lab
 split
 ·exact ⟨h1.1, zjv h1.2 _ _⟩
 ·split
  ·exact ⟨h1.1, zjv h1.2 _ _⟩
  ·exact h1
theorem zdu (h : Cl s) {n : Nd} (hn : Clonable n) {r : Nat × PS} (ho : s.add n = some r) : Cl r.2 := by
 unfold PS.add at ho
 split at ho
 ·cases ho
  refine ⟨h.1, fun x hx => ?_⟩
  simp only [List.mem_append, List.mem_singleton] at hx
  rcases hx with hx | rfl
  ·exact h.2 x hx
  ·exact hn
 ·cases ho
theorem clon {k a b c n p : Int} {nm s : ByteArray} {l : List Fld} (h1 : okT nm) (h2 : okT s) (h3 : okF l) (h4 : l.length <= 1000) : Clonable ⟨k, a, b, c, n, nm, s, l, p⟩ := ⟨h1, h2, by show l.length <= 1000000; omega, h3⟩
theorem clon0 {k a b c n p : Int} {nm s : ByteArray} (h1 : okT nm) (h2 : okT s) : Clonable ⟨k, a, b, c, n, nm, s, [], p⟩ := clon h1 h2 (fun f hf => by cases hf) (by simp)
theorem zwc (h : Cl s) : Clonable (leafN s).1 /\ Cl (leafN s).2 := by
 have hp := zzx h
 have hx := zd9 h
 unfold leafN
 split
 ·exact ⟨clon0 za0 za0, hx⟩
 split
 ·exact ⟨clon0 za0 za0, hx⟩
 split
 ·exact ⟨clon0 za0 za0, hx⟩
 split
 ·exact ⟨clon0 za0 hp, hx⟩
 split
 ·exact ⟨clon0 hp za0, hx⟩
 exact ⟨clon0 za0 za0, zjv h _ _⟩
end
theorem op_c {X : PS -> Ans} (hX : Ck X) {a : Nat} {s : PS} {r : Nat × PS} (hs : Cl s) (h : opP X a s = some r) : Cl r.2 := by
 obtain ⟨q, h1, h2⟩ := bnd h
 exact zdu (hX _ _ (zd9 hs) h1) (clon0 za0 za0) h2
theorem zui {X : PS -> Ans} (hX : Ck X) (ops : List (List UInt8)) : ∀ n a s r, Cl s -> loopP ops X n a s = some r -> Cl r.2 := by
 intro n
 induction n with
 | zero => intro a s r _ h; cases h
 | succ n ih =>
  intro a s r hs h
  rw [loopP] at h
  split at h
  ·obtain ⟨q, h1, h2⟩ := bnd h
   exact ih _ _ _ (op_c hX hs h1) h2
  ·cases h; exact hs
theorem zu8 : ∀ n a s r, Cl s -> postL n a s = some r -> Cl r.2 := by
 intro n
 induction n with
 | zero => intro a s r _ h; cases h
 | succ n ih =>
  intro a s r hs h
  rw [postL] at h
  split at h
  ·obtain ⟨q, h1, h2⟩ := bnd h
   have ht := zg4 (zd9 hs) 2
   exact ih _ _ _ (zdu ht.2 (clon0 ht.1 za0) h1) h2
  ·cases h; exact hs
theorem zz1 {X : PS -> Ans} (hX : Ck X) : ∀ n a s r, Cl s -> appL X n a s = some r -> Cl r.2 := by
 intro n
 induction n with
 | zero => intro a s r _ h; cases h
 | succ n ih =>
  intro a s r hs h
  rw [appL] at h
  split at h
  ·split at h
   ·cases h
   ·obtain ⟨q, h1, h2⟩ := bnd h
    obtain ⟨u, h3, h4⟩ := bnd h2
    exact ih _ _ _ (zdu (hX _ _ hs h1) (clon0 za0 za0) h3) h4
  ·cases h; exact hs
theorem zlt {fs : List Fld} (h : okF fs) {x v : ByteArray} {k : Int} (hx : okT x) (hv : okT v) : okF (fs ++ [⟨x, v, k⟩]) := fun f hf => by
 rcases List.mem_append.1 hf with hf | hf
 ·exact h f hf
 ·obtain rfl := List.mem_singleton.1 hf
  exact ⟨hx, hv⟩
theorem z01 {X : PS -> Ans} (hX : Ck X) (p : Int) : ∀ n fs s r, Cl s -> okF fs -> recL X p n fs s = some r -> Cl r.2 := by
 intro n
 induction n with
 | zero => intro fs s r _ _ h; cases h
 | succ n ih =>
  intro fs s r hs hf h
  rw [recL] at h
  split at h
  ·rename_i hlen
   obtain ⟨q, h1, h2⟩ := bnd h
   have hl := ztw hs 2 fs
   have hq := hX _ _ (zco hl.2 _ _) h1
   have hF := zlt hf hl.1 za0 (k := (q.1 : Int))
   simp only at h2
   split at h2
   ·exact ih _ _ _ (zd9 hq) hF h2
   ·exact zdu (zco hq _ _) (clon za0 za0 hF (by simp; omega)) h2
  ·cases h
theorem zzu {X : PS -> Ans} (hX : Ck X) (p : Int) (a : Nat) : ∀ n fs s r, Cl s -> okF fs -> casL X p a n fs s = some r -> Cl r.2 := by
 intro n
 induction n with
 | zero => intro fs s r _ _ h; cases h
 | succ n ih =>
  intro fs s r hs hf h
  rw [casL] at h
  split at h
  ·rename_i hlen
   obtain ⟨q, h1, h2⟩ := bnd h
   have hl := ztw hs 3 fs
   have hv := zg4 hl.2 2
   have hq := hX _ _ (zco hv.2 _ _) h1
   have hF := zlt hf hl.1 hv.1 (k := (q.1 : Int))
   simp only at h2
   split at h2
   ·exact ih _ _ _ (zd9 hq) hF h2
   ·exact zdu (zco hq _ _) (clon za0 za0 hF (by simp; omega)) h2
  ·cases h
theorem zyr {X : PS -> Ans} (hX : Ck X) : Ck (atomP X) := by
 intro s r hs h
 unfold atomP at h
 split at h
 ·obtain ⟨q, h1, h2⟩ := bnd h
  cases h2
  exact zco (hX _ _ (zd9 hs) h1) _ _
 split at h
 ·unfold recP at h
  split at h
  ·exact zdu (zd9 (zd9 hs)) (clon0 za0 za0) h
  ·exact z01 hX _ _ _ _ _ (zd9 hs) (fun f hf => by cases hf) h
 split at h
 ·obtain ⟨q, h1, h2⟩ := bnd h
  exact zzu hX _ _ _ _ _ _ (zco (hX _ _ (zd9 hs) h1) _ _) (fun f hf => by cases hf) h2
 ·have hl := zwc hs
  exact zdu hl.2 hl.1 h
theorem zpk {X : PS -> Ans} (hX : Ck X) : Ck (postP X) := by
 intro s r hs h
 obtain ⟨q, h1, h2⟩ := bnd h
 exact zu8 _ _ _ _ (zyr hX _ _ hs h1) h2
theorem zzc {X : PS -> Ans} (hX : Ck X) : Ck (appP X) := by
 intro s r hs h
 unfold appP at h
 split at h
 ·obtain ⟨q, h1, h2⟩ := bnd h
  have ht := zg4 hs 3
  exact zdu (zpk hX _ _ ht.2 h1) (clon0 ht.1 za0) h2
 ·obtain ⟨q, h1, h2⟩ := bnd h
  exact zz1 (zpk hX) _ _ _ _ (zpk hX _ _ hs h1) h2
theorem zt6 {X : PS -> Ans} (hX : Ck X) : Ck (prodP X) := by
 intro s r hs h
 obtain ⟨q, h1, h2⟩ := bnd h
 exact zui (zzc hX) _ _ _ _ _ (zzc hX _ _ hs h1) h2
theorem zxn {X : PS -> Ans} (hX : Ck X) : Ck (sumP X) := by
 intro s r hs h
 obtain ⟨q, h1, h2⟩ := bnd h
 exact zui (zt6 hX) _ _ _ _ _ (zt6 hX _ _ hs h1) h2
theorem z02 {X : PS -> Ans} (hX : Ck X) : Ck (cmpP X) := by
 intro s r hs h
 obtain ⟨q, h1, h2⟩ := bnd h
 split at h2
 ·exact op_c (zxn hX) (zxn hX _ _ hs h1) h2
 ·cases h2; exact zxn hX _ _ hs h1
theorem z1s {X : PS -> Ans} (hX : Ck X) (p : Int) : Ck (funP X p) := by
 intro s r hs h
 obtain ⟨q, h1, h2⟩ := bnd h
 have ht := zg4 hs 2
 exact zdu (hX _ _ (zco ht.2 _ _) h1) (clon0 ht.1 za0) h2
theorem zpu {X : PS -> Ans} (hX : Ck X) (p k : Int) : Ck (bindK X p k) := by
 intro s r hs h
 obtain ⟨q, h1, h2⟩ := bnd h
 have ht := zg4 hs 2
 have e1 := hX _ _ (zco ht.2 _ _) h1
 simp only at h2
 split at h2
 ·split at h2
  ·cases h2
  ·obtain ⟨u, h3, h4⟩ := bnd h2
   refine zdu (hX _ _ (zco ?_ _ _) h3) (clon0 ht.1 za0) h4
   split
   ·exact e1
   ·exact zjv e1 _ _
 ·obtain ⟨u, h3, h4⟩ := bnd h2
  exact zdu (hX _ _ (zco e1 _ _) h3) (clon0 ht.1 za0) h4
theorem z0f {X : PS -> Ans} (hX : Ck X) (p : Int) : Ck (bindP X p) := by
 intro s r hs h
 unfold bindP at h
 split at h
 ·exact zpu hX _ _ _ _ (zd9 hs) h
 ·exact zpu hX _ _ _ _ hs h
theorem if_c {X : PS -> Ans} (hX : Ck X) (p : Int) : Ck (ifP X p) := by
 intro s r hs h
 obtain ⟨q, h1, h2⟩ := bnd h
 obtain ⟨u, h3, h4⟩ := bnd h2
 obtain ⟨t, h5, h6⟩ := bnd h4
 exact zdu (hX _ _ (zco (hX _ _ (zco (hX _ _ hs h1) _ _) h3) _ _) h5) (clon0 za0 za0) h6
theorem zwy {X : PS -> Ans} (hX : Ck X) (p : Int) : Ck (innerP X p) := by
 intro s r hs h
 unfold innerP at h
 split at h
 ·exact z1s hX _ _ _ (zd9 hs) h
 split at h
 ·exact z0f hX _ _ _ (zd9 hs) h
 split at h
 ·exact if_c hX _ _ _ (zd9 hs) h
 ·exact z02 hX _ _ hs h
theorem z0p {s : PS} (h : Cl s) : Cl s.deep := by
 unfold PS.deep
 split
 ·exact zjv h s.pk.p 6
 ·exact h
theorem ztt : ∀ f, Ck (exprP f) := by
 intro f
 induction f with
 | zero => intro s r _ h; cases h
 | succ f ih =>
  intro s r hs h
  rw [exprP] at h
  split at h
  ·obtain ⟨q, h1, h2⟩ := bnd h
   cases h2
   have := zwy ih _ _ _ (z0p hs) h1
   exact this
  ·cases h
end Go.Proofs.YtjakeidbajkdcaaGreatDoor.A
namespace Go.Proofs.YtjakeidbajkdcaaGreatDoor.B
open T
structure RS where
 l : List Tk
 E : Int
 err : Int
 pos : Int
 d : Nat
 m : Nat
def RS.pk (s : RS) : Tk := match s.l with | [] => ⟨0, ⟨#[]⟩, 0, s.E⟩ | t :: _ => t
def RS.nx (s : RS) : RS := { s with l := s.l.tail }
def RS.fail (s : RS) (e p : Int) : RS := { s with err := if s.err = 0 then e else s.err, pos := if s.err = 0 then p else s.pos }
def RS.is (s : RS) (k : Int) (x : List UInt8) : Bool := isT k x s.l
def RS.must (s : RS) (k : Int) (x : List UInt8) : RS := if s.err = 0 then (if s.is k x = true then s.nx else s.fail 5 s.pk.p) else s
def RS.off (s : RS) (k : Int) : ByteArray × RS := if s.err = 0 then (if s.pk.k = k then (s.pk.s, s.nx) else (⟨#[]⟩, s.fail 5 s.pk.p)) else (⟨#[]⟩, s)
def RS.on (s : RS) (k : Int) (x : List UInt8) : Bool := decide (s.err = 0) && s.is k x
def RS.go (s : RS) (k : Int) (x : List UInt8) : RS := if s.on k x = true then s.nx else s
def RS.part (s : RS) (t : Tk) (fs : List Fld) : RS := if s.err = 0 then (if 30 <= fs.length then s.fail 8 t.p else if (fs.any fun y => y.nm.toList == t.s.toList) = true then s.fail 5 t.p else s) else s
abbrev Ans := Option (List Nd × RS)
def broad (t : List Nd) : Prop := ∀ x ∈ t, x.l.length <= 900
def JOk (x : Nd) (ll : List (List Nd)) : Prop := ll.length = (kids x).length /\ x.l.length <= 900 /\ (∀ e ∈ ll, inOrd e /\ broad e) /\ (ll.map List.length).sum <= 90000
open Classical in
noncomputable def joinO (x : Nd) (ll : List (List Nd)) (s : RS) : Ans := if JOk x ll then some (joinN x ll, s) else none
def nil1 : List Nd := [mk 1 0]
noncomputable def loopR (ops : List (List UInt8 × Int)) (b : RS -> Ans) : Nat -> List Nd -> RS -> Ans
 | 0, _, _ => none
 | n + 1, a, s => if s.err = 0 then (match ops.find? fun o => s.is 7 o.1 with
  | none => some (a, s)
  | some o => (b s.nx).bind fun r => (joinO { mk 10 s.pk.p with n := o.2 } [a, r.1] r.2).bind fun q => loopR ops b n q.1 q.2)
  else some (a, s)
noncomputable def postL : Nat -> List Nd -> RS -> Ans
 | 0, _, _ => none
 | n + 1, a, s => if s.on 7 zeg = true then (joinO { mk 12 s.pk.p with nm := (s.nx.off 2).1 } [a] (s.nx.off 2).2).bind fun q => postL n q.1 q.2 else some (a, s)
noncomputable def appL (post : RS -> Ans) : Nat -> List Nd -> RS -> Ans
 | 0, _, _ => none
 | n + 1, a, s => if (decide (s.err = 0) && begins s.l) = true then (match a.getLast? with
  | none => none
  | some x => (post s).bind fun r => (joinO (mk 6 x.pos) [a, r.1] r.2).bind fun q => appL post n q.1 q.2)
  else some (a, s)
noncomputable def recL (X : RS -> Ans) (p : Int) : Nat -> List Fld -> List (List Nd) -> RS -> Ans
 | 0, _, _, _ => none
 | n + 1, fs, ts, s => if s.err = 0 then (if fs.length < 900 then (X (((s.off 2).2.part s.pk fs).must 7 zbg)).bind fun r =>
   if r.2.on 7 zb6 = true then recL X p n (fs ++ [fld (s.off 2).1 ⟨#[]⟩]) (ts ++ [r.1]) r.2.nx
   else joinO { mk 11 p with l := fs ++ [fld (s.off 2).1 ⟨#[]⟩] } (ts ++ [r.1]) (r.2.must 7 zbl) else none)
  else joinO { mk 11 p with l := fs } ts s
noncomputable def recR (X : RS -> Ans) (p : Int) (s : RS) : Ans := if s.on 7 zbl = true then joinO (mk 11 p) [] s.nx else recL X p (s.l.length + 2) [] [] s
noncomputable def casL (X : RS -> Ans) (p : Int) : Nat -> List Fld -> List (List Nd) -> RS -> Ans
 | 0, _, _, _ => none
 | n + 1, fs, ts, s => if s.err = 0 then (if fs.length < 900 then (X ((((s.off 3).2.part s.pk fs).off 2).2.must 7 zbc)).bind fun r =>
   if r.2.on 7 zej = true then casL X p n (fs ++ [fld (s.off 3).1 (((s.off 3).2.part s.pk fs).off 2).1]) (ts ++ [r.1]) r.2.nx
   else joinO { mk 14 p with l := fs ++ [fld (s.off 3).1 (((s.off 3).2.part s.pk fs).off 2).1] } (ts ++ [r.1]) (r.2.must 1 zfq) else none)
  else joinO { mk 14 p with l := fs } ts s
noncomputable def casR (X : RS -> Ans) (p : Int) (s : RS) : Ans := (X s).bind fun r => casL X p ((r.2.must 1 w_of).l.length + 2) [] [r.1] (r.2.must 1 w_of)
noncomputable def atomR (X : RS -> Ans) (s : RS) : Ans :=
 if s.err = 0 then
  if s.pk.k = 4 then joinO { mk 1 s.pk.p with n := s.pk.n } [] s.nx
  else if s.pk.k = 5 then joinO { mk 3 s.pk.p with s := s.pk.s } [] s.nx
  else if s.pk.k = 2 then joinO { mk 4 s.pk.p with nm := s.pk.s } [] s.nx
  else if s.is 1 zar = true then joinO { mk 2 s.pk.p with n := 1 } [] s.nx
  else if s.is 1 zan = true then joinO (mk 2 s.pk.p) [] s.nx
  else if s.is 7 za3 = true then (X s.nx).bind fun r => some (r.1, r.2.must 7 zgf)
  else if s.is 7 zbb = true then recR X s.pk.p s.nx
  else if s.is 1 zbk = true then casR X s.pk.p s.nx
  else some (nil1, s.fail 5 s.pk.p)
 else some (nil1, s)
noncomputable def postR (X : RS -> Ans) (s : RS) : Ans := (atomR X s).bind fun r => postL (r.2.l.length + 1) r.1 r.2
noncomputable def appR (X : RS -> Ans) (s : RS) : Ans :=
 if s.err = 0 then
  if s.pk.k = 3 then (postR X s.nx).bind fun r => joinO { mk 13 s.pk.p with nm := s.pk.s } [r.1] r.2
  else (postR X s).bind fun r => appL (postR X) (r.2.l.length + 1) r.1 r.2
 else some (nil1, s)
noncomputable def prodR (X : RS -> Ans) (s : RS) : Ans := (appR X s).bind fun r => loopR prodOps (appR X) (r.2.l.length + 1) r.1 r.2
noncomputable def sumR (X : RS -> Ans) (s : RS) : Ans := (prodR X s).bind fun r => loopR sumOps (prodR X) (r.2.l.length + 1) r.1 r.2
noncomputable def cmpR (X : RS -> Ans) (s : RS) : Ans := (sumR X s).bind fun r => if r.2.err = 0 then (match cmpOps.find? fun o => r.2.is 7 o.1 with
  | none => some r
  | some o => (sumR X r.2.nx).bind fun q => joinO { mk 10 r.2.pk.p with n := o.2 } [r.1, q.1] q.2) else some r
noncomputable def funR (X : RS -> Ans) (p : Int) (s : RS) : Ans := (X ((s.off 2).2.must 7 zbc)).bind fun r => joinO { mk 5 p with nm := (s.off 2).1 } [r.1] r.2
noncomputable def bindK (X : RS -> Ans) (p k : Int) (s : RS) : Ans :=
 (X ((s.off 2).2.must 7 zbg)).bind fun r =>
  if k = 8 then (X ((if r.2.err = 0 /\ lastK r.1 ≠ 5 then r.2.fail 5 ((s.off 2).2.must 7 zbg).pk.p else r.2).must 1 w_in)).bind fun q => joinO { mk k p with nm := (s.off 2).1 } [r.1, q.1] q.2
  else (X (r.2.must 1 w_in)).bind fun q => joinO { mk k p with nm := (s.off 2).1 } [r.1, q.1] q.2
noncomputable def bindR (X : RS -> Ans) (p : Int) (s : RS) : Ans := if s.on 1 zdw = true then bindK X p 8 s.nx else bindK X p 7 s
noncomputable def ifR (X : RS -> Ans) (p : Int) (s : RS) : Ans :=
 (X s).bind fun r => (X (r.2.must 1 zdt)).bind fun q => (X (q.2.must 1 zc0)).bind fun u => joinO (mk 9 p) [r.1, q.1, u.1] u.2
noncomputable def innerR (X : RS -> Ans) (p : Int) (s : RS) : Ans :=
 if s.on 1 zb5 = true then funR X p s.nx else if s.on 1 zcf = true then bindR X p s.nx else if s.on 1 w_if = true then ifR X p s.nx else cmpR X s
noncomputable def exprQ : Nat -> RS -> Ans
 | 0, _ => none
 | f + 1, s => if s.err = 0 then (if 100 <= s.d then some (nil1, s.fail 6 s.pk.p) else (innerR (exprQ f) s.pk.p { s with d := s.d + 1 }).bind fun r => if 1 <= r.2.d /\ r.2.d <= 1000 then some (r.1, { r.2 with d := r.2.d - 1 }) else none) else some (nil1, s)
open T
abbrev Al (s : RS) : Prop := s.err = 0
def Dd (s : RS) (e p : Int) : Prop := s.err = e /\ s.pos = p /\ e ≠ 0
section
variable {s : RS} {e p : Int}
theorem Dd.ne (h : Dd s e p) : s.err ≠ 0 := by rw [h.1]; exact h.2.2
theorem Dd.must (h : Dd s e p) (k : Int) (x : List UInt8) : s.must k x = s := by unfold RS.must; rw [if_neg h.ne]
theorem Dd.off (h : Dd s e p) (k : Int) : s.off k = (⟨#[]⟩, s) := by unfold RS.off; rw [if_neg h.ne]
theorem Dd.on (h : Dd s e p) (k : Int) (x : List UInt8) : s.on k x = false := by unfold RS.on; rw [decide_eq_false h.ne]; rfl
theorem Dd.part (h : Dd s e p) (t : Tk) (fs : List Fld) : s.part t fs = s := by unfold RS.part; rw [if_neg h.ne]
theorem Dd.xx (h : Dd s e p) {X : RS -> Ans} {g : Nat} (hX : X = exprQ (g + 1)) : X s = some (nil1, s) := by rw [hX, exprQ, if_neg h.ne]
theorem Al.on (h : Al s) (k : Int) (x : List UInt8) : s.on k x = isT k x s.l := by unfold RS.on; rw [decide_eq_true h]; rfl
theorem zbr (h : Al s) (q c : Int) (hc : c ≠ 0) : Dd (s.fail c q) c q /\ (s.fail c q).d = s.d := by
 have h0 : s.err = 0 := h
 unfold RS.fail
 rw [if_pos h0, if_pos h0]
 exact ⟨⟨rfl, rfl, hc⟩, rfl⟩
def Gd (t : List Nd) (m : Nat) : Prop := inOrd t /\ broad t /\ t.length <= m
theorem zb9 : Gd nil1 1 := ⟨ord0 (x := mk 1 0) rfl, fun x hx => by
 rw [nil1, List.mem_singleton] at hx
 rw [hx]
 exact Nat.zero_le _, lrf _⟩
theorem zqw : ∀ ll : List (List Nd), (∀ e ∈ ll, broad e) -> broad (jn ll).1 := by
 intro ll
 induction ll using snocInd with
 | h0 => intro _ x hx; simp [jn] at hx
 | h1 ll e ih =>
  intro h x hx
  rw [zfg, jstep, List.mem_append] at hx
  rcases hx with hx | hx
  ·exact ih (fun y hy => h y (by simp [hy])) x hx
  ·obtain ⟨y, hy, rfl⟩ := List.mem_map.1 hx
   exact ltr (zh0 _ _) (h e (by simp) y hy)
theorem broadN {x : Nd} {ll : List (List Nd)} (h : ∀ e ∈ ll, broad e) (hx : x.l.length <= 900) : broad (joinN x ll) := fun y hy => by
 rw [joinN, List.mem_append, List.mem_singleton] at hy
 rcases hy with hy | rfl
 ·exact zqw ll h y hy
 ·exact ltr (zh0 _ _) hx
theorem zme {t : List Nd} (h : slim t) : broad t := fun x hx => ltr (h x hx) (by decide)
theorem zch {x : Nd} {ll : List (List Nd)} (h : JOk x ll) (s : RS) : joinO x ll s = some (joinN x ll, s) := by unfold joinO; rw [if_pos h]
theorem jok0 {x : Nd} (hk : (kids x).length = 0) (hx : x.l = []) : JOk x [] := ⟨hk.symm, by rw [hx]; exact Nat.zero_le _, by simp, by simp⟩
theorem jok1 {x : Nd} {a : List Nd} (hk : (kids x).length = 1) (hx : x.l = []) (ha : inOrd a) (ba : broad a) (hm : a.length <= 90000) : JOk x [a] :=
 ⟨hk.symm, by rw [hx]; exact Nat.zero_le _, by simp [ha, ba], by simpa using hm⟩
theorem jok2 {x : Nd} {a b : List Nd} (hk : (kids x).length = 2) (hx : x.l = []) (ha : inOrd a) (ba : broad a) (hb : inOrd b) (bb : broad b) (hm : a.length + b.length <= 90000) : JOk x [a, b] :=
 ⟨hk.symm, by rw [hx]; exact Nat.zero_le _, by simp [ha, ba, hb, bb], by simpa using hm⟩
theorem jok3 {x : Nd} {a b c : List Nd} (hk : (kids x).length = 3) (hx : x.l = []) (ha : inOrd a) (ba : broad a) (hb : inOrd b) (bb : broad b) (hc : inOrd c) (bc : broad c) (hm : a.length + (b.length + c.length) <= 90000) : JOk x [a, b, c] :=
 ⟨hk.symm, by rw [hx]; exact Nat.zero_le _, by simp [ha, ba, hb, bb, hc, bc], by simpa using hm⟩
def Fin (e p : Int) (d m : Nat) (o : Ans) : Prop := ∃ t s', o = some (t, s') /\ Dd s' e p /\ s'.d = d /\ Gd t m
section
variable {d m n k : Nat} {x : Nd} {a b c : List Nd} {o : Ans}
theorem Fin.mono {m' : Nat} (h : Fin e p d m o) (hm : m <= m') : Fin e p d m' o := by
 obtain ⟨t, s', h1, h2, h3, h4, h5, h6⟩ := h
 exact ⟨t, s', h1, h2, h3, h4, h5, ltr h6 hm⟩
theorem Fin.bind {m' d' : Nat} {K : List Nd × RS -> Ans} (h : Fin e p d m o) (hK : ∀ t s', Dd s' e p -> s'.d = d -> Gd t m -> Fin e p d' m' (K (t, s'))) : Fin e p d' m' (o.bind K) := by
 obtain ⟨t, s', h1, h2, h3, h4⟩ := h
 subst h1
 exact hK t s' h2 h3 h4
theorem Fin.ret (h : Dd s e p) (hd : s.d = d) (ha : Gd a m) : Fin e p d m (some (a, s)) := ⟨a, s, rfl, h, hd, ha⟩
theorem Fin.nil (h : Dd s e p) (hd : s.d = d) (hm : 1 <= m) : Fin e p d m (some (nil1, s)) := (Fin.ret h hd zb9).mono hm
theorem Fin.jN {ll : List (List Nd)} (h : Dd s e p) (hd : s.d = d) (hk : ll.length = (kids x).length) (hx : x.l.length <= 900) (hl : ∀ e ∈ ll, inOrd e /\ broad e) (hm : (ll.map List.length).sum + 1 <= m) (hb : m <= 90000) : Fin e p d m (joinO x ll s) := by
 rw [zch ⟨hk, hx, hl, by omega⟩]
 exact ⟨_, _, rfl, h, hd, zds (fun e he => (hl e he).1) hk, broadN (fun e he => (hl e he).2) hx, by rw [jlN]; exact hm⟩
theorem Fin.j1 (h : Dd s e p) (hd : s.d = d) (hk : (kids x).length = 1) (hx : x.l = []) (ha : Gd a n) (hm : n + 1 <= m) (hb : m <= 90000) : Fin e p d m (joinO x [a] s) :=
 Fin.jN h hd hk.symm (by rw [hx]; exact Nat.zero_le _) (by simp [ha.1, ha.2.1]) (by have := ha.2.2; simp; omega) hb
theorem Fin.j2 (h : Dd s e p) (hd : s.d = d) (hk : (kids x).length = 2) (hx : x.l = []) (ha : Gd a n) (hb : Gd b k) (hm : n + k + 1 <= m) (hbm : m <= 90000) : Fin e p d m (joinO x [a, b] s) :=
 Fin.jN h hd hk.symm (by rw [hx]; exact Nat.zero_le _) (by simp [ha.1, ha.2.1, hb.1, hb.2.1]) (by have := ha.2.2; have := hb.2.2; simp; omega) hbm
theorem Fin.j3 {i : Nat} (h : Dd s e p) (hd : s.d = d) (hk : (kids x).length = 3) (hx : x.l = []) (ha : Gd a n) (hb : Gd b k) (hc : Gd c i) (hm : n + k + i + 1 <= m) (hbm : m <= 90000) : Fin e p d m (joinO x [a, b, c] s) :=
 Fin.jN h hd hk.symm (by rw [hx]; exact Nat.zero_le _) (by simp [ha.1, ha.2.1, hb.1, hb.2.1, hc.1, hc.2.1]) (by have := ha.2.2; have := hb.2.2; have := hc.2.2; simp; omega) hbm
end
theorem zcv (s : RS) : plc s.E s.l = s.pk.p := by unfold RS.pk plc; cases s.l <;> rfl
theorem zby {t : Tk} {m : List Tk} (h : s.l = t :: m) : s.pk = t := by unfold RS.pk; rw [h]
theorem zpd (h : s.l = []) : s.pk = ⟨0, ⟨#[]⟩, 0, s.E⟩ := by unfold RS.pk; rw [h]
theorem za6 {t : Tk} {m : List Tk} (h : s.l = t :: m) : s.nx = { s with l := m } := by unfold RS.nx; rw [h]; rfl
theorem zcc {E : Int} {t : Tk} {m l : List Tk} (h : l = t :: m) : plc E l = t.p := by rw [h]; rfl
theorem zc9 (h : Al s) {k : Int} (hk : k ≠ 0) : (∃ t m, s.l = t :: m /\ s.off k = (t.s, { s with l := m }) /\ ∀ F, textT s.E k s.l F = F t.s m) ∨ ∃ q s', s.off k = (⟨#[]⟩, s') /\ Dd s' 5 q /\ s'.d = s.d /\ ∀ F, textT s.E k s.l F = .bad 5 q := by
 have h0 : s.err = 0 := h
 cases hl : s.l with
 | nil =>
  refine .inr ⟨s.E, s.fail 5 s.E, ?_, (zbr h s.E 5 (by decide)).1, (zbr h s.E 5 (by decide)).2, fun F => rfl⟩
  unfold RS.off
  rw [if_pos h0, zpd hl, if_neg (Ne.symm hk)]
 | cons t m =>
  by_cases hq : t.k = k
  ·refine .inl ⟨t, m, rfl, ?_, fun F => by simp only [textT]; rw [if_pos hq]⟩
   unfold RS.off
   rw [if_pos h0, zby hl, if_pos hq, za6 hl]
  ·refine .inr ⟨t.p, s.fail 5 t.p, ?_, (zbr h t.p 5 (by decide)).1, (zbr h t.p 5 (by decide)).2, fun F => by simp only [textT]; rw [if_neg hq]⟩
   unfold RS.off
   rw [if_pos h0, zby hl, if_neg hq]
theorem zak (h : Al s) (k : Int) (x : List UInt8) : (∃ t m, s.l = t :: m /\ s.must k x = { s with l := m } /\ ∀ F, T.must s.E k x s.l F = F m) ∨ ∃ q s', s.must k x = s' /\ Dd s' 5 q /\ s'.d = s.d /\ ∀ F, T.must s.E k x s.l F = .bad 5 q := by
 have h0 : s.err = 0 := h
 by_cases hq : isT k x s.l = true
 ·obtain ⟨t, m, hl⟩ := za7 hq
  refine .inl ⟨t, m, hl, ?_, fun F => by unfold T.must; rw [if_pos hq, hl]; rfl⟩
  unfold RS.must RS.is
  rw [if_pos h0, if_pos hq, za6 hl]
 ·refine .inr ⟨s.pk.p, s.fail 5 s.pk.p, ?_, (zbr h _ 5 (by decide)).1, (zbr h _ 5 (by decide)).2, fun F => by unfold T.must; rw [if_neg hq, zcv]⟩
  unfold RS.must RS.is
  rw [if_pos h0, if_neg hq]
theorem zdz (h : Al s) {k : Int} (hk : k ≠ 0) (fs : List Fld) : (∃ t m, s.l = t :: m /\ fs.length < 30 /\ s.off k = (t.s, { s with l := m }) /\ (s.off k).2.part s.pk fs = { s with l := m } /\ ∀ F, labelT s.E k fs s.l F = F t.s m) ∨ ∃ q c x s', c ≠ 0 /\ (s.off k).1 = x /\ (s.off k).2.part s.pk fs = s' /\ Dd s' c q /\ s'.d = s.d /\ ∀ F, labelT s.E k fs s.l F = .bad c q := by
 have h0 : s.err = 0 := h
 rcases zc9 h hk with ⟨t, m, hl, h1, h2⟩ | ⟨q, s', h1, h2, h4, h5⟩
 ·rw [h1, zby hl]
  have ha : Al { s with l := m } := h
  have hpt : ({ s with l := m } : RS).part t fs = if 30 <= fs.length then ({ s with l := m } : RS).fail 8 t.p else if (fs.any fun y => y.nm.toList == t.s.toList) = true then ({ s with l := m } : RS).fail 5 t.p else { s with l := m } := by
   unfold RS.part
   rw [if_pos (show ({ s with l := m } : RS).err = 0 from h)]
  by_cases h30 : 30 <= fs.length
  ·refine .inr ⟨t.p, 8, t.s, _, by decide, rfl, hpt.trans (if_pos h30), (zbr ha _ 8 (by decide)).1, (zbr ha _ 8 (by decide)).2, fun F => ?_⟩
   unfold labelT
   rw [h2, if_pos h30, zcc hl]
  ·by_cases hd : (fs.any fun y => y.nm.toList == t.s.toList) = true
   ·refine .inr ⟨t.p, 5, t.s, _, by decide, rfl, (hpt.trans (if_neg h30)).trans (if_pos hd), (zbr ha _ 5 (by decide)).1, (zbr ha _ 5 (by decide)).2, fun F => ?_⟩
    unfold labelT
    rw [h2, if_neg h30, if_pos hd, zcc hl]
   ·refine .inl ⟨t, m, hl, by omega, rfl, (hpt.trans (if_neg h30)).trans (if_neg hd), fun F => ?_⟩
    unfold labelT
    rw [h2, if_neg h30, if_neg hd]
 ·refine .inr ⟨q, 5, ⟨#[]⟩, s', by decide, by rw [h1], by rw [h1]; exact h2.part _ _, h2, h4, fun F => h5 _⟩
end
open T
def Sim (s : RS) (m : Nat) (r : Rs) (o : Ans) : Prop := match r with
 | .ok t l => o = some (t, { s with l := l })
 | .bad e p => Fin e p s.d m o
def Known (X : RS -> Ans) (f d L : Nat) : Prop := ∀ s, Al s -> s.d = d -> s.l.length < L -> s.l.length <= 20000 -> Sim s (4 * s.l.length + 1) (G s.E f .expr d s.l) (X s)
theorem Sim.mono {s : RS} {m m' : Nat} {r : Rs} {o : Ans} (h : Sim s m r o) (hm : m <= m') : Sim s m' r o := by
 cases r with
 | ok t l => exact h
 | bad e p => exact Fin.mono h hm
theorem Sim.two {s : RS} {m f d : Nat} {R : Pr} {o : Ans} (hfit : fit R) (hfs : fitS R) (h : Sim s m (G s.E f R d s.l) o) :
  (∃ t l, G s.E f R d s.l = .ok t l /\ o = some (t, { s with l := l }) /\ inOrd t /\ broad t /\ 1 <= t.length /\ t.length + eats R + 2 * l.length <= base R + 2 * s.l.length /\ l.length + eats R <= s.l.length) ∨ ∃ e p, G s.E f R d s.l = .bad e p /\ Fin e p s.d m o := by
 cases hG : G s.E f R d s.l with
 | ok t l =>
  rw [hG] at h
  obtain ⟨h1, h2⟩ := G_ok s.E f R d _ _ _ hfit hG
  obtain ⟨h3, h4⟩ := zlz s.E f R d _ _ _ hfs hG
  exact .inl ⟨t, l, rfl, h, h1, zme h3, List.length_pos_iff.2 h1.1, h4, h2⟩
 | bad e p =>
  rw [hG] at h
  exact .inr ⟨e, p, rfl, h⟩
section
variable {X : RS -> Ans} {f d g m0 n : Nat} {s : RS} {e p : Int} {a b : List Nd} {x : Nd}
theorem zju (hX : X = exprQ (g + 1)) (hK : Known X f d s.l.length) (ha : Al s) (hd : s.d = d) (hr : s.l.length <= 20000) (p : Int) :
  Sim s (4 * s.l.length + 4) (textT s.E 2 s.l fun x l1 => T.must s.E 7 zbc l1 fun l2 => (G s.E f .expr d l2).go fun a l3 => .ok (joinN { mk 5 p with nm := x } [a]) l3) (funR X p s) := by
 unfold funR
 rcases zc9 ha (k := 2) (by decide) with ⟨t, m, hl, e1, e2⟩ | ⟨q, s', e1, h2, h4, e2⟩
 ·rw [e2, e1]
  simp only
  have hl1 := congrArg List.length hl
  simp only [List.length_cons] at hl1
  have ha1 : Al { s with l := m } := ha
  rcases zak ha1 7 zbc with ⟨t2, m2, hl2, e3, e4⟩ | ⟨q, s', e3, h2, h4, e4⟩
  ·rw [e4, e3]
   simp only at hl2
   have hl3 := congrArg List.length hl2
   simp only [List.length_cons] at hl3
   have h := hK { s with l := m2 } ha hd (by simp only; omega) (by simp only; omega)
   rcases Sim.two (R := .expr) trivial trivial h with ⟨a, l, hG, ho, hin, hbr, hlen, hsz, hll⟩ | ⟨e, q, hG, hF⟩
   ·rw [hG, ho]
    simp only [eats, base] at hsz hll
    simp only [Rs.go, Option.bind_some, Sim]
    rw [zch (jok1 rfl rfl hin hbr (by omega))]
   ·rw [hG]
    exact hF.bind fun a s' hD hd' ga => Fin.j1 hD hd' rfl rfl ga (by simp only; omega) (by omega)
  ·rw [e4, e3, h2.xx hX]
   exact Fin.j1 h2 h4 rfl rfl zb9 (by omega) (by omega)
 ·rw [e2, e1]
  simp only
  rw [h2.must, h2.xx hX]
  exact Fin.j1 h2 h4 rfl rfl zb9 (by omega) (by omega)
theorem Dd.in_ (h : Dd s e p) (hX : X = exprQ (g + 1)) (hd : s.d = d) (hk : (kids x).length = 2) (hx : x.l = []) (ga : Gd a n) (hm : n + 2 <= m0) (hb : m0 <= 90000) (w : List UInt8) : Fin e p d m0 ((X (s.must 1 w)).bind fun q => joinO x [a, q.1] q.2) := by
 rw [h.must, h.xx hX]
 exact Fin.j2 h hd hk hx ga zb9 (by omega) hb
theorem zjz (hX : X = exprQ (g + 1)) (hK : Known X f d s.l.length) (ha : Al s) (hd : s.d = d) (hr : s.l.length <= 20000) (p : Int) :
  Sim s (4 * s.l.length + 4) (textT s.E 2 s.l fun x l1 => T.must s.E 7 zbg l1 fun l2 => (G s.E f .expr d l2).go fun a l3 => T.must s.E 1 w_in l3 fun l4 => (G s.E f .expr d l4).go fun b l5 => .ok (joinN { mk 7 p with nm := x } [a, b]) l5) (bindK X p 7 s) := by
 unfold bindK
 simp only [show ¬ ((7 : Int) = 8) by decide, if_false]
 rcases zc9 ha (k := 2) (by decide) with ⟨t, m, hl, e1, e2⟩ | ⟨q, s', e1, h2, h4, e2⟩
 ·rw [e2, e1]
  simp only
  have hl1 := congrArg List.length hl
  simp only [List.length_cons] at hl1
  have ha1 : Al { s with l := m } := ha
  rcases zak ha1 7 zbg with ⟨t2, m2, hl2, e3, e4⟩ | ⟨q, s', e3, h2, h4, e4⟩
  ·rw [e4, e3]
   simp only at hl2
   have hl3 := congrArg List.length hl2
   simp only [List.length_cons] at hl3
   have h := hK { s with l := m2 } ha hd (by simp only; omega) (by simp only; omega)
   rcases Sim.two (R := .expr) trivial trivial h with ⟨a, l, hG, ho, hin, hbr, hlen, hsz, hll⟩ | ⟨e, q, hG, hF⟩
   ·rw [hG, ho]
    simp only [eats, base] at hsz hll
    simp only [Rs.go, Option.bind_some]
    have ha2 : Al { s with l := l } := ha
    rcases zak ha2 1 w_in with ⟨t3, m3, hl4, e5, e6⟩ | ⟨q, s', e5, h2, h4, e6⟩
    ·rw [e6, e5]
     simp only at hl4
     have hl5 := congrArg List.length hl4
     simp only [List.length_cons] at hl5
     have h := hK { s with l := m3 } ha hd (by simp only; omega) (by simp only; omega)
     rcases Sim.two (R := .expr) trivial trivial h with ⟨b, l', hG2, ho2, hin2, hbr2, hlen2, hsz2, hll2⟩ | ⟨e, q, hG2, hF⟩
     ·rw [hG2, ho2]
      simp only [eats, base] at hsz2 hll2
      simp only [Option.bind_some, Sim]
      rw [zch (jok2 rfl rfl hin hbr hin2 hbr2 (by omega))]
     ·rw [hG2]
      exact hF.bind fun b s' hD hd' gb => Fin.j2 hD hd' rfl rfl ⟨hin, hbr, lrf _⟩ gb (by simp only; omega) (by omega)
    ·rw [e6, e5, h2.xx hX]
     exact Fin.j2 h2 h4 rfl rfl ⟨hin, hbr, lrf _⟩ zb9 (by omega) (by omega)
   ·rw [hG]
    exact hF.bind fun a s' hD hd' ga => hD.in_ hX hd' rfl rfl ga (by simp only; omega) (by omega) _
  ·rw [e4, e3, h2.xx hX]
   simp only [Option.bind_some]
   exact h2.in_ hX h4 rfl rfl zb9 (by omega) (by omega) _
 ·rw [e2, e1]
  simp only
  rw [h2.must, h2.xx hX]
  simp only [Option.bind_some]
  exact h2.in_ hX h4 rfl rfl zb9 (by omega) (by omega) _
theorem Dd.rec_ (h : Dd s e p) (a : List Nd) (q : Int) : (if s.err = 0 /\ lastK a ≠ 5 then s.fail 5 q else s) = s := if_neg fun h0 => h.ne h0.1
theorem zjy (hX : X = exprQ (g + 1)) (hK : Known X f d s.l.length) (ha : Al s) (hd : s.d = d) (hr : s.l.length <= 20000) (p : Int) :
  Sim s (4 * s.l.length + 4) (textT s.E 2 s.l fun x l1 => T.must s.E 7 zbg l1 fun l2 => (G s.E f .expr d l2).go fun a l3 => if lastK a = 5 then T.must s.E 1 w_in l3 fun l4 => (G s.E f .expr d l4).go fun b l5 => .ok (joinN { mk 8 p with nm := x } [a, b]) l5 else .bad 5 (plc s.E l2)) (bindK X p 8 s) := by
 unfold bindK
 simp only [if_true]
 rcases zc9 ha (k := 2) (by decide) with ⟨t, m, hl, e1, e2⟩ | ⟨q, s', e1, h2, h4, e2⟩
 ·rw [e2, e1]
  simp only
  have hl1 := congrArg List.length hl
  simp only [List.length_cons] at hl1
  have ha1 : Al { s with l := m } := ha
  rcases zak ha1 7 zbg with ⟨t2, m2, hl2, e3, e4⟩ | ⟨q, s', e3, h2, h4, e4⟩
  ·rw [e4, e3]
   simp only at hl2
   have hl3 := congrArg List.length hl2
   simp only [List.length_cons] at hl3
   have h := hK { s with l := m2 } ha hd (by simp only; omega) (by simp only; omega)
   rcases Sim.two (R := .expr) trivial trivial h with ⟨a, l, hG, ho, hin, hbr, hlen, hsz, hll⟩ | ⟨e, q, hG, hF⟩
   ·rw [hG, ho]
    simp only [eats, base] at hsz hll
    simp only [Rs.go, Option.bind_some]
    have ha2 : Al { s with l := l } := ha
    by_cases hk5 : lastK a = 5
    ·rw [if_pos hk5, if_neg (fun h0 => h0.2 hk5)]
     rcases zak ha2 1 w_in with ⟨t3, m3, hl4, e5, e6⟩ | ⟨q, s', e5, h2, h4, e6⟩
     ·rw [e6, e5]
      simp only at hl4
      have hl5 := congrArg List.length hl4
      simp only [List.length_cons] at hl5
      have h := hK { s with l := m3 } ha hd (by simp only; omega) (by simp only; omega)
      rcases Sim.two (R := .expr) trivial trivial h with ⟨b, l', hG2, ho2, hin2, hbr2, hlen2, hsz2, hll2⟩ | ⟨e, q, hG2, hF⟩
      ·rw [hG2, ho2]
       simp only [eats, base] at hsz2 hll2
       simp only [Option.bind_some, Sim]
       rw [zch (jok2 rfl rfl hin hbr hin2 hbr2 (by omega))]
      ·rw [hG2]
       exact hF.bind fun b s' hD hd' gb => Fin.j2 hD hd' rfl rfl ⟨hin, hbr, lrf _⟩ gb (by simp only; omega) (by omega)
     ·rw [e6, e5, h2.xx hX]
      exact Fin.j2 h2 h4 rfl rfl ⟨hin, hbr, lrf _⟩ zb9 (by omega) (by omega)
    ·rw [if_neg hk5, if_pos ⟨ha, hk5⟩]
     obtain ⟨n1, n2⟩ := zbr ha2 ({ s with l := m2 } : RS).pk.p 5 (by decide)
     rw [show plc s.E m2 = ({ s with l := m2 } : RS).pk.p from zcv ({ s with l := m2 } : RS)]
     exact n1.in_ hX n2 rfl rfl ⟨hin, hbr, lrf _⟩ (by omega) (by omega) _
   ·rw [hG]
    refine hF.bind fun a s' hD hd' ga => ?_
    simp only
    rw [hD.rec_]
    exact hD.in_ hX hd' rfl rfl ga (by simp only; omega) (by omega) _
  ·rw [e4, e3, h2.xx hX]
   simp only [Option.bind_some]
   rw [h2.rec_]
   exact h2.in_ hX h4 rfl rfl zb9 (by omega) (by omega) _
 ·rw [e2, e1]
  simp only
  rw [h2.must, h2.xx hX]
  simp only [Option.bind_some]
  rw [h2.rec_]
  exact h2.in_ hX h4 rfl rfl zb9 (by omega) (by omega) _
theorem Dd.else_ (h : Dd s e p) (hX : X = exprQ (g + 1)) (hd : s.d = d) {k : Nat} (q : Int) (ga : Gd a n) (gb : Gd b k) (hm : n + k + 2 <= m0) (hb : m0 <= 90000) : Fin e p d m0 ((X (s.must 1 zc0)).bind fun u => joinO (mk 9 q) [a, b, u.1] u.2) := by
 rw [h.must, h.xx hX]
 exact Fin.j3 h hd rfl rfl ga gb zb9 (by omega) hb
theorem zp2 (hX : X = exprQ (g + 1)) (hK : Known X f d (s.l.length + 1)) (ha : Al s) (hd : s.d = d) (hr : s.l.length <= 20000) (p : Int) :
  Sim s (4 * s.l.length + 4) ((G s.E f .expr d s.l).go fun a l1 => T.must s.E 1 zdt l1 fun l2 => (G s.E f .expr d l2).go fun b l3 => T.must s.E 1 zc0 l3 fun l4 => (G s.E f .expr d l4).go fun c l5 => .ok (joinN (mk 9 p) [a, b, c]) l5) (ifR X p s) := by
 unfold ifR
 have h := hK s ha hd (by omega) hr
 rcases Sim.two (R := .expr) trivial trivial h with ⟨a, l, hG, ho, hin, hbr, hlen, hsz, hll⟩ | ⟨e, q, hG, hF⟩
 ·rw [hG, ho]
  simp only [eats, base] at hsz hll
  simp only [Rs.go, Option.bind_some]
  have ha2 : Al { s with l := l } := ha
  rcases zak ha2 1 zdt with ⟨t3, m3, hl4, e5, e6⟩ | ⟨q, s', e5, h2, h4, e6⟩
  ·rw [e6, e5]
   simp only at hl4
   have hl5 := congrArg List.length hl4
   simp only [List.length_cons] at hl5
   have h := hK { s with l := m3 } ha hd (by simp only; omega) (by simp only; omega)
   rcases Sim.two (R := .expr) trivial trivial h with ⟨b, l', hG2, ho2, hin2, hbr2, hlen2, hsz2, hll2⟩ | ⟨e, q, hG2, hF⟩
   ·rw [hG2, ho2]
    simp only [eats, base] at hsz2 hll2
    simp only [Option.bind_some]
    have ha3 : Al { s with l := l' } := ha
    rcases zak ha3 1 zc0 with ⟨t5, m5, hl6, e7, e8⟩ | ⟨q, s', e7, h2, h4, e8⟩
    ·rw [e8, e7]
     simp only at hl6
     have hl7 := congrArg List.length hl6
     simp only [List.length_cons] at hl7
     have h := hK { s with l := m5 } ha hd (by simp only; omega) (by simp only; omega)
     rcases Sim.two (R := .expr) trivial trivial h with ⟨c, l9, hG3, ho3, hin3, hbr3, hlen3, hsz3, hll3⟩ | ⟨e, q, hG3, hF⟩
     ·rw [hG3, ho3]
      simp only [eats, base] at hsz3 hll3
      simp only [Option.bind_some, Sim]
      rw [zch (jok3 rfl rfl hin hbr hin2 hbr2 hin3 hbr3 (by omega))]
     ·rw [hG3]
      exact hF.bind fun c s' hD hd' gc => Fin.j3 hD hd' rfl rfl ⟨hin, hbr, lrf _⟩ ⟨hin2, hbr2, lrf _⟩ gc (by simp only; omega) (by omega)
    ·rw [e8, e7, h2.xx hX]
     exact Fin.j3 h2 h4 rfl rfl ⟨hin, hbr, lrf _⟩ ⟨hin2, hbr2, lrf _⟩ zb9 (by omega) (by omega)
   ·rw [hG2]
    exact hF.bind fun b s' hD hd' gb => hD.else_ hX hd' _ ⟨hin, hbr, lrf _⟩ gb (by simp only; omega) (by omega)
  ·rw [e6, e5, h2.xx hX]
   simp only [Option.bind_some]
   exact h2.else_ hX h4 _ ⟨hin, hbr, lrf _⟩ zb9 (by omega) (by omega)
 ·rw [hG]
  refine hF.bind fun a s' hD hd' ga => ?_
  simp only
  rw [hD.must, hD.xx hX]
  simp only [Option.bind_some]
  exact hD.else_ hX hd' _ ga zb9 (by omega) (by omega)
end
end Go.Proofs.YtjakeidbajkdcaaGreatDoor.B
