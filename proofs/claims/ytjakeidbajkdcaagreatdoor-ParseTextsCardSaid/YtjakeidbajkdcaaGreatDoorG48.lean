/- Joined by program. -/
import Derived.Test.YtjakeidbajkdcaaGreatDoorG43
set_option maxHeartbeats 2000000
namespace Go.Proofs.YtjakeidbajkdcaaGreatDoor.B
open T
theorem zt0 (O : List (List UInt8 × Int)) (s : RS) : (O.find? (fun o => s.is 7 o.1) = none /\ opOf O s.l = none) ∨ ∃ t m o, s.l = t :: m /\ O.find? (fun o => s.is 7 o.1) = some o /\ opOf O s.l = some o.2 := by
 unfold RS.is opOf
 cases hl : s.l with
 | nil => exact .inl ⟨List.find?_eq_none.2 (by simp [isT]), rfl⟩
 | cons t m =>
  simp only
  by_cases hk : t.k = 7
  ·rw [if_pos hk, show (fun o : List UInt8 × Int => isT 7 o.1 (t :: m)) = fun o => t.s.toList == o.1 by funext o; simp [isT, hk]]
   cases hf : O.find? fun o => t.s.toList == o.1 with
   | none => exact .inl ⟨rfl, rfl⟩
   | some o => exact .inr ⟨t, m, o, rfl, rfl, rfl⟩
  ·rw [if_neg hk]
   exact .inl ⟨List.find?_eq_none.2 (by simp [isT, hk]), rfl⟩
def KnownR (R : Pr) (Y : RS -> Ans) (f d L : Nat) : Prop := ∀ s, Al s -> s.d = d -> s.l.length < L -> s.l.length <= 20000 -> Sim s (4 * s.l.length + 1) (G s.E f R d s.l) (Y s)
section
variable {X Y : RS -> Ans} {f d g m0 : Nat} {s : RS} {e p : Int} {A : List Nd} {fs : List Fld} {ts : List (List Nd)}
theorem zet {R : Pr} {O : List (List UInt8 × Int)} (L : List Nd -> Pr) (hfit : fit R) (hfs : fitS R) (hea : eats R = 1) (hba : base R = 0)
  (hGL : ∀ E f A d l, G E (f + 1) (L A) d l = match opOf O l with
   | none => .ok A l
   | some n => (G E f R d l.tail).go fun b l2 => G E f (L (joinN { mk 10 (plc E l) with n := n } [A, b])) d l2)
  (hRec : ∀ (s : RS) (A : List Nd) (n : Nat), Al s -> s.d = d -> s.l.length <= 20000 -> A.length + 4 * s.l.length + 2 <= 90000 -> inOrd A -> broad A -> s.l.length < n -> 8 * s.l.length + 1 <= f -> Sim s (A.length + 4 * s.l.length + 2) (G s.E f (L A) d s.l) (loopR O Y n A s))
  (hK : KnownR R Y f d s.l.length) (ha : Al s) (hd : s.d = d) (hr : s.l.length <= 20000) (hA : A.length + 4 * s.l.length + 2 <= 90000) (oA : inOrd A) (bA : broad A) {n : Nat} (hn : s.l.length < n) (hf : 8 * s.l.length + 1 <= f + 1) :
  Sim s (A.length + 4 * s.l.length + 2) (G s.E (f + 1) (L A) d s.l) (loopR O Y n A s) := by
 obtain ⟨n, rfl⟩ : ∃ k, n = k + 1 := ⟨n - 1, by omega⟩
 have h0 : s.err = 0 := ha
 rw [hGL, loopR, if_pos h0]
 rcases zt0 O s with ⟨h1, h2⟩ | ⟨t, m, o, hl, h1, h2⟩
 ·rw [h2, h1]
  rfl
 ·rw [h2, h1]
  simp only
  have hl1 := congrArg List.length hl
  simp only [List.length_cons] at hl1
  rw [show s.l.tail = m by rw [hl]; rfl, zcc hl, za6 hl, zby hl]
  have h := hK { s with l := m } ha hd (by simp only; omega) (by simp only; omega)
  rcases Sim.two hfit hfs h with ⟨b, l, hG, ho, hin, hbr, hlen, hsz, hll⟩ | ⟨e, q, hG, hF⟩
  ·rw [hea, hba] at hsz
   rw [hea] at hll
   simp only at hsz hll
   rw [hG, ho]
   simp only [Rs.go, Option.bind_some]
   rw [zch (jok2 rfl rfl oA bA hin hbr (by omega))]
   simp only [Option.bind_some]
   have hjl := jl2 { mk 10 t.p with n := o.2 } A b
   exact Sim.mono (hRec { s with l := l } _ n ha hd (by simp only; omega) (by rw [hjl]; simp only; omega) (ord2 rfl oA hin) (broadN (by simp [bA, hbr]) (Nat.zero_le _)) (by simp only; omega) (by simp only; omega)) (by rw [hjl]; simp only; omega)
  ·rw [hG]
   refine hF.bind fun b s' hD hd' gb => ?_
   obtain ⟨n, rfl⟩ : ∃ k, n = k + 1 := ⟨n - 1, by omega⟩
   refine (Fin.j2 (m := A.length + 4 * s.l.length + 2) hD hd' rfl rfl ⟨oA, bA, lrf _⟩ gb (by simp only; omega) (by omega)).bind fun t s'' hD2 hd2 gt => ?_
   simp only
   rw [loopR, if_neg hD2.ne]
   exact Fin.ret hD2 hd2 gt
theorem zdo {R : Pr} (L : List Nd -> Pr) (hfit : fit R) (hfs : fitS R) (hea : eats R = 1) (hba : base R = 0) {W : Nat -> List Nd -> RS -> Ans} (hW : ∀ (s : RS) (e p : Int) n a, Dd s e p -> W (n + 1) a s = some (a, s))
  (hK : Sim s (4 * s.l.length + 1) (G s.E f R d s.l) (Y s)) (ha : Al s) (hd : s.d = d)
  (hL : ∀ (s' : RS) (A : List Nd) (n : Nat), Al s' -> s'.d = d -> s'.E = s.E -> A.length + 2 * s'.l.length + 1 <= 2 * s.l.length -> inOrd A -> broad A -> s'.l.length < n -> s'.l.length + 1 <= s.l.length -> Sim s' (4 * s.l.length + 1) (G s'.E f (L A) d s'.l) (W n A s')) :
  Sim s (4 * s.l.length + 1) ((G s.E f R d s.l).go fun a l1 => G s.E f (L a) d l1) ((Y s).bind fun r => W (r.2.l.length + 1) r.1 r.2) := by
 rcases Sim.two hfit hfs hK with ⟨a, l, hG, ho, hin, hbr, hlen, hsz, hll⟩ | ⟨e, q, hG, hF⟩
 ·rw [hG, ho]
  rw [hea, hba] at hsz
  rw [hea] at hll
  simp only [Rs.go, Option.bind_some]
  exact hL { s with l := l } a (l.length + 1) ha hd rfl (by simp only; omega) hin hbr (by simp) (by simp only; omega)
 ·rw [hG]
  refine hF.bind fun a s' hD hd' ga => ?_
  rw [hW s' e q _ _ hD]
  exact Fin.ret hD hd' ga
theorem zf7 (hRec : ∀ (s : RS) (A : List Nd) (n : Nat), Al s -> s.d = d -> s.l.length <= 20000 -> A.length + 4 * s.l.length + 2 <= 90000 -> inOrd A -> broad A -> s.l.length < n -> 8 * s.l.length + 1 <= f -> Sim s (A.length + 4 * s.l.length + 2) (G s.E f (.postL A) d s.l) (postL n A s))
  (ha : Al s) (hd : s.d = d) (hr : s.l.length <= 20000) (hA : A.length + 4 * s.l.length + 2 <= 90000) (oA : inOrd A) (bA : broad A) {n : Nat} (hn : s.l.length < n) (hf : 8 * s.l.length + 1 <= f + 1) :
  Sim s (A.length + 4 * s.l.length + 2) (G s.E (f + 1) (.postL A) d s.l) (postL n A s) := by
 obtain ⟨n, rfl⟩ : ∃ k, n = k + 1 := ⟨n - 1, by omega⟩
 rw [G, postL, Al.on ha]
 by_cases hx : isT 7 zeg s.l = true
 ·rw [if_pos hx, if_pos hx]
  obtain ⟨t, m, hl⟩ := za7 hx
  have hl1 := congrArg List.length hl
  simp only [List.length_cons] at hl1
  rw [show s.l.tail = m by rw [hl]; rfl, zcc hl, za6 hl, zby hl]
  have ha1 : Al { s with l := m } := ha
  rcases zc9 ha1 (k := 2) (by decide) with ⟨t2, m2, hl2, e1, e2⟩ | ⟨q, s', e1, h2, h4, e2⟩
  ·rw [e2, e1]
   simp only at hl2
   have hl3 := congrArg List.length hl2
   simp only [List.length_cons] at hl3
   simp only
   rw [zch (jok1 rfl rfl oA bA (by omega))]
   simp only [Option.bind_some]
   have hjl := jl1 { mk 12 t.p with nm := t2.s } A
   exact Sim.mono (hRec { s with l := m2 } _ n ha hd (by simp only; omega) (by rw [hjl]; simp only; omega) (ord1 rfl oA) (broadN (by simp [bA]) (Nat.zero_le _)) (by simp only; omega) (by simp only; omega)) (by rw [hjl]; simp only; omega)
  ·rw [e2, e1]
   obtain ⟨n, rfl⟩ : ∃ k, n = k + 1 := ⟨n - 1, by omega⟩
   refine (Fin.j1 (m := A.length + 4 * s.l.length + 2) h2 h4 rfl rfl ⟨oA, bA, lrf _⟩ (by omega) (by omega)).bind fun t s'' hD2 hd2 gt => ?_
   simp only
   rw [postL, hD2.on]
   exact Fin.ret hD2 hd2 gt
 ·rw [if_neg hx, if_neg hx]
  rfl
theorem zhc (hK : KnownR .post Y f d (s.l.length + 1)) (hRec : ∀ (s : RS) (A : List Nd) (n : Nat), Al s -> s.d = d -> s.l.length <= 20000 -> A.length + 4 * s.l.length + 2 <= 90000 -> inOrd A -> broad A -> s.l.length < n -> 8 * s.l.length + 3 <= f -> Sim s (A.length + 4 * s.l.length + 2) (G s.E f (.appL A) d s.l) (appL Y n A s))
  (ha : Al s) (hd : s.d = d) (hr : s.l.length <= 20000) (hA : A.length + 4 * s.l.length + 2 <= 90000) (oA : inOrd A) (bA : broad A) {n : Nat} (hn : s.l.length < n) (hf : 8 * s.l.length + 3 <= f + 1) :
  Sim s (A.length + 4 * s.l.length + 2) (G s.E (f + 1) (.appL A) d s.l) (appL Y n A s) := by
 obtain ⟨n, rfl⟩ : ∃ k, n = k + 1 := ⟨n - 1, by omega⟩
 rw [G, appL, decide_eq_true (show s.err = 0 from ha), Bool.true_and]
 by_cases hx : begins s.l = true
 ·rw [if_pos hx, if_pos hx]
  obtain ⟨y, hy⟩ : ∃ y, A.getLast? = some y := by
   cases h : A.getLast? with
   | none => exact absurd (List.getLast?_eq_none_iff.1 h) oA.1
   | some y => exact ⟨y, rfl⟩
  rw [hy]
  simp only
  rw [show lastP A = y.pos by unfold lastP; rw [hy]; rfl]
  have h := hK s ha hd (by omega) (by omega)
  rcases Sim.two (R := .post) trivial trivial h with ⟨b, l, hG, ho, hin, hbr, hlen, hsz, hll⟩ | ⟨e, q, hG, hF⟩
  ·rw [hG, ho]
   simp only [eats, base] at hsz hll
   simp only [Rs.go, Option.bind_some]
   rw [zch (jok2 rfl rfl oA bA hin hbr (by omega))]
   simp only [Option.bind_some]
   have hjl := jl2 (mk 6 y.pos) A b
   exact Sim.mono (hRec { s with l := l } _ n ha hd (by simp only; omega) (by rw [hjl]; simp only; omega) (ord2 rfl oA hin) (broadN (by simp [bA, hbr]) (Nat.zero_le _)) (by simp only; omega) (by simp only; omega)) (by rw [hjl]; simp only; omega)
  ·rw [hG]
   have hpos : 1 <= s.l.length := by
    cases hh : s.l with
    | nil => rw [hh] at hx; cases hx
    | cons t m => simp
   refine hF.bind fun b s' hD hd' gb => ?_
   obtain ⟨n, rfl⟩ : ∃ k, n = k + 1 := ⟨n - 1, by omega⟩
   refine (Fin.j2 (m := A.length + 4 * s.l.length + 2) hD hd' rfl rfl ⟨oA, bA, lrf _⟩ gb (by omega) (by omega)).bind fun t s'' hD2 hd2 gt => ?_
   simp only
   rw [appL, decide_eq_false hD2.ne, Bool.false_and]
   exact Fin.ret hD2 hd2 gt
 ·rw [if_neg hx, if_neg hx]
  rfl
theorem zhh (p : Int) (fs : List Fld) : (kids { mk 11 p with l := fs }).length = fs.length := by simp [kids, kids0, many, mk]
theorem zep (p : Int) (fs : List Fld) : (kids { mk 14 p with l := fs }).length = fs.length + 1 := by simp [kids, kids0, many, mk]
theorem zc3 {a : List Nd} (hts : ∀ e ∈ ts, inOrd e /\ broad e) (ha : inOrd a) (hb : broad a) : ∀ e ∈ ts ++ [a], inOrd e /\ broad e := fun e he => by
 rw [List.mem_append, List.mem_singleton] at he
 rcases he with he | rfl
 ·exact hts e he
 ·exact ⟨ha, hb⟩
theorem zcj (ts : List (List Nd)) (a : List Nd) : ((ts ++ [a]).map List.length).sum = (ts.map List.length).sum + a.length := by simp
theorem zhx (hX : X = exprQ (g + 1)) (hK : Known X f d s.l.length)
  (hRec : ∀ (s : RS) (fs : List Fld) (ts : List (List Nd)) (n : Nat), Al s -> s.d = d -> s.l.length <= 20000 -> (ts.map List.length).sum + 4 * s.l.length + 3 <= 90000 -> ts.length = fs.length -> fs.length <= 30 -> (∀ e ∈ ts, inOrd e /\ broad e) -> s.l.length < n -> 8 * s.l.length + 1 <= f -> Sim s ((ts.map List.length).sum + 4 * s.l.length + 3) (G s.E f (.recL p fs ts) d s.l) (recL X p n fs ts s))
  (ha : Al s) (hd : s.d = d) (hr : s.l.length <= 20000) (hS : (ts.map List.length).sum + 4 * s.l.length + 3 <= 90000) (htl : ts.length = fs.length) (h30 : fs.length <= 30) (hts : ∀ e ∈ ts, inOrd e /\ broad e) {n : Nat} (hn : s.l.length < n) (hf : 8 * s.l.length + 1 <= f + 1) :
  Sim s ((ts.map List.length).sum + 4 * s.l.length + 3) (G s.E (f + 1) (.recL p fs ts) d s.l) (recL X p n fs ts s) := by
 obtain ⟨n, rfl⟩ : ∃ k, n = k + 1 := ⟨n - 1, by omega⟩
 have h0 : s.err = 0 := ha
 rw [G, recL, if_pos h0, if_pos (by omega)]
 have tail : ∀ (x : ByteArray) (e q : Int) (a : List Nd) (s' : RS) (k : Nat), Dd s' e q -> s'.d = s.d -> Gd a k -> k <= 4 * s.l.length + 2 -> Fin e q s.d ((ts.map List.length).sum + 4 * s.l.length + 3) (if s'.on 7 zb6 = true then recL X p n (fs ++ [fld x ⟨#[]⟩]) (ts ++ [a]) s'.nx else joinO { mk 11 p with l := fs ++ [fld x ⟨#[]⟩] } (ts ++ [a]) (s'.must 7 zbl)) := fun x e q a s' k hD hd' ga hk => by
  rw [hD.on, if_neg (by decide), hD.must]
  exact Fin.jN hD hd' (by rw [zhh]; simp [htl]) (by simp; omega) (zc3 hts ga.1 ga.2.1) (by rw [zcj]; have := ga.2.2; omega) hS
 rcases zdz ha (k := 2) (by decide) fs with ⟨t, m, hl, hg30, e0, e1, e2⟩ | ⟨q, c, x, s', hc, e0, e1, h2, h4, e2⟩
 ·rw [e2, e1, e0]
  simp only
  have hl1 := congrArg List.length hl
  simp only [List.length_cons] at hl1
  have ha1 : Al { s with l := m } := ha
  rcases zak ha1 7 zbg with ⟨t2, m2, hl2, e3, e4⟩ | ⟨q, s', e3, h2, h4, e4⟩
  ·rw [e4, e3]
   simp only at hl2
   have hl3 := congrArg List.length hl2
   simp only [List.length_cons] at hl3
   have h := hK { s with l := m2 } ha hd (by simp only; omega) (by simp only; omega)
   rcases Sim.two (R := .expr) trivial trivial h with ⟨a, l, hG, ho, hin, hbr, hlen, hsz, hll⟩ | ⟨e, q, hG, hF⟩
   ·rw [hG, ho]
    simp only [eats, base] at hsz hll
    simp only [Rs.go, Option.bind_some]
    have ha2 : Al { s with l := l } := ha
    rw [Al.on ha2]
    simp only
    by_cases hx : isT 7 zb6 l = true
    ·rw [if_pos hx, if_pos hx]
     obtain ⟨t3, m3, hl4⟩ := za7 hx
     have hl5 := congrArg List.length hl4
     simp only [List.length_cons] at hl5
     rw [show l.tail = m3 by rw [hl4]; rfl, show ({ s with l := l } : RS).nx = { s with l := m3 } from za6 hl4]
     exact Sim.mono (hRec { s with l := m3 } _ (ts ++ [a]) n ha hd (by simp only; omega) (by rw [zcj]; simp only; omega) (by simp [htl]) (by simp; omega) (zc3 hts hin hbr) (by simp only; omega) (by simp only; omega)) (by rw [zcj]; simp only; omega)
    ·rw [if_neg hx, if_neg hx]
     rcases zak ha2 7 zbl with ⟨t3, m3, hl4, e5, e6⟩ | ⟨q, s', e5, h2, h4, e6⟩
     ·rw [e6, e5]
      simp only [Sim]
      rw [zch ⟨by rw [zhh]; simp [htl], by simp; omega, zc3 hts hin hbr, by rw [zcj]; omega⟩]
     ·rw [e6, e5]
      exact Fin.jN h2 h4 (by rw [zhh]; simp [htl]) (by simp; omega) (zc3 hts hin hbr) (by rw [zcj]; omega) hS
   ·rw [hG]
    exact hF.bind fun a s' hD hd' ga => tail _ _ _ a s' _ hD hd' ga (by simp only; omega)
  ·rw [e4, e3, h2.xx hX]
   exact tail _ _ _ _ _ _ h2 h4 zb9 (by omega)
 ·rw [e2, e1, e0]
  simp only
  rw [h2.must, h2.xx hX]
  exact tail _ _ _ _ _ _ h2 h4 zb9 (by omega)
theorem zhy (hX : X = exprQ (g + 1)) (hK : Known X f d s.l.length)
  (hRec : ∀ (s : RS) (fs : List Fld) (ts : List (List Nd)) (n : Nat), Al s -> s.d = d -> s.l.length <= 20000 -> (ts.map List.length).sum + 4 * s.l.length + 3 <= 90000 -> ts.length = fs.length + 1 -> fs.length <= 30 -> (∀ e ∈ ts, inOrd e /\ broad e) -> s.l.length < n -> 8 * s.l.length + 1 <= f -> Sim s ((ts.map List.length).sum + 4 * s.l.length + 3) (G s.E f (.casL p fs ts) d s.l) (casL X p n fs ts s))
  (ha : Al s) (hd : s.d = d) (hr : s.l.length <= 20000) (hS : (ts.map List.length).sum + 4 * s.l.length + 3 <= 90000) (htl : ts.length = fs.length + 1) (h30 : fs.length <= 30) (hts : ∀ e ∈ ts, inOrd e /\ broad e) {n : Nat} (hn : s.l.length < n) (hf : 8 * s.l.length + 1 <= f + 1) :
  Sim s ((ts.map List.length).sum + 4 * s.l.length + 3) (G s.E (f + 1) (.casL p fs ts) d s.l) (casL X p n fs ts s) := by
 obtain ⟨n, rfl⟩ : ∃ k, n = k + 1 := ⟨n - 1, by omega⟩
 have h0 : s.err = 0 := ha
 rw [G, casL, if_pos h0, if_pos (by omega)]
 have tail : ∀ (x v : ByteArray) (e q : Int) (a : List Nd) (s' : RS) (k : Nat), Dd s' e q -> s'.d = s.d -> Gd a k -> k <= 4 * s.l.length + 2 -> Fin e q s.d ((ts.map List.length).sum + 4 * s.l.length + 3) (if s'.on 7 zej = true then casL X p n (fs ++ [fld x v]) (ts ++ [a]) s'.nx else joinO { mk 14 p with l := fs ++ [fld x v] } (ts ++ [a]) (s'.must 1 zfq)) := fun x v e q a s' k hD hd' ga hk => by
  rw [hD.on, if_neg (by decide), hD.must]
  exact Fin.jN hD hd' (by rw [zep]; simp [htl]) (by simp; omega) (zc3 hts ga.1 ga.2.1) (by rw [zcj]; have := ga.2.2; omega) hS
 rcases zdz ha (k := 3) (by decide) fs with ⟨t, m, hl, hg30, e0, e1, e2⟩ | ⟨q, c, x, s', hc, e0, e1, h2, h4, e2⟩
 ·rw [e2, e1, e0]
  simp only
  have hl1 := congrArg List.length hl
  simp only [List.length_cons] at hl1
  have ha1 : Al { s with l := m } := ha
  rcases zc9 ha1 (k := 2) (by decide) with ⟨tv, mv, hlv, ev, ev2⟩ | ⟨q, s', ev, h2, h4, ev2⟩
  ·rw [ev2, ev]
   simp only at hlv
   have hlv1 := congrArg List.length hlv
   simp only [List.length_cons] at hlv1
   simp only
   have ha2 : Al { s with l := mv } := ha
   rcases zak ha2 7 zbc with ⟨t2, m2, hl2, e3, e4⟩ | ⟨q, s', e3, h2, h4, e4⟩
   ·rw [e4, e3]
    simp only at hl2
    have hl3 := congrArg List.length hl2
    simp only [List.length_cons] at hl3
    have h := hK { s with l := m2 } ha hd (by simp only; omega) (by simp only; omega)
    rcases Sim.two (R := .expr) trivial trivial h with ⟨a, l, hG, ho, hin, hbr, hlen, hsz, hll⟩ | ⟨e, q, hG, hF⟩
    ·rw [hG, ho]
     simp only [eats, base] at hsz hll
     simp only [Rs.go, Option.bind_some]
     have ha3 : Al { s with l := l } := ha
     rw [Al.on ha3]
     simp only
     by_cases hx : isT 7 zej l = true
     ·rw [if_pos hx, if_pos hx]
      obtain ⟨t3, m3, hl4⟩ := za7 hx
      have hl5 := congrArg List.length hl4
      simp only [List.length_cons] at hl5
      rw [show l.tail = m3 by rw [hl4]; rfl, show ({ s with l := l } : RS).nx = { s with l := m3 } from za6 hl4]
      exact Sim.mono (hRec { s with l := m3 } _ (ts ++ [a]) n ha hd (by simp only; omega) (by rw [zcj]; simp only; omega) (by simp [htl]) (by simp; omega) (zc3 hts hin hbr) (by simp only; omega) (by simp only; omega)) (by rw [zcj]; simp only; omega)
     ·rw [if_neg hx, if_neg hx]
      rcases zak ha3 1 zfq with ⟨t3, m3, hl4, e5, e6⟩ | ⟨q, s', e5, h2, h4, e6⟩
      ·rw [e6, e5]
       simp only [Sim]
       rw [zch ⟨by rw [zep]; simp [htl], by simp; omega, zc3 hts hin hbr, by rw [zcj]; omega⟩]
      ·rw [e6, e5]
       exact Fin.jN h2 h4 (by rw [zep]; simp [htl]) (by simp; omega) (zc3 hts hin hbr) (by rw [zcj]; omega) hS
    ·rw [hG]
     exact hF.bind fun a s' hD hd' ga => tail _ _ _ _ a s' _ hD hd' ga (by simp only; omega)
   ·rw [e4, e3, h2.xx hX]
    exact tail _ _ _ _ _ _ _ h2 h4 zb9 (by omega)
  ·rw [ev2, ev]
   simp only
   rw [h2.must, h2.xx hX]
   exact tail _ _ _ _ _ _ _ h2 h4 zb9 (by omega)
 ·rw [e2, e1, e0]
  rw [h2.off]
  simp only
  rw [h2.must, h2.xx hX]
  exact tail _ _ _ _ _ _ _ h2 h4 zb9 (by omega)
end
open T
section
variable {X : RS -> Ans} {f d g m0 : Nat} {s : RS} {e p : Int}
theorem zbv {t : Tk} {m : List Tk} (hl : s.l = t :: m) {y : Nd} (hk : (kids y).length = 0) (hy : y.l = []) (mm : Nat) : Sim s mm (.ok (joinN y []) m) (joinO y [] s.nx) := by
 rw [za6 hl, zch (jok0 hk hy)]
 rfl
theorem zcn {t : Tk} {m : List Tk} (hl : s.l = t :: m) {k : Int} (h : t.k ≠ k) (x : List UInt8) : s.is k x = false := by unfold RS.is; rw [hl]; simp [isT, h]
theorem zhz (_hX : X = exprQ (g + 1)) (hK : Known X f d s.l.length)
  (hRec : ∀ (s' : RS) (p : Int), Al s' -> s'.d = d -> s'.E = s.E -> s'.l.length <= 20000 -> s'.l.length + 1 = s.l.length -> Sim s' (4 * s'.l.length + 3) (G s'.E f (.recL p [] []) d s'.l) (recL X p (s'.l.length + 2) [] [] s'))
  (hCas : ∀ (s' : RS) (a : List Nd) (p : Int), Al s' -> s'.d = d -> s'.E = s.E -> s'.l.length <= 20000 -> a.length + 4 * s'.l.length + 3 <= 90000 -> inOrd a -> broad a -> s'.l.length + 1 < s.l.length -> Sim s' (a.length + 4 * s'.l.length + 3) (G s'.E f (.casL p [] [a]) d s'.l) (casL X p (s'.l.length + 2) [] [a] s'))
  (ha : Al s) (hd : s.d = d) (hr : s.l.length <= 20000) :
  Sim s (4 * s.l.length + 1) (G s.E (f + 1) .atom d s.l) (atomR X s) := by
 have h0 : s.err = 0 := ha
 unfold atomR
 rw [if_pos h0]
 cases hl : s.l with
 | nil =>
  rw [G]
  have n1 : ∀ k x, s.is k x = false := fun k x => by unfold RS.is; rw [hl]; rfl
  simp only [n1, zpd hl]
  exact Fin.nil (zbr ha s.E 5 (by decide)).1 (zbr ha s.E 5 (by decide)).2 (by omega)
 | cons t m =>
  rw [G]
  have hl1 := congrArg List.length hl
  simp only [List.length_cons] at hl1
  have hpk := zby hl
  have hnx := za6 hl
  rw [hpk]
  by_cases h4 : t.k = 4
  ·rw [if_pos h4, if_pos h4]
   exact zbv hl rfl rfl _
  rw [if_neg h4, if_neg h4]
  by_cases h5 : t.k = 5
  ·rw [if_pos h5, if_pos h5]
   exact zbv hl rfl rfl _
  rw [if_neg h5, if_neg h5]
  by_cases h2 : t.k = 2
  ·rw [if_pos h2, if_pos h2]
   exact zbv hl rfl rfl _
  rw [if_neg h2, if_neg h2]
  rw [<- hl]
  have hI : ∀ k x, s.is k x = isT k x s.l := fun _ _ => rfl
  simp only [hI]
  by_cases ht : isT 1 zar s.l = true
  ·rw [if_pos ht, if_pos ht]
   exact zbv hl rfl rfl _
  rw [if_neg ht, if_neg ht]
  by_cases hf : isT 1 zan s.l = true
  ·rw [if_pos hf, if_pos hf]
   exact zbv hl rfl rfl _
  rw [if_neg hf, if_neg hf]
  by_cases hp : isT 7 za3 s.l = true
  ·rw [if_pos hp, if_pos hp, hnx]
   have h := hK { s with l := m } ha hd (by simp only; omega) (by simp only; omega)
   rcases Sim.two (R := .expr) trivial trivial h with ⟨a, l, hG, ho, hin, hbr, hlen, hsz, hll⟩ | ⟨e, q, hG, hF⟩
   ·rw [hG, ho]
    simp only [eats, base] at hsz hll
    simp only [Rs.go, Option.bind_some]
    have ha2 : Al { s with l := l } := ha
    rcases zak ha2 7 zgf with ⟨t3, m3, hl4, e5, e6⟩ | ⟨q, s', e5, h2, h4, e6⟩
    ·rw [e6, e5]
     rfl
    ·rw [e6, e5]
     exact Fin.ret h2 h4 ⟨hin, hbr, by omega⟩
   ·rw [hG]
    refine hF.bind fun a s' hD hd' ga => ?_
    simp only at ga ⊢
    rw [hD.must]
    exact (Fin.ret hD hd' ga).mono (by omega)
  rw [if_neg hp, if_neg hp]
  by_cases hb : isT 7 zbb s.l = true
  ·rw [if_pos hb, if_pos hb, hnx]
   unfold recR
   have ha1 : Al { s with l := m } := ha
   rw [Al.on ha1]
   simp only
   by_cases hc : isT 7 zbl m = true
   ·rw [if_pos hc, if_pos hc]
    obtain ⟨t2, m2, hl2⟩ := za7 hc
    rw [show m.tail = m2 by rw [hl2]; rfl]
    exact zbv (s := { s with l := m }) hl2 rfl rfl (4 * s.l.length + 1)
   ·rw [if_neg hc, if_neg hc]
    exact Sim.mono (hRec { s with l := m } t.p ha hd rfl (by simp only; omega) (by simp only; omega)) (by simp only; omega)
  rw [if_neg hb, if_neg hb]
  by_cases hc : isT 1 zbk s.l = true
  ·rw [if_pos hc, if_pos hc, hnx]
   unfold casR
   have h := hK { s with l := m } ha hd (by simp only; omega) (by simp only; omega)
   rcases Sim.two (R := .expr) trivial trivial h with ⟨a, l, hG, ho, hin, hbr, hlen, hsz, hll⟩ | ⟨e, q, hG, hF⟩
   ·rw [hG, ho]
    simp only [eats, base] at hsz hll
    simp only [Rs.go, Option.bind_some]
    have ha2 : Al { s with l := l } := ha
    rcases zak ha2 1 w_of with ⟨t3, m3, hl4, e5, e6⟩ | ⟨q, s', e5, h2, h4, e6⟩
    ·rw [e6, e5]
     simp only at hl4
     have hl5 := congrArg List.length hl4
     simp only [List.length_cons] at hl5
     exact Sim.mono (hCas { s with l := m3 } a t.p ha hd rfl (by simp only; omega) (by simp only; omega) hin hbr (by simp only; omega)) (by simp only; omega)
    ·rw [e6, e5, casL, if_neg h2.ne]
     exact Fin.jN h2 h4 (by rw [zep]; rfl) (Nat.zero_le _) (by simp [hin, hbr]) (by simp; omega) (by omega)
   ·rw [hG]
    refine hF.bind fun a s' hD hd' ga => ?_
    simp only at ga ⊢
    rw [hD.must, casL, if_neg hD.ne]
    exact Fin.jN hD hd' (by rw [zep]; rfl) (Nat.zero_le _) (by simp [ga.1, ga.2.1]) (by have := ga.2.2; simp; omega) (by omega)
  rw [if_neg hc, if_neg hc]
  exact Fin.nil (zbr ha t.p 5 (by decide)).1 (zbr ha t.p 5 (by decide)).2 (by omega)
end
structure Rows (f : Nat) : Prop where
 expr : ∀ g d s, Al s -> s.d = d -> d <= 100 -> 101 <= g + d -> s.l.length <= 20000 -> 8 * s.l.length + 7 <= f -> Sim s (4 * s.l.length + 1) (G s.E f .expr d s.l) (exprQ g s)
 cmp : ∀ g d s, Al s -> s.d = d -> d <= 100 -> 101 <= g + d -> s.l.length <= 20000 -> 8 * s.l.length + 6 <= f -> Sim s (4 * s.l.length + 1) (G s.E f .cmp d s.l) (cmpR (exprQ g) s)
 sum : ∀ g d s, Al s -> s.d = d -> d <= 100 -> 101 <= g + d -> s.l.length <= 20000 -> 8 * s.l.length + 5 <= f -> Sim s (4 * s.l.length + 1) (G s.E f .sum d s.l) (sumR (exprQ g) s)
 prod : ∀ g d s, Al s -> s.d = d -> d <= 100 -> 101 <= g + d -> s.l.length <= 20000 -> 8 * s.l.length + 4 <= f -> Sim s (4 * s.l.length + 1) (G s.E f .prod d s.l) (prodR (exprQ g) s)
 app : ∀ g d s, Al s -> s.d = d -> d <= 100 -> 101 <= g + d -> s.l.length <= 20000 -> 8 * s.l.length + 3 <= f -> Sim s (4 * s.l.length + 1) (G s.E f .app d s.l) (appR (exprQ g) s)
 post : ∀ g d s, Al s -> s.d = d -> d <= 100 -> 101 <= g + d -> s.l.length <= 20000 -> 8 * s.l.length + 2 <= f -> Sim s (4 * s.l.length + 1) (G s.E f .post d s.l) (postR (exprQ g) s)
 atom : ∀ g d s, Al s -> s.d = d -> d <= 100 -> 101 <= g + d -> s.l.length <= 20000 -> 8 * s.l.length + 1 <= f -> Sim s (4 * s.l.length + 1) (G s.E f .atom d s.l) (atomR (exprQ g) s)
 sumL : ∀ g d s A n, Al s -> s.d = d -> d <= 100 -> 101 <= g + d -> s.l.length <= 20000 -> A.length + 4 * s.l.length + 2 <= 90000 -> inOrd A -> broad A -> s.l.length < n -> 8 * s.l.length + 1 <= f -> Sim s (A.length + 4 * s.l.length + 2) (G s.E f (.sumL A) d s.l) (loopR sumOps (prodR (exprQ g)) n A s)
 prodL : ∀ g d s A n, Al s -> s.d = d -> d <= 100 -> 101 <= g + d -> s.l.length <= 20000 -> A.length + 4 * s.l.length + 2 <= 90000 -> inOrd A -> broad A -> s.l.length < n -> 8 * s.l.length + 1 <= f -> Sim s (A.length + 4 * s.l.length + 2) (G s.E f (.prodL A) d s.l) (loopR prodOps (appR (exprQ g)) n A s)
 appL : ∀ g d s A n, Al s -> s.d = d -> d <= 100 -> 101 <= g + d -> s.l.length <= 20000 -> A.length + 4 * s.l.length + 2 <= 90000 -> inOrd A -> broad A -> s.l.length < n -> 8 * s.l.length + 3 <= f -> Sim s (A.length + 4 * s.l.length + 2) (G s.E f (.appL A) d s.l) (appL (postR (exprQ g)) n A s)
 postL : ∀ d s A n, Al s -> s.d = d -> s.l.length <= 20000 -> A.length + 4 * s.l.length + 2 <= 90000 -> inOrd A -> broad A -> s.l.length < n -> 8 * s.l.length + 1 <= f -> Sim s (A.length + 4 * s.l.length + 2) (G s.E f (.postL A) d s.l) (postL n A s)
 recL : ∀ g d p s fs ts n, Al s -> s.d = d -> d <= 100 -> 101 <= g + d -> 1 <= g -> s.l.length <= 20000 -> (ts.map List.length).sum + 4 * s.l.length + 3 <= 90000 -> ts.length = fs.length -> fs.length <= 30 -> (∀ e ∈ ts, inOrd e /\ broad e) -> s.l.length < n -> 8 * s.l.length + 1 <= f -> Sim s ((ts.map List.length).sum + 4 * s.l.length + 3) (G s.E f (.recL p fs ts) d s.l) (recL (exprQ g) p n fs ts s)
 casL : ∀ g d p s fs ts n, Al s -> s.d = d -> d <= 100 -> 101 <= g + d -> 1 <= g -> s.l.length <= 20000 -> (ts.map List.length).sum + 4 * s.l.length + 3 <= 90000 -> ts.length = fs.length + 1 -> fs.length <= 30 -> (∀ e ∈ ts, inOrd e /\ broad e) -> s.l.length < n -> 8 * s.l.length + 1 <= f -> Sim s ((ts.map List.length).sum + 4 * s.l.length + 3) (G s.E f (.casL p fs ts) d s.l) (casL (exprQ g) p n fs ts s)
theorem Rows.known {f : Nat} (H : Rows f) {g d L : Nat} (hd2 : d <= 100) (hg : 101 <= g + d) (hL : ∀ n, n < L -> 8 * n + 7 <= f) : Known (exprQ g) f d L := fun s ha hd hl hr => H.expr g d s ha hd hd2 hg hr (hL _ hl)
theorem zm2 {s : RS} {m : Nat} {r : Rs} {o : Ans} (hd : s.d < 100) (h : Sim { s with d := s.d + 1 } m r o) : Sim s m r (o.bind fun r => if 1 <= r.2.d /\ r.2.d <= 1000 then some (r.1, { r.2 with d := r.2.d - 1 }) else none) := by
 cases r with
 | ok t l =>
  simp only [Sim] at h ⊢
  rw [h]
  simp only [Option.bind_some]
  rw [if_pos (by omega)]
  rfl
 | bad e p =>
  refine Fin.bind h fun a s' hD hd' ga => ?_
  simp only at hd' ⊢
  rw [if_pos (by omega)]
  exact ⟨a, _, rfl, hD, by show s'.d - 1 = s.d; omega, ga⟩
theorem zhf {f : Nat} (H : Rows f) (g d : Nat) (s : RS) (ha : Al s) (hd : s.d = d) (hd2 : d <= 100) (hg : 101 <= g + d) (hr : s.l.length <= 20000) (hf : 8 * s.l.length + 7 <= f + 1) : Sim s (4 * s.l.length + 1) (G s.E (f + 1) .expr d s.l) (exprQ g s) := by
 obtain ⟨g, rfl⟩ : ∃ k, g = k + 1 := ⟨g - 1, by omega⟩
 have h0 : s.err = 0 := ha
 rw [G, exprQ, if_pos h0, hd]
 by_cases h100 : 100 <= d
 ·rw [if_pos h100, if_pos h100, zcv]
  exact Fin.nil (zbr ha _ 6 (by decide)).1 (zbr ha _ 6 (by decide)).2 (by omega)
 rw [if_neg h100, if_neg h100]
 subst hd
 refine zm2 (by omega) ?_
 obtain ⟨g, rfl⟩ : ∃ k, g = k + 1 := ⟨g - 1, by omega⟩
 have ha1 : Al { s with d := s.d + 1 } := ha
 unfold innerR
 simp only [Al.on ha1]
 by_cases h1 : isT 1 zb5 s.l = true
 ·rw [if_pos h1, if_pos h1]
  obtain ⟨t, m, hl⟩ := za7 h1
  have hl1 := congrArg List.length hl
  simp only [List.length_cons] at hl1
  rw [show s.l.tail = m by rw [hl]; rfl, zcv, show ({ s with d := s.d + 1 } : RS).nx = { s with l := m, d := s.d + 1 } from za6 (s := { s with d := s.d + 1 }) hl]
  have hK : Known (exprQ (g + 1)) f (s.d + 1) m.length := H.known (by omega) (by omega) fun n hn => by omega
  have h := zju (g := g) rfl (s := { s with l := m, d := s.d + 1 }) hK ha rfl (by simp only; omega) s.pk.p
  exact Sim.mono h (by simp only; omega)
 rw [if_neg h1, if_neg h1]
 by_cases h2 : isT 1 zcf s.l = true
 ·rw [if_pos h2, if_pos h2]
  obtain ⟨t, m, hl⟩ := za7 h2
  have hl1 := congrArg List.length hl
  simp only [List.length_cons] at hl1
  rw [show s.l.tail = m by rw [hl]; rfl, zcv, show ({ s with d := s.d + 1 } : RS).nx = { s with l := m, d := s.d + 1 } from za6 (s := { s with d := s.d + 1 }) hl]
  unfold bindR
  have ha2 : Al { s with l := m, d := s.d + 1 } := ha
  rw [Al.on ha2]
  simp only
  by_cases h3 : isT 1 zdw m = true
  ·rw [if_pos h3, if_pos h3]
   obtain ⟨t2, m2, hl2⟩ := za7 h3
   have hl3 := congrArg List.length hl2
   simp only [List.length_cons] at hl3
   rw [show m.tail = m2 by rw [hl2]; rfl, show ({ s with l := m, d := s.d + 1 } : RS).nx = { s with l := m2, d := s.d + 1 } from za6 (s := { s with l := m, d := s.d + 1 }) hl2]
   have hK : Known (exprQ (g + 1)) f (s.d + 1) m2.length := H.known (by omega) (by omega) fun n hn => by omega
   have h := zjy (g := g) rfl (s := { s with l := m2, d := s.d + 1 }) hK ha rfl (by simp only; omega) s.pk.p
   exact Sim.mono h (by simp only; omega)
  ·rw [if_neg h3, if_neg h3]
   have hK : Known (exprQ (g + 1)) f (s.d + 1) m.length := H.known (by omega) (by omega) fun n hn => by omega
   have h := zjz (g := g) rfl (s := { s with l := m, d := s.d + 1 }) hK ha rfl (by simp only; omega) s.pk.p
   exact Sim.mono h (by simp only; omega)
 rw [if_neg h2, if_neg h2]
 by_cases h3 : isT 1 w_if s.l = true
 ·rw [if_pos h3, if_pos h3]
  obtain ⟨t, m, hl⟩ := za7 h3
  have hl1 := congrArg List.length hl
  simp only [List.length_cons] at hl1
  rw [show s.l.tail = m by rw [hl]; rfl, zcv, show ({ s with d := s.d + 1 } : RS).nx = { s with l := m, d := s.d + 1 } from za6 (s := { s with d := s.d + 1 }) hl]
  have hK : Known (exprQ (g + 1)) f (s.d + 1) (m.length + 1) := H.known (by omega) (by omega) fun n hn => by omega
  have h := zp2 (g := g) rfl (s := { s with l := m, d := s.d + 1 }) hK ha rfl (by simp only; omega) s.pk.p
  exact Sim.mono h (by simp only; omega)
 rw [if_neg h3, if_neg h3]
 exact H.cmp (g + 1) (s.d + 1) { s with d := s.d + 1 } ha rfl (by omega) (by omega) hr (by simp only; omega)
theorem zf1 : ∀ f, Rows f := by
 intro f
 induction f with
 | zero => constructor <;> intros <;> omega
 | succ f H =>
  have hprod : ∀ g d L, d <= 100 -> 101 <= g + d -> (∀ n, n < L -> 8 * n + 4 <= f) -> KnownR .prod (prodR (exprQ g)) f d L := fun g d L hd2 hg hL s ha hd hl hr => H.prod g d s ha hd hd2 hg hr (hL _ hl)
  have happ : ∀ g d L, d <= 100 -> 101 <= g + d -> (∀ n, n < L -> 8 * n + 3 <= f) -> KnownR .app (appR (exprQ g)) f d L := fun g d L hd2 hg hL s ha hd hl hr => H.app g d s ha hd hd2 hg hr (hL _ hl)
  have hpost : ∀ g d L, d <= 100 -> 101 <= g + d -> (∀ n, n < L -> 8 * n + 2 <= f) -> KnownR .post (postR (exprQ g)) f d L := fun g d L hd2 hg hL s ha hd hl hr => H.post g d s ha hd hd2 hg hr (hL _ hl)
  constructor
  ·intro g d s ha hd hd2 hg hr hf
   exact zhf H g d s ha hd hd2 hg hr hf
  ·intro g d s ha hd hd2 hg hr hf
   rw [G]
   unfold cmpR
   have h := H.sum g d s ha hd hd2 hg hr (by omega)
   rcases Sim.two (R := .sum) trivial trivial h with ⟨a, l, hG, ho, hin, hbr, hlen, hsz, hll⟩ | ⟨e, q, hG, hF⟩
   ·rw [hG, ho]
    simp only [eats, base] at hsz hll
    simp only [Rs.go, Option.bind_some]
    rw [if_pos (show s.err = 0 from ha)]
    rcases zt0 cmpOps { s with l := l } with ⟨h1, h2⟩ | ⟨t, m, o, hl, h1, h2⟩
    ·simp only at h2
     rw [h2, h1]
     rfl
    ·simp only at h2 hl
     have hl1 := congrArg List.length hl
     simp only [List.length_cons] at hl1
     rw [h2, h1]
     simp only
     rw [show l.tail = m by rw [hl]; rfl, zcc hl, show ({ s with l := l } : RS).nx = { s with l := m } from za6 hl, show ({ s with l := l } : RS).pk = t from zby hl]
     have h := H.sum g d { s with l := m } ha hd hd2 hg (by simp only; omega) (by simp only; omega)
     rcases Sim.two (R := .sum) trivial trivial h with ⟨b, l2, hG2, ho2, hin2, hbr2, hlen2, hsz2, hll2⟩ | ⟨e, q, hG2, hF⟩
     ·rw [hG2, ho2]
      simp only [eats, base] at hsz2 hll2
      simp only [Option.bind_some, Sim]
      rw [zch (jok2 rfl rfl hin hbr hin2 hbr2 (by omega))]
     ·rw [hG2]
      exact hF.bind fun b s' hD hd' gb => Fin.j2 hD hd' rfl rfl ⟨hin, hbr, lrf _⟩ gb (by simp only; omega) (by omega)
   ·rw [hG]
    refine hF.bind fun a s' hD hd' ga => ?_
    simp only
    rw [if_neg hD.ne]
    exact Fin.ret hD hd' ga
  ·intro g d s ha hd hd2 hg hr hf
   rw [G]
   exact zdo (R := .prod) Pr.sumL trivial trivial rfl rfl (W := loopR sumOps (prodR (exprQ g))) (fun s e p n a hD => by rw [loopR, if_neg hD.ne]) (H.prod g d s ha hd hd2 hg hr (by omega)) ha hd
    fun s' A n ha' hd' _ hA oA bA hn hl => Sim.mono (H.sumL g d s' A n ha' hd' hd2 hg (by omega) (by omega) oA bA hn (by omega)) (by omega)
  ·intro g d s ha hd hd2 hg hr hf
   rw [G]
   exact zdo (R := .app) Pr.prodL trivial trivial rfl rfl (W := loopR prodOps (appR (exprQ g))) (fun s e p n a hD => by rw [loopR, if_neg hD.ne]) (H.app g d s ha hd hd2 hg hr (by omega)) ha hd
    fun s' A n ha' hd' _ hA oA bA hn hl => Sim.mono (H.prodL g d s' A n ha' hd' hd2 hg (by omega) (by omega) oA bA hn (by omega)) (by omega)
  ·intro g d s ha hd hd2 hg hr hf
   rw [G]
   unfold appR
   rw [if_pos (show s.err = 0 from ha)]
   by_cases hk : kindT 3 s.l = true
   ·rw [if_pos hk]
    obtain ⟨t, m, hl⟩ : ∃ t m, s.l = t :: m := by
     cases h : s.l with
     | nil => rw [h] at hk; cases hk
     | cons t m => exact ⟨t, m, rfl⟩
    have hl1 := congrArg List.length hl
    simp only [List.length_cons] at hl1
    have hk3 : t.k = 3 := by rw [hl] at hk; simpa [kindT] using hk
    rw [zby hl, if_pos hk3, zcc hl, za6 hl, hl]
    simp only [textT]
    rw [if_pos hk3]
    have h := H.post g d { s with l := m } ha hd hd2 hg (by simp only; omega) (by simp only; omega)
    rcases Sim.two (R := .post) trivial trivial h with ⟨b, l, hG, ho, hin, hbr, hlen, hsz, hll⟩ | ⟨e, q, hG, hF⟩
    ·rw [hG, ho]
     simp only [eats, base] at hsz hll
     simp only [Rs.go, Option.bind_some, Sim]
     rw [zch (jok1 rfl rfl hin hbr (by omega))]
    ·rw [hG]
     exact hF.bind fun a s' hD hd' ga => Fin.j1 hD hd' rfl rfl ga (by simp only [List.length_cons]; omega) (by simp only [List.length_cons]; omega)
   ·rw [if_neg hk]
    have hk3 : ¬ s.pk.k = 3 := by
     intro h
     cases hl : s.l with
     | nil => rw [zpd hl] at h; cases h
     | cons t m => rw [zby hl] at h; rw [hl] at hk; exact hk (by simpa [kindT] using h)
    rw [if_neg hk3]
    exact zdo (R := .post) Pr.appL trivial trivial rfl rfl (W := appL (postR (exprQ g))) (fun s e p n a hD => by rw [appL, decide_eq_false hD.ne, Bool.false_and]; rfl) (H.post g d s ha hd hd2 hg hr (by omega)) ha hd
     fun s' A n ha' hd' _ hA oA bA hn hl => Sim.mono (H.appL g d s' A n ha' hd' hd2 hg (by omega) (by omega) oA bA hn (by omega)) (by omega)
  ·intro g d s ha hd hd2 hg hr hf
   rw [G]
   exact zdo (R := .atom) Pr.postL trivial trivial rfl rfl (W := postL) (fun s e p n a hD => by rw [postL, hD.on]; rfl) (H.atom g d s ha hd hd2 hg hr (by omega)) ha hd
    fun s' A n ha' hd' _ hA oA bA hn hl => Sim.mono (H.postL d s' A n ha' hd' (by omega) (by omega) oA bA hn (by omega)) (by omega)
  ·intro g d s ha hd hd2 hg hr hf
   obtain ⟨g, rfl⟩ : ∃ k, g = k + 1 := ⟨g - 1, by omega⟩
   refine zhz (g := g) rfl (H.known hd2 hg fun n hn => by omega) (fun s' p ha' hd' _ hr' hl => ?_) (fun s' a p ha' hd' _ hr' hA oA bA hl => ?_) ha hd hr
   ·exact Sim.mono (H.recL (g + 1) d p s' [] [] _ ha' hd' hd2 hg (by omega) hr' (by simp; omega) rfl (by simp) (by simp) (by omega) (by omega)) (by simp)
   ·exact Sim.mono (H.casL (g + 1) d p s' [] [a] _ ha' hd' hd2 hg (by omega) hr' (by simpa using hA) rfl (by simp) (by simp [oA, bA]) (by omega) (by omega)) (by simp)
  ·intro g d s A n ha hd hd2 hg hr hA oA bA hn hf
   exact zet (R := .prod) Pr.sumL trivial trivial rfl rfl (fun E f A d l => by rw [G]; cases opOf sumOps l <;> rfl) (fun s A n h1 h2 h3 h4 h5 h6 h7 h8 => H.sumL g d s A n h1 h2 hd2 hg h3 h4 h5 h6 h7 h8) (hprod g d _ hd2 hg fun n hn => by omega) ha hd hr hA oA bA hn hf
  ·intro g d s A n ha hd hd2 hg hr hA oA bA hn hf
   exact zet (R := .app) Pr.prodL trivial trivial rfl rfl (fun E f A d l => by rw [G]; cases opOf prodOps l <;> rfl) (fun s A n h1 h2 h3 h4 h5 h6 h7 h8 => H.prodL g d s A n h1 h2 hd2 hg h3 h4 h5 h6 h7 h8) (happ g d _ hd2 hg fun n hn => by omega) ha hd hr hA oA bA hn hf
  ·intro g d s A n ha hd hd2 hg hr hA oA bA hn hf
   exact zhc (hpost g d _ hd2 hg fun n hn => by omega) (fun s A n h1 h2 h3 h4 h5 h6 h7 h8 => H.appL g d s A n h1 h2 hd2 hg h3 h4 h5 h6 h7 h8) ha hd hr hA oA bA hn hf
  ·intro d s A n ha hd hr hA oA bA hn hf
   exact zf7 (fun s A n h1 h2 h3 h4 h5 h6 h7 h8 => H.postL d s A n h1 h2 h3 h4 h5 h6 h7 h8) ha hd hr hA oA bA hn hf
  ·intro g d p s fs ts n ha hd hd2 hg hg1 hr hS htl h30 hts hn hf
   obtain ⟨g, rfl⟩ : ∃ k, g = k + 1 := ⟨g - 1, by omega⟩
   exact zhx (g := g) rfl (H.known hd2 hg fun n hn => by omega) (fun s fs ts n h1 h2 h3 h4 h5 h6 h7 h8 h9 => H.recL (g + 1) d p s fs ts n h1 h2 hd2 hg hg1 h3 h4 h5 h6 h7 h8 h9) ha hd hr hS htl h30 hts hn hf
  ·intro g d p s fs ts n ha hd hd2 hg hg1 hr hS htl h30 hts hn hf
   obtain ⟨g, rfl⟩ : ∃ k, g = k + 1 := ⟨g - 1, by omega⟩
   exact zhy (g := g) rfl (H.known hd2 hg fun n hn => by omega) (fun s fs ts n h1 h2 h3 h4 h5 h6 h7 h8 h9 => H.casL (g + 1) d p s fs ts n h1 h2 hd2 hg hg1 h3 h4 h5 h6 h7 h8 h9) ha hd hr hS htl h30 hts hn hf
end Go.Proofs.YtjakeidbajkdcaaGreatDoor.B
