/- Joined by program. -/
import Derived.Test.YtjakeidbajkdcaaGreatDoorH32
set_option maxHeartbeats 1000000
namespace Go.Proofs.YtjakeidbajkdcaaGreatDoor.A
open T
section
variable {X : PS -> Ans} {f d g m0 : Nat} {s : PS} {e p : Int}
theorem Dd.x_add (h : Dd s e p) (hX : X = exprP (g + 1)) (hd : s.d < 1000) (F : Nat × PS -> Nd) (hm : s.N.length + 2 <= m0) (hb : m0 <= 999999) : Fin e p m0 ((X s).bind fun r => r.2.add (F r)) := by
  rw [h.xx hX hd (by omega)]
  exact Fin.add h.d1 _ (by rw [D1_len]; omega) hb
theorem Dd.in_ (h : Dd s e p) (hX : X = exprP (g + 1)) (hd : s.d < 1000) (F : Nat × PS -> Nd) (hm : s.N.length + 2 <= m0) (hb : m0 <= 999999) : Fin e p m0 ((X (s.must 1 w_in)).bind fun r => r.2.add (F r)) := by
  rw [h.must]; exact h.x_add hX hd F hm hb
theorem let_sim (hX : X = exprP (g + 1)) (hK : Known X f d s.l.length) (ha : Al s) (hd : s.d = d) (hd2 : d <= 100) (hr : fi s + 100 <= 900000) (p : Int) :
    Sim s.N s (fi s + 4) (textT s.E 2 s.l fun x l1 => T.must s.E 7 s_eqs l1 fun l2 => (G s.E f .expr d l2).go fun a l3 => T.must s.E 1 w_in l3 fun l4 => (G s.E f .expr d l4).go fun b l5 => .ok (joinN { mk 7 p with nm := x } [a, b]) l5) (bindK X p 7 s) := by
  unfold fi at hr
  unfold bindK fi
  simp only [show ¬ ((7 : Int) = 8) by decide, if_false]
  have hkd : Kd X := by rw [hX]; exact expr_d _
  rcases txt_cases ha (k := 2) (by decide) with ⟨t, m, hl, e1, e2⟩ | ⟨q, x, s', e1, h2, h3, h4, e2⟩
  · rw [e2, e1]
    simp only
    have hl1 := congrArg List.length hl
    simp only [List.length_cons] at hl1
    have ha1 : Al { s with l := m } := ha
    rcases must_cases ha1 7 s_eqs with ⟨t2, m2, hl2, e3, e4⟩ | ⟨q, s', e3, h2, h3, h4, e4⟩
    · rw [e4, e3]
      simp only at hl2
      have hl3 := congrArg List.length hl2
      simp only [List.length_cons] at hl3
      have h := hK { s with l := m2 } ha hd (by simp only; omega) (by unfold fi; simp only; omega)
      rcases Sim.two (R := .expr) trivial trivial h with ⟨a, l, hG, ho, hin, hlen, hsz, hll⟩ | ⟨e, q, hG, hF⟩
      · rw [hG, ho]
        simp only [eats, base] at hsz hll
        simp only [Rs.go, Option.bind_some]
        have ha2 : Al { s with l := l, N := lay s.N a } := ha
        rcases must_cases ha2 1 w_in with ⟨t3, m3, hl4, e5, e6⟩ | ⟨q, s', e5, h2, h3, h4, e6⟩
        · rw [e6, e5]
          simp only at hl4
          have hl5 := congrArg List.length hl4
          simp only [List.length_cons] at hl5
          have h := hK { s with l := m3, N := lay s.N a } ha hd (by simp only; omega) (by unfold fi; simp only [lay_len]; omega)
          rcases Sim.two (R := .expr) trivial trivial h with ⟨b, l', hG2, ho2, hin2, hlen2, hsz2, hll2⟩ | ⟨e, q, hG2, hF⟩
          · rw [hG2, ho2]
            simp only [eats, base] at hsz2 hll2
            simp only [Option.bind_some, Sim]
            rw [add_some (by simp only [lay_len]; omega), lay2 _ _ _ _ rfl, List.length_append]
            simp only [List.length_singleton, Nat.add_sub_cancel]
            congr 3
            · rw [cast_pred (by rw [lay_len]; omega), cast_pred (by rw [lay_len]; omega)]; rfl
          · rw [hG2]
            refine hF.bind fun a' s' ho hD haN hN => Fin.add hD _ ?_ (by omega)
            unfold fi at hN
            simp only [lay_len] at hN
            omega
        · rw [e6, e5]
          refine h2.x_add hX (by rw [h4]; simp only; omega) _ ?_ (by omega)
          rw [h3]
          simp only [lay_len]
          omega
      · rw [hG]
        refine hF.bind fun a s' ho hD haN hN => ?_
        have hd' : s'.d < 1000 := by have := hkd _ _ ho; simp only at this; omega
        unfold fi at hN
        simp only at hN
        exact hD.in_ hX hd' _ (by omega) (by omega)
    · rw [e4, e3]
      have hd' : s'.d < 1000 := by rw [h4]; simp only; omega
      rw [h2.xx hX hd' (by rw [h3]; simp only; omega)]
      simp only [Option.bind_some]
      exact h2.d1.in_ hX hd' _ (by rw [D1_len, h3]; simp only; omega) (by omega)
  · rw [e2, e1]
    simp only
    rw [h2.must, h2.xx hX (by rw [h4]; omega) (by rw [h3]; omega)]
    simp only [Option.bind_some]
    exact h2.d1.in_ hX (by show s'.d < 1000; rw [h4]; omega) _ (by rw [D1_len, h3]; omega) (by omega)
theorem Dd.rec_ (h : Dd s e p) (hX : X = exprP (g + 1)) (hd : s.d < 1000) {a : Nat} (haN : a < s.N.length) (q pl : Int) (nm : ByteArray) (hm : s.N.length + 2 <= m0) (hb : m0 <= 999999) :
    Fin e p m0 (match s.N[a]? with
      | none => none
      | some x => (X ((if x.kind = 5 then s else s.no pl 5).must 1 w_in)).bind fun r => r.2.add { mk 8 q with nm := nm, a := a, b := r.1 }) := by
  rw [List.getElem?_eq_getElem haN]
  simp only
  rw [h.no]
  simp only [ite_self]
  exact h.in_ hX hd _ hm hb
theorem rec_sim (hX : X = exprP (g + 1)) (hK : Known X f d s.l.length) (ha : Al s) (hd : s.d = d) (hd2 : d <= 100) (hr : fi s + 100 <= 900000) (p : Int) :
    Sim s.N s (fi s + 4) (textT s.E 2 s.l fun x l1 => T.must s.E 7 s_eqs l1 fun l2 => (G s.E f .expr d l2).go fun a l3 => if lastK a = 5 then T.must s.E 1 w_in l3 fun l4 => (G s.E f .expr d l4).go fun b l5 => .ok (joinN { mk 8 p with nm := x } [a, b]) l5 else .bad 5 (plc s.E l2)) (bindK X p 8 s) := by
  unfold fi at hr
  unfold bindK fi
  simp only [if_true]
  have hkd : Kd X := by rw [hX]; exact expr_d _
  rcases txt_cases ha (k := 2) (by decide) with ⟨t, m, hl, e1, e2⟩ | ⟨q, x, s', e1, h2, h3, h4, e2⟩
  · rw [e2, e1]
    simp only
    have hl1 := congrArg List.length hl
    simp only [List.length_cons] at hl1
    have ha1 : Al { s with l := m } := ha
    rcases must_cases ha1 7 s_eqs with ⟨t2, m2, hl2, e3, e4⟩ | ⟨q, s', e3, h2, h3, h4, e4⟩
    · rw [e4, e3]
      simp only at hl2
      have hl3 := congrArg List.length hl2
      simp only [List.length_cons] at hl3
      have h := hK { s with l := m2 } ha hd (by simp only; omega) (by unfold fi; simp only; omega)
      rcases Sim.two (R := .expr) trivial trivial h with ⟨a, l, hG, ho, hin, hlen, hsz, hll⟩ | ⟨e, q, hG, hF⟩
      · rw [hG, ho]
        simp only [eats, base] at hsz hll
        simp only [Rs.go, Option.bind_some]
        obtain ⟨y, hy, hyk, _⟩ := lay_last s.N (a := a) (by intro h0; rw [h0] at hlen; simp at hlen)
        rw [hy]
        simp only [hyk]
        by_cases hk5 : lastK a = 5
        · rw [if_pos hk5, if_pos hk5]
          have ha2 : Al { s with l := l, N := lay s.N a } := ha
          rcases must_cases ha2 1 w_in with ⟨t3, m3, hl4, e5, e6⟩ | ⟨q, s', e5, h2, h3, h4, e6⟩
          · rw [e6, e5]
            simp only at hl4
            have hl5 := congrArg List.length hl4
            simp only [List.length_cons] at hl5
            have h := hK { s with l := m3, N := lay s.N a } ha hd (by simp only; omega) (by unfold fi; simp only [lay_len]; omega)
            rcases Sim.two (R := .expr) trivial trivial h with ⟨b, l', hG2, ho2, hin2, hlen2, hsz2, hll2⟩ | ⟨e, q, hG2, hF⟩
            · rw [hG2, ho2]
              simp only [eats, base] at hsz2 hll2
              simp only [Option.bind_some, Sim]
              rw [add_some (by simp only [lay_len]; omega), lay2 _ _ _ _ rfl, List.length_append]
              simp only [List.length_singleton, Nat.add_sub_cancel]
              congr 3
              · rw [cast_pred (by rw [lay_len]; omega), cast_pred (by rw [lay_len]; omega)]; rfl
            · rw [hG2]
              refine hF.bind fun a' s' ho hD haN hN => Fin.add hD _ ?_ (by omega)
              unfold fi at hN
              simp only [lay_len] at hN
              omega
          · rw [e6, e5]
            refine h2.x_add hX (by rw [h4]; simp only; omega) _ ?_ (by omega)
            rw [h3]
            simp only [lay_len]
            omega
        · rw [if_neg hk5, if_neg hk5]
          have ha2 : Al { s with l := l, N := lay s.N a } := ha
          obtain ⟨n1, n2, n3⟩ := no_dd ha2 ({ s with l := m2 } : PS).pk.p 5 (by decide)
          rw [show plc s.E m2 = ({ s with l := m2 } : PS).pk.p from plc_pk ({ s with l := m2 } : PS)]
          refine n1.in_ hX (by rw [n3]; simp only; omega) _ ?_ (by omega)
          rw [n2]
          simp only [lay_len]
          omega
      · rw [hG]
        refine hF.bind fun a s' ho hD haN hN => ?_
        have hd' : s'.d < 1000 := by have := hkd _ _ ho; simp only at this; omega
        unfold fi at hN
        simp only at hN
        exact hD.rec_ hX hd' haN _ _ _ (by omega) (by omega)
    · rw [e4, e3]
      have hd' : s'.d < 1000 := by rw [h4]; simp only; omega
      rw [h2.xx hX hd' (by rw [h3]; simp only; omega)]
      simp only [Option.bind_some]
      exact h2.d1.rec_ hX hd' (by rw [D1_len]; omega) _ _ _ (by rw [D1_len, h3]; simp only; omega) (by omega)
  · rw [e2, e1]
    simp only
    rw [h2.must, h2.xx hX (by rw [h4]; omega) (by rw [h3]; omega)]
    simp only [Option.bind_some]
    exact h2.d1.rec_ hX (by show s'.d < 1000; rw [h4]; omega) (by rw [D1_len]; omega) _ _ _ (by rw [D1_len, h3]; omega) (by omega)
theorem Dd.else_ (h : Dd s e p) (hX : X = exprP (g + 1)) (hd : s.d < 1000) (F : Nat × PS -> Nd) (hm : s.N.length + 2 <= m0) (hb : m0 <= 999999) : Fin e p m0 ((X (s.must 1 w_else)).bind fun r => r.2.add (F r)) := by
  rw [h.must]; exact h.x_add hX hd F hm hb
theorem Dd.then_ (h : Dd s e p) (hX : X = exprP (g + 1)) (hd : s.d < 1000) (F : Nat × PS -> Nat × PS -> Nd) (hm : s.N.length + 3 <= m0) (hb : m0 <= 999999) : Fin e p m0 ((X (s.must 1 w_then)).bind fun q => (X (q.2.must 1 w_else)).bind fun r => r.2.add (F q r)) := by
  rw [h.must, h.xx hX hd (by omega)]
  simp only [Option.bind_some]
  exact h.d1.else_ hX hd _ (by rw [D1_len]; omega) hb
theorem if_sim (hX : X = exprP (g + 1)) (hK : Known X f d (s.l.length + 1)) (ha : Al s) (hd : s.d = d) (hd2 : d <= 100) (hr : fi s + 100 <= 900000) (p : Int) :
    Sim s.N s (fi s + 8) ((G s.E f .expr d s.l).go fun a l1 => T.must s.E 1 w_then l1 fun l2 => (G s.E f .expr d l2).go fun b l3 => T.must s.E 1 w_else l3 fun l4 => (G s.E f .expr d l4).go fun c l5 => .ok (joinN (mk 9 p) [a, b, c]) l5) (ifP X p s) := by
  unfold fi at hr
  unfold ifP fi
  have hkd : Kd X := by rw [hX]; exact expr_d _
  have h := hK s ha hd (by omega) (by unfold fi; omega)
  rcases Sim.two (R := .expr) trivial trivial h with ⟨a, l, hG, ho, hin, hlen, hsz, hll⟩ | ⟨e, q, hG, hF⟩
  · rw [hG, ho]
    simp only [eats, base] at hsz hll
    simp only [Rs.go, Option.bind_some]
    have ha2 : Al { s with l := l, N := lay s.N a } := ha
    rcases must_cases ha2 1 w_then with ⟨t3, m3, hl4, e5, e6⟩ | ⟨q, s', e5, h2, h3, h4, e6⟩
    · rw [e6, e5]
      simp only at hl4
      have hl5 := congrArg List.length hl4
      simp only [List.length_cons] at hl5
      have h := hK { s with l := m3, N := lay s.N a } ha hd (by simp only; omega) (by unfold fi; simp only [lay_len]; omega)
      rcases Sim.two (R := .expr) trivial trivial h with ⟨b, l', hG2, ho2, hin2, hlen2, hsz2, hll2⟩ | ⟨e, q, hG2, hF⟩
      · rw [hG2, ho2]
        simp only [eats, base] at hsz2 hll2
        simp only [Option.bind_some]
        have ha3 : Al { s with l := l', N := lay (lay s.N a) b } := ha
        rcases must_cases ha3 1 w_else with ⟨t5, m5, hl6, e7, e8⟩ | ⟨q, s', e7, h2, h3, h4, e8⟩
        · rw [e8, e7]
          simp only at hl6
          have hl7 := congrArg List.length hl6
          simp only [List.length_cons] at hl7
          have h := hK { s with l := m5, N := lay (lay s.N a) b } ha hd (by simp only; omega) (by unfold fi; simp only [lay_len]; omega)
          rcases Sim.two (R := .expr) trivial trivial h with ⟨c, l9, hG3, ho3, hin3, hlen3, hsz3, hll3⟩ | ⟨e, q, hG3, hF⟩
          · rw [hG3, ho3]
            simp only [eats, base] at hsz3 hll3
            simp only [Option.bind_some, Sim]
            rw [add_some (by simp only [lay_len]; omega), lay3 _ _ _ _ _ rfl, List.length_append]
            simp only [List.length_singleton, Nat.add_sub_cancel]
            congr 3
            · rw [cast_pred (by rw [lay_len]; omega), cast_pred (by rw [lay_len]; omega), cast_pred (by rw [lay_len]; omega)]; rfl
          · rw [hG3]
            refine hF.bind fun a' s' ho hD haN hN => Fin.add hD _ ?_ (by omega)
            unfold fi at hN
            simp only [lay_len] at hN
            omega
        · rw [e8, e7]
          refine h2.x_add hX (by rw [h4]; simp only; omega) _ ?_ (by omega)
          rw [h3]
          simp only [lay_len]
          omega
      · rw [hG2]
        refine hF.bind fun a' s' ho hD haN hN => ?_
        have hd' : s'.d < 1000 := by have := hkd _ _ ho; simp only at this; omega
        unfold fi at hN
        simp only [lay_len] at hN
        exact hD.else_ hX hd' _ (by omega) (by omega)
    · rw [e6, e5]
      have hd' : s'.d < 1000 := by rw [h4]; simp only; omega
      rw [h2.xx hX hd' (by rw [h3]; simp only [lay_len]; omega)]
      simp only [Option.bind_some]
      refine h2.d1.else_ hX hd' _ ?_ (by omega)
      rw [D1_len, h3]
      simp only [lay_len]
      omega
  · rw [hG]
    refine hF.bind fun a s' ho hD haN hN => ?_
    have hd' : s'.d < 1000 := by have := hkd _ _ ho; simp only at this; omega
    unfold fi at hN
    exact hD.then_ hX hd' _ (by omega) (by omega)
end
open T
def OpRel (O : List (List UInt8 × Int)) (o : List (List UInt8)) : Prop := ∀ s : PS, (anyOf o s = false /\ opOf O s.l = none) ∨ ∃ t m, s.l = t :: m /\ anyOf o s = true /\ opOf O s.l = some (prim t.s)
theorem opRel_of {O : List (List UInt8 × Int)} {o : List (List UInt8)} (h1 : O.map Prod.fst = o) (h2 : ∀ q ∈ O, ∀ x : ByteArray, x.toList = q.1 -> prim x = q.2) : OpRel O o := by
  intro s
  subst h1
  unfold anyOf PS.is opOf
  cases hl : s.l with
  | nil => exact .inl ⟨by simp [isT], rfl⟩
  | cons t m =>
    simp only
    by_cases hk : t.k = 7
    · rw [if_pos hk]
      cases hf : O.find? fun q => t.s.toList == q.1 with
      | none =>
        refine .inl ⟨?_, rfl⟩
        rw [List.any_eq_false]
        intro q hq
        rw [List.mem_map] at hq
        obtain ⟨r, hr, rfl⟩ := hq
        have := (List.find?_eq_none.1 hf) r hr
        simpa [isT, hk] using this
      | some r =>
        refine .inr ⟨t, m, rfl, ?_, ?_⟩
        · rw [List.any_eq_true]
          have := List.find?_some hf
          exact ⟨r.1, List.mem_map_of_mem (List.mem_of_find?_eq_some hf), by simpa [isT, hk] using this⟩
        · have h3 := List.find?_some hf
          simp only [beq_iff_eq] at h3
          rw [h2 r (List.mem_of_find?_eq_some hf) t.s h3]; rfl
    · rw [if_neg hk]
      refine .inl ⟨?_, rfl⟩
      rw [List.any_eq_false]
      intro q _
      simp [isT, hk]
theorem rel_prod : OpRel prodOps o_prod := opRel_of rfl (by
  intro q hq x hx
  simp only [prodOps, List.mem_cons, List.mem_nil_iff, or_false] at hq
  rcases hq with rfl | rfl <;> simp [prim, hx])
theorem rel_sum : OpRel sumOps o_sum := opRel_of rfl (by
  intro q hq x hx
  simp only [sumOps, List.mem_cons, List.mem_nil_iff, or_false] at hq
  rcases hq with rfl | rfl | rfl <;> simp [prim, hx])
theorem rel_cmp : OpRel cmpOps o_cmp := opRel_of rfl (by
  intro q hq x hx
  simp only [cmpOps, List.mem_cons, List.mem_nil_iff, or_false] at hq
  rcases hq with rfl | rfl <;> simp [prim, hx])
def KnownR (R : Pr) (Y : PS -> Ans) (f d L : Nat) : Prop := ∀ s, Al s -> s.d = d -> s.l.length < L -> fi s + 100 <= 900000 -> Sim s.N s (fi s + 4) (G s.E f R d s.l) (Y s)
section
variable {Y : PS -> Ans} {f d m0 : Nat} {s : PS} {e p : Int} {N0 A : List Nd}
theorem pk_cons {t : Tk} {m : List Tk} (h : s.l = t :: m) : s.pk = t := by unfold PS.pk; rw [h]
theorem nx_cons {t : Tk} {m : List Tk} (h : s.l = t :: m) : s.nx = { s with l := m } := by unfold PS.nx; rw [h]; rfl
theorem plc_cons {E : Int} {t : Tk} {m l : List Tk} (h : l = t :: m) : plc E l = t.p := by rw [h]; rfl
theorem op_sim {R : Pr} (hfit : fit R) (hfs : fitS R) (hea : eats R = 1) (hba : base R = 0) (hK : KnownR R Y f d s.l.length) (ha : Al s) (hd : s.d = d) (hr : fi s + 100 <= 900000) (hN : s.N = lay N0 A) (hA : 1 <= A.length) {t : Tk} {m : List Tk} (hl : s.l = t :: m) (n : Int) (hn : prim t.s = n) :
    (∃ b l2, G s.E f R d m = .ok b l2 /\ 1 <= b.length /\ b.length + 1 + 2 * l2.length <= 2 * m.length /\ l2.length + 1 <= m.length /\ opP Y (s.N.length - 1) s = some ((lay N0 (joinN { mk 10 t.p with n := n } [A, b])).length - 1, { s with l := l2, N := lay N0 (joinN { mk 10 t.p with n := n } [A, b]) })) ∨
    ∃ e q, G s.E f R d m = .bad e q /\ Fin e q (fi s + 2) (opP Y (s.N.length - 1) s) := by
  have hl1 := congrArg List.length hl
  simp only [List.length_cons] at hl1
  unfold fi at hr
  unfold opP
  rw [nx_cons hl, pk_cons hl]
  have h := hK { s with l := m } ha hd (by simp only; omega) (by unfold fi; simp only; omega)
  rcases Sim.two hfit hfs h with ⟨b, l, hG, ho, hin, hlen, hsz, hll⟩ | ⟨e, q, hG, hF⟩
  · rw [hea, hba] at hsz
    rw [hea] at hll
    refine .inl ⟨b, l, hG, hlen, by simp only at hsz; omega, by simp only at hll; omega, ?_⟩
    rw [ho]
    simp only at hsz hll
    simp only [Option.bind_some]
    rw [add_some (by simp only [lay_len]; omega), lay2 _ _ _ _ rfl, List.length_append]
    simp only [List.length_singleton, Nat.add_sub_cancel]
    have hNl : s.N.length = N0.length + A.length := by rw [hN, lay_len]
    congr 3
    · rw [hN]
    · rw [hN]
      congr 2
      rw [cast_pred (by rw [lay_len]; omega), cast_pred (by rw [lay_len, lay_len]; omega), hn]; rfl
  · refine .inr ⟨e, q, hG, hF.bind fun a' s' ho hD haN hN => Fin.add hD _ ?_ ?_⟩
    · unfold fi at hN ⊢
      simp only at hN
      omega
    · unfold fi; omega
theorem loop_sim {R : Pr} {O : List (List UInt8 × Int)} {o : List (List UInt8)} (hO : OpRel O o) (L : List Nd -> Pr) (hfit : fit R) (hfs : fitS R) (hea : eats R = 1) (hba : base R = 0)
    (hGL : ∀ E f A d l, G E (f + 1) (L A) d l = match opOf O l with
      | none => .ok A l
      | some n => (G E f R d l.tail).go fun b l2 => G E f (L (joinN { mk 10 (plc E l) with n := n } [A, b])) d l2)
    (hRec : ∀ (s : PS) (A : List Nd) (n : Nat), Al s -> s.d = d -> fi s + 100 <= 900000 -> s.N = lay N0 A -> 1 <= A.length -> s.l.length < n -> 8 * s.l.length + 1 <= f -> Sim N0 s (fi s + 4) (G s.E f (L A) d s.l) (loopP o Y n (s.N.length - 1) s))
    (hK : KnownR R Y f d s.l.length) (ha : Al s) (hd : s.d = d) (hr : fi s + 100 <= 900000) (hN : s.N = lay N0 A) (hA : 1 <= A.length) {n : Nat} (hn : s.l.length < n) (hf : 8 * s.l.length + 1 <= f + 1) :
    Sim N0 s (fi s + 4) (G s.E (f + 1) (L A) d s.l) (loopP o Y n (s.N.length - 1) s) := by
  obtain ⟨n, rfl⟩ : ∃ k, n = k + 1 := ⟨n - 1, by omega⟩
  rw [hGL, loopP]
  rcases hO s with ⟨h1, h2⟩ | ⟨t, m, hl, h1, h2⟩
  · rw [h2, if_neg (by rw [h1]; decide)]
    simp only [Sim]
    rw [<- hN]
  · rw [h2, if_pos h1]
    simp only
    have hl1 := congrArg List.length hl
    simp only [List.length_cons] at hl1
    rw [show s.l.tail = m by rw [hl]; rfl, plc_cons hl]
    rcases op_sim hfit hfs hea hba hK ha hd hr hN hA hl _ rfl with ⟨b, l2, hG, hb1, hb2, hb3, ho⟩ | ⟨e, q, hG, hF⟩
    · rw [hG, ho]
      simp only [Rs.go, Option.bind_some]
      have hjl : (joinN { mk 10 t.p with n := prim t.s } [A, b]).length = A.length + b.length + 1 := jl2 _ _ _
      have hNl : s.N.length = N0.length + A.length := by rw [hN, lay_len]
      unfold fi at hr ⊢
      refine Sim.mono (hRec { s with l := l2, N := lay N0 (joinN { mk 10 t.p with n := prim t.s } [A, b]) } _ n ha hd ?_ rfl (by rw [hjl]; omega) (by simp only; omega) (by simp only; omega)) ?_
      · unfold fi
        simp only [lay_len, hjl]
        omega
      · unfold fi
        simp only [lay_len, hjl]
        omega
    · rw [hG]
      refine hF.bind fun a' s' _ hD haN hN' => ?_
      obtain ⟨n, rfl⟩ : ∃ k, n = k + 1 := ⟨n - 1, by omega⟩
      rw [loopP, hD.any]
      exact ⟨a', s', rfl, hD, haN, by omega⟩
theorem row_sim {R : Pr} (L : List Nd -> Pr) (hfit : fit R) (hfs : fitS R) (hea : eats R = 1) (hba : base R = 0) {W : Nat -> Nat -> PS -> Ans} (hW : ∀ (s : PS) (e p : Int) n a, Dd s e p -> W (n + 1) a s = some (a, s))
    (hK : Sim s.N s (fi s + 4) (G s.E f R d s.l) (Y s)) (ha : Al s) (hd : s.d = d) (_hr : fi s + 100 <= 900000)
    (hL : ∀ (s' : PS) (A : List Nd) (n : Nat), Al s' -> s'.d = d -> s'.E = s.E -> fi s' + 2 <= fi s -> s'.N = lay s.N A -> 1 <= A.length -> inOrd A -> s'.l.length < n -> s'.l.length + 1 <= s.l.length -> Sim s.N s' (fi s + 4) (G s'.E f (L A) d s'.l) (W n (s'.N.length - 1) s')) :
    Sim s.N s (fi s + 4) ((G s.E f R d s.l).go fun a l1 => G s.E f (L a) d l1) ((Y s).bind fun r => W (r.2.l.length + 1) r.1 r.2) := by
  rcases Sim.two hfit hfs hK with ⟨a, l, hG, ho, hin, hlen, hsz, hll⟩ | ⟨e, q, hG, hF⟩
  · rw [hG, ho]
    rw [hea, hba] at hsz
    rw [hea] at hll
    simp only [Rs.go, Option.bind_some]
    have hfi : fi { s with l := l, N := lay s.N a } + 2 <= fi s := by unfold fi; simp only [lay_len]; omega
    exact hL { s with l := l, N := lay s.N a } a (l.length + 1) ha hd rfl hfi rfl hlen hin (by simp) (by simp only; omega)
  · rw [hG]
    refine hF.bind fun a' s' _ hD haN hN' => ?_
    rw [hW s' e q _ _ hD]
    exact ⟨a', s', rfl, hD, haN, hN'⟩
end
open T
section
variable {X Y : PS -> Ans} {f d g m0 : Nat} {s : PS} {e p : Int} {N0 A : List Nd}
theorem postL_sim (hRec : ∀ (s : PS) (A : List Nd) (n : Nat), Al s -> s.d = d -> fi s + 100 <= 900000 -> s.N = lay N0 A -> 1 <= A.length -> s.l.length < n -> 8 * s.l.length + 1 <= f -> Sim N0 s (fi s + 4) (G s.E f (.postL A) d s.l) (postL n (s.N.length - 1) s))
    (ha : Al s) (hd : s.d = d) (hr : fi s + 100 <= 900000) (hN : s.N = lay N0 A) (hA : 1 <= A.length) {n : Nat} (hn : s.l.length < n) (hf : 8 * s.l.length + 1 <= f + 1) :
    Sim N0 s (fi s + 4) (G s.E (f + 1) (.postL A) d s.l) (postL n (s.N.length - 1) s) := by
  obtain ⟨n, rfl⟩ : ∃ k, n = k + 1 := ⟨n - 1, by omega⟩
  rw [G, postL]
  unfold PS.is
  by_cases hx : isT 7 s_dot s.l = true
  · rw [if_pos hx, if_pos hx]
    obtain ⟨t, m, hl⟩ := isT_cons hx
    have hl1 := congrArg List.length hl
    simp only [List.length_cons] at hl1
    rw [show s.l.tail = m by rw [hl]; rfl, plc_cons hl, nx_cons hl, pk_cons hl]
    have ha1 : Al { s with l := m } := ha
    have hNl : s.N.length = N0.length + A.length := by rw [hN, lay_len]
    unfold fi at hr ⊢
    rcases txt_cases ha1 (k := 2) (by decide) with ⟨t2, m2, hl2, e1, e2⟩ | ⟨q, x, s', e1, h2, h3, h4, e2⟩
    · rw [e2, e1]
      simp only at hl2
      have hl3 := congrArg List.length hl2
      simp only [List.length_cons] at hl3
      simp only
      rw [add_some (by simp only; omega)]
      simp only [Option.bind_some]
      have hjl : (joinN { mk 12 t.p with nm := t2.s } [A]).length = A.length + 1 := jl1 _ _
      have hNN : s.N ++ [{ mk 12 t.p with nm := t2.s, a := ((s.N.length - 1 : Nat) : Int) }] = lay N0 (joinN { mk 12 t.p with nm := t2.s } [A]) := by
        rw [lay1 _ _ _ rfl, hN]
        congr 2
        rw [cast_pred (by rw [lay_len]; omega)]; rfl
      have hln : (s.N ++ [({ mk 12 t.p with nm := t2.s, a := ((s.N.length - 1 : Nat) : Int) } : Nd)]).length - 1 = s.N.length := by simp
      refine Sim.mono (m := fi { s with l := m2, N := s.N ++ [{ mk 12 t.p with nm := t2.s, a := ((s.N.length - 1 : Nat) : Int) }] } + 4) ?_ (by unfold fi; simp only [List.length_append, List.length_singleton]; omega)
      have h := hRec { s with l := m2, N := s.N ++ [{ mk 12 t.p with nm := t2.s, a := ((s.N.length - 1 : Nat) : Int) }] } (joinN { mk 12 t.p with nm := t2.s } [A]) n ha hd (by unfold fi; simp only [List.length_append, List.length_singleton]; omega) hNN (by rw [hjl]; omega) (by simp only; omega) (by simp only; omega)
      simp only [hln] at h
      exact h
    · rw [e2, e1]
      simp only
      rw [add_some (by rw [h3]; simp only; omega)]
      simp only [Option.bind_some]
      obtain ⟨n, rfl⟩ : ∃ k, n = k + 1 := ⟨n - 1, by omega⟩
      rw [postL, show ({ s' with N := s'.N ++ [_] } : PS).is 7 s_dot = false from Dd.is (s := { s' with N := s'.N ++ [_] }) h2 _ _]
      refine ⟨_, _, rfl, h2, by simp, ?_⟩
      simp only [List.length_append, List.length_singleton, h3]
      omega
  · rw [if_neg hx, if_neg hx]
    simp only [Sim]
    rw [<- hN]
theorem appL_sim (hK : KnownR .post Y f d (s.l.length + 1)) (hRec : ∀ (s : PS) (A : List Nd) (n : Nat), Al s -> s.d = d -> fi s + 100 <= 900000 -> s.N = lay N0 A -> 1 <= A.length -> s.l.length < n -> 8 * s.l.length + 3 <= f -> Sim N0 s (fi s + 6) (G s.E f (.appL A) d s.l) (appL Y n (s.N.length - 1) s))
    (ha : Al s) (hd : s.d = d) (hr : fi s + 100 <= 900000) (hN : s.N = lay N0 A) (hA : 1 <= A.length) {n : Nat} (hn : s.l.length < n) (hf : 8 * s.l.length + 3 <= f + 1) :
    Sim N0 s (fi s + 6) (G s.E (f + 1) (.appL A) d s.l) (appL Y n (s.N.length - 1) s) := by
  obtain ⟨n, rfl⟩ : ∃ k, n = k + 1 := ⟨n - 1, by omega⟩
  rw [G, appL]
  by_cases hx : begins s.l = true
  · rw [if_pos hx, if_pos hx]
    obtain ⟨y, hy, _, hyp⟩ := lay_last N0 (a := A) (by intro h0; rw [h0] at hA; simp at hA)
    rw [hN, hy]
    simp only [hyp]
    rw [<- hN]
    have hNl : s.N.length = N0.length + A.length := by rw [hN, lay_len]
    have h := hK s ha hd (by omega) (by omega)
    unfold fi at hr
    rcases Sim.two (R := .post) trivial trivial h with ⟨b, l, hG, ho, hin, hlen, hsz, hll⟩ | ⟨e, q, hG, hF⟩
    · rw [hG, ho]
      simp only [eats, base] at hsz hll
      simp only [Rs.go, Option.bind_some]
      rw [add_some (by simp only [lay_len]; omega)]
      simp only [Option.bind_some]
      have hjl : (joinN (mk 6 (lastP A)) [A, b]).length = A.length + b.length + 1 := jl2 _ _ _
      have hNN : lay s.N b ++ [{ mk 6 (lastP A) with a := ((s.N.length - 1 : Nat) : Int), b := (((lay s.N b).length - 1 : Nat) : Int) }] = lay N0 (joinN (mk 6 (lastP A)) [A, b]) := by
        rw [lay2 _ _ _ _ rfl, hN]
        congr 2
        rw [cast_pred (by rw [lay_len]; omega), cast_pred (by rw [lay_len, lay_len]; omega)]; rfl
      have hln : (lay s.N b ++ [({ mk 6 (lastP A) with a := ((s.N.length - 1 : Nat) : Int), b := (((lay s.N b).length - 1 : Nat) : Int) } : Nd)]).length - 1 = (lay s.N b).length := by simp
      refine Sim.mono (m := fi { s with l := l, N := lay s.N b ++ [{ mk 6 (lastP A) with a := ((s.N.length - 1 : Nat) : Int), b := (((lay s.N b).length - 1 : Nat) : Int) }] } + 6) ?_ (by unfold fi; simp only [List.length_append, List.length_singleton, lay_len]; omega)
      have h := hRec { s with l := l, N := lay s.N b ++ [{ mk 6 (lastP A) with a := ((s.N.length - 1 : Nat) : Int), b := (((lay s.N b).length - 1 : Nat) : Int) }] } (joinN (mk 6 (lastP A)) [A, b]) n ha hd (by unfold fi; simp only [List.length_append, List.length_singleton, lay_len]; omega) hNN (by rw [hjl]; omega) (by simp only; omega) (by simp only; omega)
      simp only [hln] at h
      exact h
    · rw [hG]
      have hpos : 1 <= s.l.length := by
        cases hh : s.l with
        | nil => rw [hh] at hx; cases hx
        | cons t m => simp
      refine hF.bind fun a' s' _ hD haN hN' => ?_
      unfold fi at hN'
      simp only
      rw [add_some (by omega)]
      simp only [Option.bind_some]
      obtain ⟨n, rfl⟩ : ∃ k, n = k + 1 := ⟨n - 1, by omega⟩
      rw [appL, Dd.beg (s := { s' with N := s'.N ++ [_] }) hD]
      refine ⟨_, _, rfl, hD, by simp, ?_⟩
      simp only [List.length_append, List.length_singleton]
      unfold fi
      omega
  · rw [if_neg hx, if_neg hx]
    simp only [Sim]
    rw [<- hN]
end
open T
theorem relab_nm : ∀ (fs : List Fld) (ks : List Int), ks.length = fs.length -> (relab fs ks).map Fld.nm = fs.map Fld.nm /\ (relab fs ks).length = fs.length := by
  intro fs
  induction fs with
  | nil => intro ks h; cases ks with
    | nil => exact ⟨rfl, rfl⟩
    | cons k ks => simp at h
  | cons x fs ih => intro ks h; cases ks with
    | nil => simp at h
    | cons k ks =>
      obtain ⟨h1, h2⟩ := ih ks (by simpa using h)
      unfold relab at h1 h2 ⊢
      exact ⟨by simp [h1], by simp at h2 ⊢; omega⟩
theorem relab_snoc (fs : List Fld) (ks : List Int) (h : ks.length = fs.length) (x v : ByteArray) (k : Int) : relab (fs ++ [fld x v]) (ks ++ [k]) = relab fs ks ++ [⟨x, v, k⟩] := by
  unfold relab
  rw [List.zipWith_append h.symm]
  rfl
section
variable {X : PS -> Ans} {f d g : Nat} {s : PS} {e p : Int} {N0 : List Nd} {fs gs : List Fld} {ts : List (List Nd)}
theorem recL_sim (hX : X = exprP (g + 1)) (hK : Known X f d s.l.length) (hd2 : d <= 100)
    (hRec : ∀ (s : PS) (fs gs : List Fld) (ts : List (List Nd)) (n : Nat), Al s -> s.d = d -> fi s + 100 <= 900000 -> s.N = (lays N0 ts).1 -> ts.length = fs.length -> gs = relab fs (lays N0 ts).2 -> fs.length <= 30 -> s.l.length < n -> 8 * s.l.length + 1 <= f -> Sim N0 s (fi s + 4) (G s.E f (.recL p fs ts) d s.l) (recL X p n gs s))
    (ha : Al s) (hd : s.d = d) (hr : fi s + 100 <= 900000) (hN : s.N = (lays N0 ts).1) (htl : ts.length = fs.length) (hg : gs = relab fs (lays N0 ts).2) (h30 : fs.length <= 30) {n : Nat} (hn : s.l.length < n) (hf : 8 * s.l.length + 1 <= f + 1) :
    Sim N0 s (fi s + 4) (G s.E (f + 1) (.recL p fs ts) d s.l) (recL X p n gs s) := by
  obtain ⟨n, rfl⟩ : ∃ k, n = k + 1 := ⟨n - 1, by omega⟩
  have hkd : Kd X := by rw [hX]; exact expr_d _
  have hKl : (lays N0 ts).2.length = fs.length := by rw [lays_len, htl]
  obtain ⟨g1, g2⟩ := relab_nm fs _ hKl
  rw [<- hg] at g1 g2
  rw [G, recL, if_pos (by omega)]
  unfold fi at hr ⊢
  have tail : ∀ (x : ByteArray) (e q : Int) (a : Nat) (s' : PS), Dd s' e q -> s'.N.length + 1 <= s.N.length + 4 * s.l.length + 4 -> Fin e q (s.N.length + 4 * s.l.length + 4) (if s'.is 7 s_comma = true then recL X p n (gs ++ [⟨x, ⟨#[]⟩, a⟩]) s'.nx else (s'.must 7 s_rbra).add { mk 11 p with l := gs ++ [⟨x, ⟨#[]⟩, a⟩] }) := fun x e q a s' hD hNN => by
    rw [hD.is, if_neg (by decide), hD.must]
    exact Fin.add hD _ hNN (by omega)
  rcases lab_cases ha (k := 2) (by decide) g1 (by omega) with ⟨t, m, hl, hg30, e1, e2⟩ | ⟨q, c, x, s', hc, e1, h2, h3, h4, e2⟩
  · rw [e2, e1]
    simp only
    have hl1 := congrArg List.length hl
    simp only [List.length_cons] at hl1
    have ha1 : Al { s with l := m } := ha
    rcases must_cases ha1 7 s_eqs with ⟨t2, m2, hl2, e3, e4⟩ | ⟨q, s', e3, h2, h3, h4, e4⟩
    · rw [e4, e3]
      simp only at hl2
      have hl3 := congrArg List.length hl2
      simp only [List.length_cons] at hl3
      have h := hK { s with l := m2 } ha hd (by simp only; omega) (by unfold fi; simp only; omega)
      rcases Sim.two (R := .expr) trivial trivial h with ⟨a, l, hG, ho, hin, hlen, hsz, hll⟩ | ⟨e, q, hG, hF⟩
      · rw [hG, ho]
        simp only [eats, base] at hsz hll
        simp only [Rs.go, Option.bind_some]
        have hls := lays_snoc N0 ts a
        rw [<- hN] at hls
        have hgs : gs ++ [(⟨t.s, ⟨#[]⟩, (((lay s.N a).length - 1 : Nat) : Int)⟩ : Fld)] = relab (fs ++ [fld t.s ⟨#[]⟩]) (lays N0 (ts ++ [a])).2 := by
          rw [hls, relab_snoc _ _ hKl, hg, cast_pred (by rw [lay_len]; omega)]
        have hls1 : (lays N0 (ts ++ [a])).1 = lay s.N a := by rw [hls]
        unfold PS.is
        by_cases hx : isT 7 s_comma l = true
        · rw [if_pos hx, if_pos hx]
          obtain ⟨t3, m3, hl4⟩ := isT_cons hx
          have hl5 := congrArg List.length hl4
          simp only [List.length_cons] at hl5
          rw [show l.tail = m3 by rw [hl4]; rfl, show ({ s with l := l, N := lay s.N a } : PS).nx = { s with l := m3, N := lay s.N a } from nx_cons hl4]
          exact Sim.mono (hRec { s with l := m3, N := lay s.N a } _ _ (ts ++ [a]) n ha hd (by unfold fi; simp only [lay_len]; omega) hls1.symm (by simp [htl]) hgs (by simp; omega) (by simp only; omega) (by simp only; omega)) (by unfold fi; simp only [lay_len]; omega)
        · rw [if_neg hx, if_neg hx]
          have ha2 : Al { s with l := l, N := lay s.N a } := ha
          rcases must_cases ha2 7 s_rbra with ⟨t3, m3, hl4, e5, e6⟩ | ⟨q, s', e5, h2, h3, h4, e6⟩
          · rw [e6, e5]
            simp only [Sim]
            rw [add_some (by simp only [lay_len]; omega), layN _ _ _ (by simp [kids, kids0, many, mk, htl]), hls1, List.length_append]
            simp only [List.length_singleton, Nat.add_sub_cancel]
            congr 3
            · rw [hgs]; rfl
          · rw [e6, e5]
            refine Fin.add h2 _ ?_ (by omega)
            rw [h3]
            simp only [lay_len]
            omega
      · rw [hG]
        refine hF.bind fun a s' ho hD haN hN' => ?_
        unfold fi at hN'
        simp only at hN'
        exact tail _ _ _ a s' hD (by omega)
    · rw [e4, e3]
      rw [h2.xx hX (by rw [h4]; simp only; omega) (by rw [h3]; simp only; omega)]
      exact tail _ _ _ _ _ h2.d1 (by rw [D1_len, h3]; simp only; omega)
  · rw [e2, e1]
    simp only
    rw [h2.must, h2.xx hX (by rw [h4]; omega) (by rw [h3]; omega)]
    exact tail _ _ _ _ _ h2.d1 (by rw [D1_len, h3]; omega)
theorem casL_sim (hX : X = exprP (g + 1)) (hK : Known X f d s.l.length) (hd2 : d <= 100) {a0 : Nat}
    (hRec : ∀ (s : PS) (fs gs : List Fld) (ts : List (List Nd)) (K : List Int) (n : Nat), Al s -> s.d = d -> fi s + 100 <= 900000 -> s.N = (lays N0 ts).1 -> (lays N0 ts).2 = (a0 : Int) :: K -> ts.length = fs.length + 1 -> gs = relab fs K -> fs.length <= 30 -> s.l.length < n -> 8 * s.l.length + 1 <= f -> Sim N0 s (fi s + 4) (G s.E f (.casL p fs ts) d s.l) (casL X p a0 n gs s))
    (ha : Al s) (hd : s.d = d) (hr : fi s + 100 <= 900000) (hN : s.N = (lays N0 ts).1) {K : List Int} (hKK : (lays N0 ts).2 = (a0 : Int) :: K) (htl : ts.length = fs.length + 1) (hg : gs = relab fs K) (h30 : fs.length <= 30) {n : Nat} (hn : s.l.length < n) (hf : 8 * s.l.length + 1 <= f + 1) :
    Sim N0 s (fi s + 4) (G s.E (f + 1) (.casL p fs ts) d s.l) (casL X p a0 n gs s) := by
  obtain ⟨n, rfl⟩ : ∃ k, n = k + 1 := ⟨n - 1, by omega⟩
  have hkd : Kd X := by rw [hX]; exact expr_d _
  have hKl : K.length = fs.length := by have := lays_len N0 ts; rw [hKK, htl] at this; simpa using this
  obtain ⟨g1, g2⟩ := relab_nm fs _ hKl
  rw [<- hg] at g1 g2
  rw [G, casL, if_pos (by omega)]
  unfold fi at hr ⊢
  have tail : ∀ (x v : ByteArray) (e q : Int) (a : Nat) (s' : PS), Dd s' e q -> s'.N.length + 1 <= s.N.length + 4 * s.l.length + 4 -> Fin e q (s.N.length + 4 * s.l.length + 4) (if s'.is 7 s_bar = true then casL X p a0 n (gs ++ [⟨x, v, a⟩]) s'.nx else (s'.must 1 w_end).add { mk 14 p with a := a0, l := gs ++ [⟨x, v, a⟩] }) := fun x v e q a s' hD hNN => by
    rw [hD.is, if_neg (by decide), hD.must]
    exact Fin.add hD _ hNN (by omega)
  rcases lab_cases ha (k := 3) (by decide) g1 (by omega) with ⟨t, m, hl, hg30, e1, e2⟩ | ⟨q, c, x, s', hc, e1, h2, h3, h4, e2⟩
  · rw [e2, e1]
    simp only
    have hl1 := congrArg List.length hl
    simp only [List.length_cons] at hl1
    have ha1 : Al { s with l := m } := ha
    rcases txt_cases ha1 (k := 2) (by decide) with ⟨tv, mv, hlv, ev, ev2⟩ | ⟨q, x, s', ev, h2, h3, h4, ev2⟩
    · rw [ev2, ev]
      simp only at hlv
      have hlv1 := congrArg List.length hlv
      simp only [List.length_cons] at hlv1
      simp only
      have ha2 : Al { s with l := mv } := ha
      rcases must_cases ha2 7 s_arrow with ⟨t2, m2, hl2, e3, e4⟩ | ⟨q, s', e3, h2, h3, h4, e4⟩
      · rw [e4, e3]
        simp only at hl2
        have hl3 := congrArg List.length hl2
        simp only [List.length_cons] at hl3
        have h := hK { s with l := m2 } ha hd (by simp only; omega) (by unfold fi; simp only; omega)
        rcases Sim.two (R := .expr) trivial trivial h with ⟨a, l, hG, ho, hin, hlen, hsz, hll⟩ | ⟨e, q, hG, hF⟩
        · rw [hG, ho]
          simp only [eats, base] at hsz hll
          simp only [Rs.go, Option.bind_some]
          have hls := lays_snoc N0 ts a
          rw [<- hN, hKK] at hls
          have hls2 : (lays N0 (ts ++ [a])).2 = (a0 : Int) :: (K ++ [((lay s.N a).length : Int) - 1]) := by rw [hls]; rfl
          have hgs : gs ++ [(⟨t.s, tv.s, (((lay s.N a).length - 1 : Nat) : Int)⟩ : Fld)] = relab (fs ++ [fld t.s tv.s]) (K ++ [((lay s.N a).length : Int) - 1]) := by
            rw [relab_snoc _ _ hKl, hg, cast_pred (by rw [lay_len]; omega)]
          have hls1 : (lays N0 (ts ++ [a])).1 = lay s.N a := by rw [hls]
          unfold PS.is
          by_cases hx : isT 7 s_bar l = true
          · rw [if_pos hx, if_pos hx]
            obtain ⟨t3, m3, hl4⟩ := isT_cons hx
            have hl5 := congrArg List.length hl4
            simp only [List.length_cons] at hl5
            rw [show l.tail = m3 by rw [hl4]; rfl, show ({ s with l := l, N := lay s.N a } : PS).nx = { s with l := m3, N := lay s.N a } from nx_cons hl4]
            exact Sim.mono (hRec { s with l := m3, N := lay s.N a } _ _ (ts ++ [a]) _ n ha hd (by unfold fi; simp only [lay_len]; omega) hls1.symm hls2 (by simp [htl]) hgs (by simp; omega) (by simp only; omega) (by simp only; omega)) (by unfold fi; simp only [lay_len]; omega)
          · rw [if_neg hx, if_neg hx]
            have ha3 : Al { s with l := l, N := lay s.N a } := ha
            rcases must_cases ha3 1 w_end with ⟨t3, m3, hl4, e5, e6⟩ | ⟨q, s', e5, h2, h3, h4, e6⟩
            · rw [e6, e5]
              simp only [Sim]
              rw [add_some (by simp only [lay_len]; omega), layN _ _ _ (by simp [kids, kids0, many, mk, htl]), hls1, hls2, List.length_append]
              simp only [List.length_singleton, Nat.add_sub_cancel]
              congr 3
              · rw [hgs]; rfl
            · rw [e6, e5]
              refine Fin.add h2 _ ?_ (by omega)
              rw [h3]
              simp only [lay_len]
              omega
        · rw [hG]
          refine hF.bind fun a s' ho hD haN hN' => ?_
          unfold fi at hN'
          simp only at hN'
          exact tail _ _ _ _ a s' hD (by omega)
      · rw [e4, e3]
        rw [h2.xx hX (by rw [h4]; simp only; omega) (by rw [h3]; simp only; omega)]
        exact tail _ _ _ _ _ _ h2.d1 (by rw [D1_len, h3]; simp only; omega)
    · rw [ev2, ev]
      simp only
      rw [h2.must, h2.xx hX (by rw [h4]; simp only; omega) (by rw [h3]; simp only; omega)]
      exact tail _ _ _ _ _ _ h2.d1 (by rw [D1_len, h3]; simp only; omega)
  · rw [e2, e1]
    simp only
    rw [h2.txt (by decide)]
    simp only
    rw [h2.must, h2.xx hX (by rw [h4]; omega) (by rw [h3]; omega)]
    exact tail _ _ _ _ _ _ h2.d1 (by rw [D1_len, h3]; omega)
end
open T
theorem D1_some {e p : Int} {m : Nat} {s : PS} (h : Dd s e p) {a : Nat} (ha : a < s.N.length) (hm : s.N.length <= m) : Fin e p m (some (a, s)) := ⟨a, s, rfl, h, ha, hm⟩
section
variable {X : PS -> Ans} {f d g m0 : Nat} {s : PS} {e p : Int}
theorem leaf_sim {t : Tk} {m : List Tk} (hl : s.l = t :: m) (hr : fi s + 20 <= 900000) {y : Nd} (hy : wk y [] = y) (hk : (kids y).length = 0) (mm : Nat) : Sim s.N s mm (.ok (joinN y []) m) (s.nx.add y) := by
  unfold fi at hr
  rw [nx_cons hl, add_some (by simp only; omega)]
  simp only [Sim]
  rw [lay0 _ _ hk, hy]
  simp
theorem is_not {t : Tk} {m : List Tk} (hl : s.l = t :: m) {k : Int} (h : t.k ≠ k) (x : List UInt8) : s.is k x = false := by unfold PS.is; rw [hl]; simp [isT, h]
theorem is_same {k : Int} {x : List UInt8} : s.is k x = isT k x s.l := rfl
theorem atom_sim (hX : X = exprP (g + 1)) (hK : Known X f d s.l.length) (hd2 : d <= 100)
    (hRec : ∀ (s' : PS) (p : Int), Al s' -> s'.d = d -> s'.E = s.E -> fi s' + 100 <= 900000 -> s'.l.length + 1 = s.l.length -> Sim s'.N s' (fi s' + 4) (G s'.E f (.recL p [] []) d s'.l) (recL X p (s'.l.length + 2) [] s'))
    (hCas : ∀ (s' : PS) (N0 a : List Nd) (p : Int), Al s' -> s'.d = d -> s'.E = s.E -> fi s' + 100 <= 900000 -> s'.N = lay N0 a -> 1 <= a.length -> s'.l.length + 1 < s.l.length -> Sim N0 s' (fi s' + 4) (G s'.E f (.casL p [] [a]) d s'.l) (casL X p (s'.N.length - 1) (s'.l.length + 2) [] s'))
    (ha : Al s) (hd : s.d = d) (hr : fi s + 100 <= 900000) :
    Sim s.N s (fi s + 4) (G s.E (f + 1) .atom d s.l) (atomP X s) := by
  have hrr := hr
  unfold fi at hr
  cases hl : s.l with
  | nil =>
    rw [G]
    have n1 : ∀ k x, s.is k x = false := fun k x => by unfold PS.is; rw [hl]; rfl
    have hpk : s.pk = ⟨0, ⟨#[]⟩, 0, s.E⟩ := by unfold PS.pk; rw [hl]
    unfold atomP leafN
    simp only [n1, hpk]
    refine Fin.add (no_dd ha s.E 5 (by decide)).1 _ ?_ (by unfold fi; omega)
    show s.N.length + 1 <= _
    unfold fi; omega
  | cons t m =>
    rw [G]
    have hl1 := congrArg List.length hl
    simp only [List.length_cons] at hl1
    have hpk := pk_cons hl
    have hnx := nx_cons hl
    unfold atomP
    by_cases h4 : t.k = 4
    · rw [if_pos h4, is_not hl (by omega), is_not hl (by omega), is_not hl (by omega)]
      unfold leafN
      simp only [is_not hl (k := 1) (by omega), hpk, h4, if_true]
      exact leaf_sim hl (by omega) rfl rfl _
    rw [if_neg h4]
    by_cases h5 : t.k = 5
    · rw [if_pos h5, is_not hl (by omega), is_not hl (by omega), is_not hl (by omega)]
      unfold leafN
      simp only [is_not hl (k := 1) (by omega), hpk, h5, if_true, show ¬ ((5 : Int) = 4) by decide, if_false]
      exact leaf_sim hl (by omega) rfl rfl _
    rw [if_neg h5]
    by_cases h2 : t.k = 2
    · rw [if_pos h2, is_not hl (by omega), is_not hl (by omega), is_not hl (by omega)]
      unfold leafN
      simp only [is_not hl (k := 1) (by omega), hpk, h2, if_true, show ¬ ((2 : Int) = 4) by decide, show ¬ ((2 : Int) = 5) by decide, if_false]
      exact leaf_sim hl (by omega) rfl rfl _
    rw [if_neg h2]
    rw [<- hl]
    by_cases ht : isT 1 w_true s.l = true
    · have hk1 : t.k = 1 := by rw [hl] at ht; simp [isT] at ht; exact ht.1
      have hs : t.s.toList = w_true := by rw [hl] at ht; simp [isT] at ht; exact ht.2
      rw [if_pos ht, is_not hl (by omega), is_not hl (by omega), show s.is 1 w_case = false by unfold PS.is; rw [hl]; simp [isT, hs]; intro _; decide]
      unfold leafN
      rw [show s.is 1 w_true = true from ht]
      simp only [hpk, if_true]
      exact leaf_sim hl (by omega) rfl rfl _
    rw [if_neg ht]
    by_cases hf : isT 1 w_false s.l = true
    · have hk1 : t.k = 1 := by rw [hl] at hf; simp [isT] at hf; exact hf.1
      have hs : t.s.toList = w_false := by rw [hl] at hf; simp [isT] at hf; exact hf.2
      rw [if_pos hf, is_not hl (by omega), is_not hl (by omega), show s.is 1 w_case = false by unfold PS.is; rw [hl]; simp [isT, hs]; intro _; decide]
      unfold leafN
      rw [show s.is 1 w_true = false from Bool.eq_false_iff.2 ht, show s.is 1 w_false = true from hf]
      simp only [hpk, if_true]
      exact leaf_sim hl (by omega) rfl rfl _
    rw [if_neg hf]
    have ha1 : Al { s with l := m } := ha
    have hkd : Kd X := by rw [hX]; exact expr_d _
    by_cases hp : isT 7 s_lpar s.l = true
    · rw [if_pos hp, show s.is 7 s_lpar = true from hp]
      simp only [if_true]
      rw [hnx]
      have h := hK { s with l := m } ha hd (by simp only; omega) (by unfold fi; simp only; omega)
      rcases Sim.two (R := .expr) trivial trivial h with ⟨a, l, hG, ho, hin, hlen, hsz, hll⟩ | ⟨e, q, hG, hF⟩
      · rw [hG, ho]
        simp only [eats, base] at hsz hll
        simp only [Rs.go, Option.bind_some]
        have ha2 : Al { s with l := l, N := lay s.N a } := ha
        rcases must_cases ha2 7 s_rpar with ⟨t3, m3, hl4, e5, e6⟩ | ⟨q, s', e5, h2, h3, h4, e6⟩
        · rw [e6, e5]
          simp only [Sim]
        · rw [e6, e5]
          refine D1_some h2 ?_ ?_
          · rw [h3]; simp only [lay_len]; omega
          · rw [h3]; unfold fi; simp only [lay_len]; omega
      · rw [hG]
        refine hF.bind fun a s' ho hD haN hN' => ?_
        unfold fi at hN' ⊢
        simp only at hN' ⊢
        rw [hD.must]
        exact D1_some hD haN (by omega)
    rw [if_neg hp, show s.is 7 s_lpar = false from Bool.eq_false_iff.2 hp]
    by_cases hb : isT 7 s_lbra s.l = true
    · rw [if_pos hb, show s.is 7 s_lbra = true from hb]
      simp only [if_true, Bool.false_eq_true, if_false]
      rw [hnx, hpk]
      unfold recP
      rw [show ({ s with l := m } : PS).is 7 s_rbra = isT 7 s_rbra m from rfl]
      by_cases hc : isT 7 s_rbra m = true
      · rw [if_pos hc, if_pos hc]
        obtain ⟨t2, m2, hl2⟩ := isT_cons hc
        have := leaf_sim (s := { s with l := m }) (t := t2) (m := m2) hl2 (by unfold fi; simp only; omega) (y := mk 11 t.p) rfl rfl (fi s + 4)
        rw [show m.tail = m2 by rw [hl2]; rfl]
        exact this
      · rw [if_neg hc, if_neg hc]
        exact Sim.mono (hRec { s with l := m } t.p ha hd rfl (by unfold fi; simp only; omega) (by simp only; omega)) (by unfold fi; simp only; omega)
    rw [if_neg hb, show s.is 7 s_lbra = false from Bool.eq_false_iff.2 hb]
    by_cases hc : isT 1 w_case s.l = true
    · rw [if_pos hc, show s.is 1 w_case = true from hc]
      simp only [if_true, Bool.false_eq_true, if_false]
      rw [hnx, hpk]
      unfold casP
      have h := hK { s with l := m } ha hd (by simp only; omega) (by unfold fi; simp only; omega)
      rcases Sim.two (R := .expr) trivial trivial h with ⟨a, l, hG, ho, hin, hlen, hsz, hll⟩ | ⟨e, q, hG, hF⟩
      · rw [hG, ho]
        simp only [eats, base] at hsz hll
        simp only [Rs.go, Option.bind_some]
        have ha2 : Al { s with l := l, N := lay s.N a } := ha
        rcases must_cases ha2 1 w_of with ⟨t3, m3, hl4, e5, e6⟩ | ⟨q, s', e5, h2, h3, h4, e6⟩
        · rw [e6, e5]
          simp only at hl4
          have hl5 := congrArg List.length hl4
          simp only [List.length_cons] at hl5
          exact Sim.mono (hCas { s with l := m3, N := lay s.N a } s.N a t.p ha hd rfl (by unfold fi; simp only [lay_len]; omega) rfl hlen (by simp only; omega)) (by unfold fi; simp only [lay_len]; omega)
        · rw [e6, e5]
          rw [casL, if_pos (by simp), h2.lab (by decide)]
          simp only
          rw [h2.txt (by decide)]
          simp only
          rw [h2.must, h2.xx hX (by rw [h4]; simp only; omega) (by rw [h3]; simp only [lay_len]; omega)]
          simp only [Option.bind_some]
          rw [h2.d1.is, if_neg (by decide), h2.d1.must]
          refine Fin.add h2.d1 _ ?_ (by unfold fi; omega)
          rw [D1_len, h3]
          unfold fi
          simp only [lay_len]
          omega
      · rw [hG]
        refine hF.bind fun a s' ho hD haN hN' => ?_
        have hd' : s'.d < 1000 := by have := hkd _ _ ho; simp only at this; omega
        unfold fi at hN' ⊢
        simp only at hN' ⊢
        rw [hD.must, casL, if_pos (by simp), hD.lab (by decide)]
        simp only
        rw [hD.txt (by decide)]
        simp only
        rw [hD.must, hD.xx hX hd' (by omega)]
        simp only [Option.bind_some]
        rw [hD.d1.is, if_neg (by decide), hD.d1.must]
        refine Fin.add hD.d1 _ ?_ (by omega)
        rw [D1_len]
        omega
    rw [if_neg hc, show s.is 1 w_case = false from Bool.eq_false_iff.2 hc]
    simp only [Bool.false_eq_true, if_false]
    unfold leafN
    rw [show s.is 1 w_true = false from Bool.eq_false_iff.2 ht, show s.is 1 w_false = false from Bool.eq_false_iff.2 hf, hpk]
    simp only [h4, h5, h2, Bool.false_eq_true, if_false]
    refine Fin.add (no_dd ha t.p 5 (by decide)).1 _ ?_ (by unfold fi; omega)
    show s.N.length + 1 <= _
    unfold fi; omega
end
open T
structure Rows (f : Nat) : Prop where
  expr : ∀ g d s, Al s -> s.d = d -> d <= 100 -> 101 <= g + d -> fi s + 100 <= 900000 -> 8 * s.l.length + 7 <= f -> Sim s.N s (fi s + 4) (G s.E f .expr d s.l) (exprP g s)
  cmp : ∀ g d s, Al s -> s.d = d -> d <= 100 -> 101 <= g + d -> fi s + 100 <= 900000 -> 8 * s.l.length + 6 <= f -> Sim s.N s (fi s + 4) (G s.E f .cmp d s.l) (cmpP (exprP g) s)
  sum : ∀ g d s, Al s -> s.d = d -> d <= 100 -> 101 <= g + d -> fi s + 100 <= 900000 -> 8 * s.l.length + 5 <= f -> Sim s.N s (fi s + 4) (G s.E f .sum d s.l) (sumP (exprP g) s)
  prod : ∀ g d s, Al s -> s.d = d -> d <= 100 -> 101 <= g + d -> fi s + 100 <= 900000 -> 8 * s.l.length + 4 <= f -> Sim s.N s (fi s + 4) (G s.E f .prod d s.l) (prodP (exprP g) s)
  app : ∀ g d s, Al s -> s.d = d -> d <= 100 -> 101 <= g + d -> fi s + 100 <= 900000 -> 8 * s.l.length + 3 <= f -> Sim s.N s (fi s + 4) (G s.E f .app d s.l) (appP (exprP g) s)
  post : ∀ g d s, Al s -> s.d = d -> d <= 100 -> 101 <= g + d -> fi s + 100 <= 900000 -> 8 * s.l.length + 2 <= f -> Sim s.N s (fi s + 4) (G s.E f .post d s.l) (postP (exprP g) s)
  atom : ∀ g d s, Al s -> s.d = d -> d <= 100 -> 101 <= g + d -> fi s + 100 <= 900000 -> 8 * s.l.length + 1 <= f -> Sim s.N s (fi s + 4) (G s.E f .atom d s.l) (atomP (exprP g) s)
  sumL : ∀ g d s N0 A n, Al s -> s.d = d -> d <= 100 -> 101 <= g + d -> fi s + 100 <= 900000 -> s.N = lay N0 A -> 1 <= A.length -> s.l.length < n -> 8 * s.l.length + 1 <= f -> Sim N0 s (fi s + 4) (G s.E f (.sumL A) d s.l) (loopP o_sum (prodP (exprP g)) n (s.N.length - 1) s)
  prodL : ∀ g d s N0 A n, Al s -> s.d = d -> d <= 100 -> 101 <= g + d -> fi s + 100 <= 900000 -> s.N = lay N0 A -> 1 <= A.length -> s.l.length < n -> 8 * s.l.length + 1 <= f -> Sim N0 s (fi s + 4) (G s.E f (.prodL A) d s.l) (loopP o_prod (appP (exprP g)) n (s.N.length - 1) s)
  appL : ∀ g d s N0 A n, Al s -> s.d = d -> d <= 100 -> 101 <= g + d -> fi s + 100 <= 900000 -> s.N = lay N0 A -> 1 <= A.length -> s.l.length < n -> 8 * s.l.length + 3 <= f -> Sim N0 s (fi s + 6) (G s.E f (.appL A) d s.l) (appL (postP (exprP g)) n (s.N.length - 1) s)
  postL : ∀ d s N0 A n, Al s -> s.d = d -> fi s + 100 <= 900000 -> s.N = lay N0 A -> 1 <= A.length -> s.l.length < n -> 8 * s.l.length + 1 <= f -> Sim N0 s (fi s + 4) (G s.E f (.postL A) d s.l) (postL n (s.N.length - 1) s)
  recL : ∀ g d p s N0 fs gs ts n, Al s -> s.d = d -> d <= 100 -> 101 <= g + d -> fi s + 100 <= 900000 -> s.N = (lays N0 ts).1 -> ts.length = fs.length -> gs = relab fs (lays N0 ts).2 -> fs.length <= 30 -> s.l.length < n -> 8 * s.l.length + 1 <= f -> Sim N0 s (fi s + 4) (G s.E f (.recL p fs ts) d s.l) (recL (exprP g) p n gs s)
  casL : ∀ g d p (a0 : Nat) s N0 fs gs ts K n, Al s -> s.d = d -> d <= 100 -> 101 <= g + d -> fi s + 100 <= 900000 -> s.N = (lays N0 ts).1 -> (lays N0 ts).2 = (a0 : Int) :: K -> ts.length = fs.length + 1 -> gs = relab fs K -> fs.length <= 30 -> s.l.length < n -> 8 * s.l.length + 1 <= f -> Sim N0 s (fi s + 4) (G s.E f (.casL p fs ts) d s.l) (casL (exprP g) p a0 n gs s)
theorem up_sim {s : PS} {n m : Nat} {r : Rs} {o : Ans} (h : Sim s.N { s with d := s.d + n } m r o) (hn : n = 1) : Sim s.N s m r (o.bind fun q => some (q.1, q.2.up)) := by
  subst hn
  cases r with
  | ok t l =>
    simp only [Sim] at h ⊢
    rw [h]
    rfl
  | bad e p =>
    refine Fin.bind h fun a s' _ hD haN hN => ?_
    exact ⟨a, s'.up, rfl, hD, haN, hN⟩
theorem Rows.known {f : Nat} (H : Rows f) {g d L : Nat} (hd2 : d <= 100) (hg : 101 <= g + d) (hL : ∀ n, n < L -> 8 * n + 7 <= f) : Known (exprP g) f d L := fun s ha hd hl hr => H.expr g d s ha hd hd2 hg hr (hL _ hl)
theorem expr_row {f : Nat} (H : Rows f) (g d : Nat) (s : PS) (ha : Al s) (hd : s.d = d) (hd2 : d <= 100) (hg : 101 <= g + d) (hr : fi s + 100 <= 900000) (hf : 8 * s.l.length + 7 <= f + 1) : Sim s.N s (fi s + 4) (G s.E (f + 1) .expr d s.l) (exprP g s) := by
  obtain ⟨g, rfl⟩ : ∃ k, g = k + 1 := ⟨g - 1, by omega⟩
  have hrr := hr
  unfold fi at hr
  have hlt : s.d < 1000 := by omega
  rw [G, exprP]
  by_cases h100 : 100 <= d
  · rw [if_pos h100, if_pos hlt]
    have hd1 : s.d = 100 := by omega
    have hn := (no_dd ha s.pk.p 6 (by decide)).1
    have e : s.deep = { (s.no s.pk.p 6) with d := s.d + 1 } := by unfold PS.deep; rw [if_pos hd1]
    rw [e, (hn.d (s.d + 1)).inner _ _ (by show s.N.length < _; omega), plc_pk]
    refine ⟨_, _, rfl, hn, ?_, ?_⟩
    · show s.N.length < (D1 _).N.length; rw [D1_len]; show s.N.length < s.N.length + 1; omega
    · show (D1 _).N.length <= _; rw [D1_len]; show s.N.length + 1 <= _; unfold fi; omega
  rw [if_neg h100, if_pos hlt]
  have hdp : s.deep = { s with d := s.d + 1 } := by unfold PS.deep; rw [if_neg (by omega)]
  rw [hdp]
  refine up_sim (n := 1) ?_ rfl
  obtain ⟨g, rfl⟩ : ∃ k, g = k + 1 := ⟨g - 1, by omega⟩
  have ha1 : Al { s with d := s.d + 1 } := ha
  unfold innerP
  rw [show ({ s with d := s.d + 1 } : PS).is 1 w_fun = isT 1 w_fun s.l from rfl, show ({ s with d := s.d + 1 } : PS).is 1 w_let = isT 1 w_let s.l from rfl, show ({ s with d := s.d + 1 } : PS).is 1 w_if = isT 1 w_if s.l from rfl]
  by_cases h1 : isT 1 w_fun s.l = true
  · rw [if_pos h1, if_pos h1]
    obtain ⟨t, m, hl⟩ := isT_cons h1
    have hl1 := congrArg List.length hl
    simp only [List.length_cons] at hl1
    rw [show s.l.tail = m by rw [hl]; rfl, plc_pk, show ({ s with d := s.d + 1 } : PS).nx = { s with l := m, d := s.d + 1 } from nx_cons (s := { s with d := s.d + 1 }) hl]
    have hK : Known (exprP (g + 1)) f (d + 1) m.length := H.known (by omega) (by omega) fun n hn => by omega
    have h := fun_sim (g := g) rfl (s := { s with l := m, d := s.d + 1 }) hK ha (by simp only; omega) (by omega) (by unfold fi; simp only; omega) s.pk.p
    unfold fi at h ⊢
    simp only at h
    exact Sim.mono h (by omega)
  rw [if_neg h1, if_neg h1]
  by_cases h2 : isT 1 w_let s.l = true
  · rw [if_pos h2, if_pos h2]
    obtain ⟨t, m, hl⟩ := isT_cons h2
    have hl1 := congrArg List.length hl
    simp only [List.length_cons] at hl1
    rw [show s.l.tail = m by rw [hl]; rfl, plc_pk, show ({ s with d := s.d + 1 } : PS).nx = { s with l := m, d := s.d + 1 } from nx_cons (s := { s with d := s.d + 1 }) hl]
    unfold bindP
    rw [show ({ s with l := m, d := s.d + 1 } : PS).is 1 w_rec = isT 1 w_rec m from rfl]
    by_cases h3 : isT 1 w_rec m = true
    · rw [if_pos h3, if_pos h3]
      obtain ⟨t2, m2, hl2⟩ := isT_cons h3
      have hl3 := congrArg List.length hl2
      simp only [List.length_cons] at hl3
      rw [show m.tail = m2 by rw [hl2]; rfl, show ({ s with l := m, d := s.d + 1 } : PS).nx = { s with l := m2, d := s.d + 1 } from nx_cons (s := { s with l := m, d := s.d + 1 }) hl2]
      have hK : Known (exprP (g + 1)) f (d + 1) m2.length := H.known (by omega) (by omega) fun n hn => by omega
      have h := rec_sim (g := g) rfl (s := { s with l := m2, d := s.d + 1 }) hK ha (by simp only; omega) (by omega) (by unfold fi; simp only; omega) s.pk.p
      unfold fi at h ⊢
      simp only at h
      exact Sim.mono h (by omega)
    · rw [if_neg h3, if_neg h3]
      have hK : Known (exprP (g + 1)) f (d + 1) m.length := H.known (by omega) (by omega) fun n hn => by omega
      have h := let_sim (g := g) rfl (s := { s with l := m, d := s.d + 1 }) hK ha (by simp only; omega) (by omega) (by unfold fi; simp only; omega) s.pk.p
      unfold fi at h ⊢
      simp only at h
      exact Sim.mono h (by omega)
  rw [if_neg h2, if_neg h2]
  by_cases h3 : isT 1 w_if s.l = true
  · rw [if_pos h3, if_pos h3]
    obtain ⟨t, m, hl⟩ := isT_cons h3
    have hl1 := congrArg List.length hl
    simp only [List.length_cons] at hl1
    rw [show s.l.tail = m by rw [hl]; rfl, plc_pk, show ({ s with d := s.d + 1 } : PS).nx = { s with l := m, d := s.d + 1 } from nx_cons (s := { s with d := s.d + 1 }) hl]
    have hK : Known (exprP (g + 1)) f (d + 1) (m.length + 1) := H.known (by omega) (by omega) fun n hn => by omega
    have h := if_sim (g := g) rfl (s := { s with l := m, d := s.d + 1 }) hK ha (by simp only; omega) (by omega) (by unfold fi; simp only; omega) s.pk.p
    unfold fi at h ⊢
    simp only at h
    exact Sim.mono h (by omega)
  rw [if_neg h3, if_neg h3]
  exact H.cmp (g + 1) (d + 1) { s with d := s.d + 1 } ha (by simp only; omega) (by omega) (by omega) hrr (by simp only; omega)
theorem rows_all : ∀ f, Rows f := by
  intro f
  induction f with
  | zero => constructor <;> intros <;> omega
  | succ f H =>
    have happ : ∀ g d L, d <= 100 -> 101 <= g + d -> (∀ n, n < L -> 8 * n + 3 <= f) -> KnownR .app (appP (exprP g)) f d L := fun g d L h1 h2 h3 s ha hd hl hr => H.app g d s ha hd h1 h2 hr (h3 _ hl)
    have hprod : ∀ g d L, d <= 100 -> 101 <= g + d -> (∀ n, n < L -> 8 * n + 4 <= f) -> KnownR .prod (prodP (exprP g)) f d L := fun g d L h1 h2 h3 s ha hd hl hr => H.prod g d s ha hd h1 h2 hr (h3 _ hl)
    have hsum : ∀ g d L, d <= 100 -> 101 <= g + d -> (∀ n, n < L -> 8 * n + 5 <= f) -> KnownR .sum (sumP (exprP g)) f d L := fun g d L h1 h2 h3 s ha hd hl hr => H.sum g d s ha hd h1 h2 hr (h3 _ hl)
    have hpost : ∀ g d L, d <= 100 -> 101 <= g + d -> (∀ n, n < L -> 8 * n + 2 <= f) -> KnownR .post (postP (exprP g)) f d L := fun g d L h1 h2 h3 s ha hd hl hr => H.post g d s ha hd h1 h2 hr (h3 _ hl)
    constructor
    · exact expr_row H
    · intro g d s ha hd hd2 hg hr hf
      rw [G]
      unfold cmpP
      have h := H.sum g d s ha hd hd2 hg hr (by omega)
      rcases Sim.two (R := .sum) trivial trivial h with ⟨a, l, hG, ho, hin, hlen, hsz, hll⟩ | ⟨e, q, hG, hF⟩
      · rw [hG, ho]
        simp only [eats, base] at hsz hll
        simp only [Rs.go, Option.bind_some]
        unfold fi at hr
        rcases rel_cmp { s with l := l, N := lay s.N a } with ⟨h1, h2⟩ | ⟨t, m, hl, h1, h2⟩
        · simp only at h2
          rw [h2, h1]
          simp [Sim]
        · simp only at h2 hl
          have hl1 := congrArg List.length hl
          simp only [List.length_cons] at hl1
          rw [h2, if_pos h1]
          simp only
          rw [show l.tail = m by rw [hl]; rfl, plc_cons hl]
          have hop := op_sim (R := .sum) (N0 := s.N) (A := a) (s := { s with l := l, N := lay s.N a }) trivial trivial rfl rfl (hsum g d l.length hd2 hg fun n hn => by omega) ha hd (by unfold fi; simp only [lay_len]; omega) rfl hlen hl _ rfl
          rcases hop with ⟨b, l2, hG2, hb1, hb2, hb3, ho2⟩ | ⟨e, q, hG2, hF2⟩
          · rw [hG2]
            simp only [Sim]
            exact ho2
          · rw [hG2]
            exact Fin.mono hF2 (by unfold fi; simp only [lay_len]; omega)
      · rw [hG]
        refine hF.bind fun a' s' _ hD haN hN' => ?_
        simp only
        rw [hD.any]
        exact D1_some hD haN hN'
    · intro g d s ha hd hd2 hg hr hf
      rw [G]
      exact row_sim (R := .prod) Pr.sumL trivial trivial rfl rfl (W := loopP o_sum (prodP (exprP g))) (fun s e p n a hD => by rw [loopP, hD.any]; rfl) (H.prod g d s ha hd hd2 hg hr (by omega)) ha hd hr
        fun s' A n ha' hd' _ hfi hN hA _ hn hl => Sim.mono (H.sumL g d s' s.N A n ha' hd' hd2 hg (by omega) hN hA hn (by omega)) (by omega)
    · intro g d s ha hd hd2 hg hr hf
      rw [G]
      exact row_sim (R := .app) Pr.prodL trivial trivial rfl rfl (W := loopP o_prod (appP (exprP g))) (fun s e p n a hD => by rw [loopP, hD.any]; rfl) (H.app g d s ha hd hd2 hg hr (by omega)) ha hd hr
        fun s' A n ha' hd' _ hfi hN hA _ hn hl => Sim.mono (H.prodL g d s' s.N A n ha' hd' hd2 hg (by omega) hN hA hn (by omega)) (by omega)
    · intro g d s ha hd hd2 hg hr hf
      rw [G]
      unfold appP
      by_cases hk : kindT 3 s.l = true
      · rw [if_pos hk]
        obtain ⟨t, m, hl⟩ : ∃ t m, s.l = t :: m := by
          cases h : s.l with
          | nil => rw [h] at hk; cases hk
          | cons t m => exact ⟨t, m, rfl⟩
        have hl1 := congrArg List.length hl
        simp only [List.length_cons] at hl1
        have hk3 : t.k = 3 := by rw [hl] at hk; simpa [kindT] using hk
        rw [pk_cons hl, if_pos hk3]
        have htx : s.txt 3 = (t.s, { s with l := m }) := by unfold PS.txt; rw [pk_cons hl, if_pos hk3, nx_cons hl]
        rw [htx, plc_cons hl, hl]
        simp only [textT]
        rw [if_pos hk3]
        unfold fi at hr ⊢
        have h := H.post g d { s with l := m } ha hd hd2 hg (by unfold fi; simp only; omega) (by simp only; omega)
        rcases Sim.two (R := .post) trivial trivial h with ⟨b, l, hG, ho, hin, hlen, hsz, hll⟩ | ⟨e, q, hG, hF⟩
        · rw [hG, ho]
          simp only [eats, base] at hsz hll
          simp only [Rs.go, Option.bind_some, Sim]
          rw [add_some (by simp only [lay_len]; omega), lay1 _ _ _ rfl, List.length_append]
          simp only [List.length_singleton, Nat.add_sub_cancel]
          congr 3
          · rw [cast_pred (by rw [lay_len]; omega)]; rfl
        · rw [hG]
          refine hF.bind fun a s' ho hD haN hN => Fin.add hD _ ?_ ?_
          · unfold fi at hN; simp only at hN; omega
          · omega
      · rw [if_neg hk]
        have hk3 : ¬ s.pk.k = 3 := by
          intro h
          cases hl : s.l with
          | nil => rw [show s.pk = ⟨0, ⟨#[]⟩, 0, s.E⟩ by unfold PS.pk; rw [hl]] at h; cases h
          | cons t m => rw [pk_cons hl] at h; rw [hl] at hk; exact hk (by simpa [kindT] using h)
        rw [if_neg hk3]
        exact row_sim (R := .post) Pr.appL trivial trivial rfl rfl (W := appL (postP (exprP g))) (fun s e p n a hD => by rw [appL, hD.beg]; rfl) (H.post g d s ha hd hd2 hg hr (by omega)) ha hd hr
          fun s' A n ha' hd' _ hfi hN hA _ hn hl => Sim.mono (H.appL g d s' s.N A n ha' hd' hd2 hg (by omega) hN hA hn (by omega)) (by omega)
    · intro g d s ha hd hd2 hg hr hf
      rw [G]
      exact row_sim (R := .atom) Pr.postL trivial trivial rfl rfl (W := postL) (fun s e p n a hD => by rw [postL, hD.is]; rfl) (H.atom g d s ha hd hd2 hg hr (by omega)) ha hd hr
        fun s' A n ha' hd' _ hfi hN hA _ hn hl => Sim.mono (H.postL d s' s.N A n ha' hd' (by omega) hN hA hn (by omega)) (by omega)
    · intro g d s ha hd hd2 hg hr hf
      obtain ⟨g, rfl⟩ : ∃ k, g = k + 1 := ⟨g - 1, by omega⟩
      refine atom_sim (g := g) rfl (H.known hd2 hg fun n hn => by omega) hd2 (fun s' p ha' hd' _ hr' hl => ?_) (fun s' N0 a p ha' hd' _ hr' hN hA hl => ?_) ha hd hr
      · exact H.recL (g + 1) d p s' s'.N [] [] [] _ ha' hd' hd2 hg hr' rfl rfl rfl (by simp) (by omega) (by omega)
      · have hla : lays N0 [a] = (lay N0 a, [((lay N0 a).length : Int) - 1]) := lays_snoc N0 [] a
        have hpos : 1 <= (lay N0 a).length := by rw [lay_len]; omega
        exact H.casL (g + 1) d p (s'.N.length - 1) s' N0 [] [] [a] [] _ ha' hd' hd2 hg hr' (by rw [hla]; exact hN) (by rw [hla, hN, cast_pred hpos]) rfl rfl (by simp) (by omega) (by omega)
    · intro g d s N0 A n ha hd hd2 hg hr hN hA hn hf
      exact loop_sim (R := .prod) rel_sum Pr.sumL trivial trivial rfl rfl (fun E f A d l => by rw [G]; cases opOf sumOps l <;> rfl) (fun s A n h1 h2 h3 h4 h5 h6 h7 => H.sumL g d s N0 A n h1 h2 hd2 hg h3 h4 h5 h6 h7) (hprod g d _ hd2 hg fun n hn => by omega) ha hd hr hN hA hn hf
    · intro g d s N0 A n ha hd hd2 hg hr hN hA hn hf
      exact loop_sim (R := .app) rel_prod Pr.prodL trivial trivial rfl rfl (fun E f A d l => by rw [G]; cases opOf prodOps l <;> rfl) (fun s A n h1 h2 h3 h4 h5 h6 h7 => H.prodL g d s N0 A n h1 h2 hd2 hg h3 h4 h5 h6 h7) (happ g d _ hd2 hg fun n hn => by omega) ha hd hr hN hA hn hf
    · intro g d s N0 A n ha hd hd2 hg hr hN hA hn hf
      exact appL_sim (hpost g d _ hd2 hg fun n hn => by omega) (fun s A n h1 h2 h3 h4 h5 h6 h7 => H.appL g d s N0 A n h1 h2 hd2 hg h3 h4 h5 h6 h7) ha hd hr hN hA hn hf
    · intro d s N0 A n ha hd hr hN hA hn hf
      exact postL_sim (fun s A n h1 h2 h3 h4 h5 h6 h7 => H.postL d s N0 A n h1 h2 h3 h4 h5 h6 h7) ha hd hr hN hA hn hf
    · intro g d p s N0 fs gs ts n ha hd hd2 hg hr hN htl hgs h30 hn hf
      obtain ⟨g, rfl⟩ : ∃ k, g = k + 1 := ⟨g - 1, by omega⟩
      exact recL_sim (g := g) rfl (H.known hd2 hg fun n hn => by omega) hd2 (fun s fs gs ts n h1 h2 h3 h4 h5 h6 h7 h8 h9 => H.recL (g + 1) d p s N0 fs gs ts n h1 h2 hd2 hg h3 h4 h5 h6 h7 h8 h9) ha hd hr hN htl hgs h30 hn hf
    · intro g d p a0 s N0 fs gs ts K n ha hd hd2 hg hr hN hKK htl hgs h30 hn hf
      obtain ⟨g, rfl⟩ : ∃ k, g = k + 1 := ⟨g - 1, by omega⟩
      exact casL_sim (g := g) rfl (H.known hd2 hg fun n hn => by omega) hd2 (fun s fs gs ts K n h1 h2 h3 h4 h5 h6 h7 h8 h9 h10 => H.casL (g + 1) d p a0 s N0 fs gs ts K n h1 h2 hd2 hg h3 h4 h5 h6 h7 h8 h9 h10) ha hd hr hN hKK htl hgs h30 hn hf
end Go.Proofs.YtjakeidbajkdcaaGreatDoor.A
namespace Go.Proofs.YtjakeidbajkdcaaGreatDoor.Y
open T
def le0 (r r' : Rs) : Prop := r = .bad 0 0 ∨ r = r'
theorem go_le {r r' : Rs} {k k' : List Nd -> List Tk -> Rs} (h : le0 r r') (hk : ∀ t l, le0 (k t l) (k' t l)) : le0 (r.go k) (r'.go k') := by
  rcases h with rfl | rfl
  · exact .inl rfl
  · cases r with
    | ok t l => exact hk t l
    | bad e p => exact .inr rfl
theorem must_le {E k : Int} {s : List UInt8} {l : List Tk} {f f' : List Tk -> Rs} (h : ∀ m, le0 (f m) (f' m)) : le0 (must E k s l f) (must E k s l f') := by
  unfold must
  split
  · exact h _
  · exact .inr rfl
theorem text_le {E k : Int} {l : List Tk} {f f' : ByteArray -> List Tk -> Rs} (h : ∀ x m, le0 (f x m) (f' x m)) : le0 (textT E k l f) (textT E k l f') := by
  cases l with
  | nil => exact .inr rfl
  | cons y m =>
    simp only [textT]
    split
    · exact h _ _
    · exact .inr rfl
theorem ite_le {c : Prop} [Decidable c] {a b a' b' : Rs} (h1 : le0 a a') (h2 : le0 b b') : le0 (if c then a else b) (if c then a' else b') := by split <;> assumption
theorem lab_le {E k : Int} {fs : List Fld} {l : List Tk} {f f' : ByteArray -> List Tk -> Rs} (h : ∀ x m, le0 (f x m) (f' x m)) : le0 (labelT E k fs l f) (labelT E k fs l f') :=
  text_le fun x m => ite_le (.inr rfl) (ite_le (.inr rfl) (h x m))
theorem opt_le {o : Option Int} {a a' : Rs} {b b' : Int -> Rs} (h1 : le0 a a') (h2 : ∀ n, le0 (b n) (b' n)) : le0 (match o with | none => a | some n => b n) (match o with | none => a' | some n => b' n) := by
  cases o with
  | none => exact h1
  | some n => exact h2 n
theorem G_step {E : Int} {f g : Nat} (h : ∀ X d l, le0 (G E f X d l) (G E g X d l)) : ∀ X d l, le0 (G E (f + 1) X d l) (G E (g + 1) X d l) := by
  intro X d l
  have r : ∀ x : Rs, le0 x x := fun x => .inr rfl
  cases X with
  | expr =>
    simp only [G]
    refine ite_le (r _) (ite_le (text_le fun x m => must_le fun m => go_le (h _ _ _) fun t l => r _) (ite_le (ite_le (text_le fun x m => must_le fun m2 => go_le (h _ _ _) fun t l => ite_le (must_le fun m => go_le (h _ _ _) fun t l => r _) (r _)) (text_le fun x m => must_le fun m => go_le (h _ _ _) fun t l => must_le fun m => go_le (h _ _ _) fun t l => r _)) (ite_le (go_le (h _ _ _) fun t l => must_le fun m => go_le (h _ _ _) fun t l => must_le fun m => go_le (h _ _ _) fun t l => r _) (h _ _ _))))
  | cmp => simp only [G]; exact go_le (h _ _ _) fun t l => opt_le (r _) fun n => go_le (h _ _ _) fun t l => r _
  | sum => simp only [G]; exact go_le (h _ _ _) fun t l => h _ _ _
  | prod => simp only [G]; exact go_le (h _ _ _) fun t l => h _ _ _
  | app => simp only [G]; exact ite_le (text_le fun x m => go_le (h _ _ _) fun t l => r _) (go_le (h _ _ _) fun t l => h _ _ _)
  | post => simp only [G]; exact go_le (h _ _ _) fun t l => h _ _ _
  | atom =>
    cases l with
    | nil => simp only [G]; exact r _
    | cons y m =>
      simp only [G]
      exact ite_le (r _) (ite_le (r _) (ite_le (r _) (ite_le (r _) (ite_le (r _) (ite_le (go_le (h _ _ _) fun t l => r _) (ite_le (ite_le (r _) (h _ _ _)) (ite_le (go_le (h _ _ _) fun t l => must_le fun m => h _ _ _) (r _))))))))
  | sumL a => simp only [G]; exact opt_le (r _) fun n => go_le (h _ _ _) fun t l => h _ _ _
  | prodL a => simp only [G]; exact opt_le (r _) fun n => go_le (h _ _ _) fun t l => h _ _ _
  | appL a => simp only [G]; exact ite_le (go_le (h _ _ _) fun t l => h _ _ _) (r _)
  | postL a => simp only [G]; exact ite_le (text_le fun x m => h _ _ _) (r _)
  | recL p fs ts => simp only [G]; exact lab_le fun x m => must_le fun m => go_le (h _ _ _) fun t l => ite_le (h _ _ _) (must_le fun m => r _)
  | casL p fs ts => simp only [G]; exact lab_le fun x m => text_le fun x m => must_le fun m => go_le (h _ _ _) fun t l => ite_le (h _ _ _) (must_le fun m => r _)
theorem G_le (E : Int) : ∀ f X d l, le0 (G E f X d l) (G E (f + 1) X d l) := by
  intro f
  induction f with
  | zero => intro X d l; exact .inl (by cases X <;> rfl)
  | succ f ih => exact G_step ih
theorem G_add (E : Int) (f : Nat) (X : Pr) (d : Nat) (l : List Tk) : ∀ c, le0 (G E f X d l) (G E (f + c) X d l)
  | 0 => .inr rfl
  | c + 1 => by
    rcases G_add E f X d l c with h | h
    · exact .inl h
    · have h2 := G_le E (f + c) X d l
      unfold le0 at h2
      rw [<- h] at h2
      exact h2
def Ev (E : Int) (X : Pr) (d : Nat) (l : List Tk) (r : Rs) : Prop := ∃ c, ∀ f, c <= f -> G E f X d l = r
theorem Ev.need {E : Int} {X : Pr} {d : Nat} {l : List Tk} {r : Rs} (h : Ev E X d l r) {f : Nat} (hf : need X l.length <= f) : G E f X d l = r := by
  obtain ⟨c, hc⟩ := h
  rcases G_add E f X d l c with h | h
  · exact absurd rfl (G_bad E f X d l 0 0 hf h).1
  · rw [h, hc _ (by omega)]
theorem ev1 {E : Int} {X Y : Pr} {d d' : Nat} {l l' : List Tk} {r s : Rs} (h : Ev E X d l r) (hs : ∀ f, G E f X d l = r -> G E (f + 1) Y d' l' = s) : Ev E Y d' l' s := by
  obtain ⟨c, hc⟩ := h
  refine ⟨c + 1, fun f hf => ?_⟩
  obtain ⟨g, rfl⟩ : ∃ g, f = g + 1 := ⟨f - 1, by omega⟩
  exact hs g (hc g (by omega))
theorem ev0 {E : Int} {Y : Pr} {d' : Nat} {l' : List Tk} {s : Rs} (hs : ∀ f, G E (f + 1) Y d' l' = s) : Ev E Y d' l' s := by
  refine ⟨1, fun f hf => ?_⟩
  obtain ⟨g, rfl⟩ : ∃ g, f = g + 1 := ⟨f - 1, by omega⟩
  exact hs g
theorem ev2 {E : Int} {X1 X2 Y : Pr} {d1 d2 d' : Nat} {l1 l2 l' : List Tk} {r1 r2 s : Rs} (h1 : Ev E X1 d1 l1 r1) (h2 : Ev E X2 d2 l2 r2) (hs : ∀ f, G E f X1 d1 l1 = r1 -> G E f X2 d2 l2 = r2 -> G E (f + 1) Y d' l' = s) : Ev E Y d' l' s := by
  obtain ⟨c1, hc1⟩ := h1
  obtain ⟨c2, hc2⟩ := h2
  refine ⟨c1 + c2 + 1, fun f hf => ?_⟩
  obtain ⟨g, rfl⟩ : ∃ g, f = g + 1 := ⟨f - 1, by omega⟩
  exact hs g (hc1 g (by omega)) (hc2 g (by omega))
theorem ev3 {E : Int} {X1 X2 X3 Y : Pr} {d1 d2 d3 d' : Nat} {l1 l2 l3 l' : List Tk} {r1 r2 r3 s : Rs} (h1 : Ev E X1 d1 l1 r1) (h2 : Ev E X2 d2 l2 r2) (h3 : Ev E X3 d3 l3 r3) (hs : ∀ f, G E f X1 d1 l1 = r1 -> G E f X2 d2 l2 = r2 -> G E f X3 d3 l3 = r3 -> G E (f + 1) Y d' l' = s) : Ev E Y d' l' s := by
  obtain ⟨c1, hc1⟩ := h1
  obtain ⟨c2, hc2⟩ := h2
  obtain ⟨c3, hc3⟩ := h3
  refine ⟨c1 + c2 + c3 + 1, fun f hf => ?_⟩
  obtain ⟨g, rfl⟩ : ∃ g, f = g + 1 := ⟨f - 1, by omega⟩
  exact hs g (hc1 g (by omega)) (hc2 g (by omega)) (hc3 g (by omega))
theorem ev_post {E : Int} {d : Nat} {l l1 : List Tk} {a : List Nd} {r : Rs} (h1 : Ev E .atom d l (.ok a l1)) (h2 : Ev E (.postL a) d l1 r) : Ev E .post d l r := ev2 h1 h2 fun f e1 e2 => by simp only [G]; rw [e1]; exact e2
theorem ev_app {E : Int} {d : Nat} {l l1 : List Tk} {a : List Nd} {r : Rs} (hk : kindT 3 l = false) (h1 : Ev E .post d l (.ok a l1)) (h2 : Ev E (.appL a) d l1 r) : Ev E .app d l r := ev2 h1 h2 fun f e1 e2 => by simp only [G]; rw [if_neg (by rw [hk]; decide), e1]; exact e2
theorem ev_prod {E : Int} {d : Nat} {l l1 : List Tk} {a : List Nd} {r : Rs} (h1 : Ev E .app d l (.ok a l1)) (h2 : Ev E (.prodL a) d l1 r) : Ev E .prod d l r := ev2 h1 h2 fun f e1 e2 => by simp only [G]; rw [e1]; exact e2
theorem ev_sum {E : Int} {d : Nat} {l l1 : List Tk} {a : List Nd} {r : Rs} (h1 : Ev E .prod d l (.ok a l1)) (h2 : Ev E (.sumL a) d l1 r) : Ev E .sum d l r := ev2 h1 h2 fun f e1 e2 => by simp only [G]; rw [e1]; exact e2
theorem ev_cmp0 {E : Int} {d : Nat} {l l1 : List Tk} {a : List Nd} (h1 : Ev E .sum d l (.ok a l1)) (ho : opOf cmpOps l1 = none) : Ev E .cmp d l (.ok a l1) := ev1 h1 fun f e1 => by simp only [G]; rw [e1]; simp only [Rs.go, ho]
theorem ev_cmp1 {E : Int} {d : Nat} {l l1 l2 : List Tk} {a b : List Nd} {n : Int} (h1 : Ev E .sum d l (.ok a l1)) (ho : opOf cmpOps l1 = some n) (h2 : Ev E .sum d l1.tail (.ok b l2)) : Ev E .cmp d l (.ok (joinN { mk 10 (plc E l1) with n := n } [a, b]) l2) := ev2 h1 h2 fun f e1 e2 => by simp only [G]; rw [e1]; simp only [Rs.go, ho]; rw [e2]
theorem ev_sum0 {E : Int} {d : Nat} {l : List Tk} {a : List Nd} (ho : opOf sumOps l = none) : Ev E (.sumL a) d l (.ok a l) := ev0 fun f => by simp only [G, ho]
theorem ev_sum1 {E : Int} {d : Nat} {l l2 : List Tk} {a b : List Nd} {n : Int} {r : Rs} (ho : opOf sumOps l = some n) (h1 : Ev E .prod d l.tail (.ok b l2)) (h2 : Ev E (.sumL (joinN { mk 10 (plc E l) with n := n } [a, b])) d l2 r) : Ev E (.sumL a) d l r := ev2 h1 h2 fun f e1 e2 => by simp only [G, ho]; rw [e1]; exact e2
theorem ev_prod0 {E : Int} {d : Nat} {l : List Tk} {a : List Nd} (ho : opOf prodOps l = none) : Ev E (.prodL a) d l (.ok a l) := ev0 fun f => by simp only [G, ho]
theorem ev_prod1 {E : Int} {d : Nat} {l l2 : List Tk} {a b : List Nd} {n : Int} {r : Rs} (ho : opOf prodOps l = some n) (h1 : Ev E .app d l.tail (.ok b l2)) (h2 : Ev E (.prodL (joinN { mk 10 (plc E l) with n := n } [a, b])) d l2 r) : Ev E (.prodL a) d l r := ev2 h1 h2 fun f e1 e2 => by simp only [G, ho]; rw [e1]; exact e2
theorem ev_app0 {E : Int} {d : Nat} {l : List Tk} {a : List Nd} (hb : begins l = false) : Ev E (.appL a) d l (.ok a l) := ev0 fun f => by simp only [G]; rw [if_neg (by rw [hb]; decide)]
theorem ev_app1 {E : Int} {d : Nat} {l l1 : List Tk} {a b : List Nd} {r : Rs} (hb : begins l = true) (h1 : Ev E .post d l (.ok b l1)) (h2 : Ev E (.appL (joinN (mk 6 (lastP a)) [a, b])) d l1 r) : Ev E (.appL a) d l r := ev2 h1 h2 fun f e1 e2 => by simp only [G]; rw [if_pos hb, e1]; exact e2
theorem ev_tag {E : Int} {d : Nat} {t : Tk} {l l1 : List Tk} {a : List Nd} (hk : t.k = 3) (h1 : Ev E .post d l (.ok a l1)) : Ev E .app d (t :: l) (.ok (joinN { mk 13 t.p with nm := t.s } [a]) l1) := ev1 h1 fun f e1 => by
  simp only [G]
  rw [if_pos (by simp [kindT, hk])]
  simp only [textT, hk, if_true, plc]
  rw [e1]
  rfl
theorem ev_post0 {E : Int} {d : Nat} {l : List Tk} {a : List Nd} (hb : isT 7 s_dot l = false) : Ev E (.postL a) d l (.ok a l) := ev0 fun f => by simp only [G]; rw [if_neg (by rw [hb]; decide)]
theorem ev_post1 {E : Int} {d : Nat} {t u : Tk} {l : List Tk} {a : List Nd} {r : Rs} (ht : isT 7 s_dot (t :: u :: l) = true) (hk : u.k = 2) (h : Ev E (.postL (joinN { mk 12 t.p with nm := u.s } [a])) d l r) : Ev E (.postL a) d (t :: u :: l) r := ev1 h fun f e1 => by
  simp only [G]
  rw [if_pos ht]
  simp only [List.tail_cons, textT, hk, if_true, plc]
  exact e1
theorem ev_par {E : Int} {d : Nat} {t u : Tk} {l l1 : List Tk} {a : List Nd} (hk : t.k = 7) (ht : t.s.toList = s_lpar) (h : Ev E .expr d l (.ok a (u :: l1))) (hu : isT 7 s_rpar (u :: l1) = true) : Ev E .atom d (t :: l) (.ok a l1) := ev1 h fun f e1 => by
  have h1 : isT 1 w_true (t :: l) = false := by simp [isT, hk]
  have h2 : isT 1 w_false (t :: l) = false := by simp [isT, hk]
  have h3 : isT 7 s_lpar (t :: l) = true := by simp [isT, hk, ht]
  simp only [G]
  rw [if_neg (by omega), if_neg (by omega), if_neg (by omega), if_neg (by rw [h1]; decide), if_neg (by rw [h2]; decide), if_pos h3, e1]
  simp only [Rs.go, T.must]
  rw [if_pos hu]
  rfl
end Go.Proofs.YtjakeidbajkdcaaGreatDoor.Y
