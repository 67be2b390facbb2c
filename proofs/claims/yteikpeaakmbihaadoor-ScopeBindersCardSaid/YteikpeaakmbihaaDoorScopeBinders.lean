/- For any list of nodes and any place the law ScopeBinders returns true: the binders of a tree's names, and what a node binds, are as the document says, or refused; each argument reads as before.
   Conditions: the listed variables lie as the program's text lays them (the card ties them); strings and slices are no longer than the form's own reach; nothing else. -/
import Derived.Test.YteikpeaakmbihaaDoorG49
import Derived.Test.YteikpeaakmbihaaDoorG37
namespace Go.Proofs.YteikpeaakmbihaaDoor
open Go.ChangeShapes Go.WideShapes Go.ChangeAt Go.RowKit Go.ChangeMaps
namespace T
theorem kws_onB {w W : World} (hK : Kws w.heap.size w) (hb : Below w.heap.size w W) : Kws W.heap.size W := Kws_mono (hK.on hb) hb.size
theorem scopeBinders_any (w : World) (hK : Kws w.heap.size w) (va : Value) (a : List Nd) (hA : Nodes w.heap.size w va a) (hfa : ∀ y ∈ a, Fit y) (i : Int) (_lo : -9223372036854775808 ≤ i) (_up : i ≤ 9223372036854775807) :
    Calls Tryd.prog 7 #[.agg #[va], .int .i64 i] w fun e w' => e = .returned (.bool true) ∧ Below w.heap.size w w' := by
  obtain ⟨A0, c0, rfl, hxa⟩ := hA
  have hA : Nodes w.heap.size w (.slice A0 a.length c0) a := ⟨A0, c0, rfl, hxa⟩
  have hsa := fit_few hfa
  have hLa := few_len a
  obtain ⟨la, hla⟩ : ∃ la, few a = la := ⟨_, rfl⟩
  have hma : few la = la := by rw [← hla]; exact few_few a
  rw [hla] at hsa hLa
  have hS := fun x hx => (hsa x hx).1
  have hl1 : ∀ x ∈ la, x.l.length ≤ 1000000 := fun x hx => (hS x hx).2.2.1
  by_cases hm : may la = 0
  · have HB : ∀ (W : World) (v : Value), Kws W.heap.size W → Nodes W.heap.size W v la → Calls Tryd.prog 30 #[.agg #[v]] W fun e W' => ∃ g c, e = .returned (.tuple #[.slice (some ⟨g, 0, none⟩) la.length c, .int .i64 0]) ∧ RowB W' g (bdp la) ∧ Below W.heap.size W W' := fun W v h1 h2 => by
      refine (bind_ok la v hm W h1 h2 hS).mono ?_
      rintro e W' ⟨gl, cl, rfl, hg, _, _, _, hb⟩
      exact ⟨gl, cl, rfl, RowB.blk hg, hb⟩
    have HR : ∀ (W : World) (v : Value), Nodes W.heap.size W v la → Calls Tryd.prog 33 #[.agg #[v]] W fun e W' => ∃ g c, e = .returned (.slice (some ⟨g, 0, none⟩) la.length c) ∧ RowB W' g (bdp la) ∧ Below W.heap.size W W' := fun W v h => by
      refine (rbind_law la v hm W h hl1).mono ?_
      rintro e W' ⟨g, c, rfl, hr, _, hb⟩
      exact ⟨g, c, rfl, hr, hb⟩
    by_cases hi : 0 ≤ i ∧ i < (la.length : Int)
    · obtain ⟨n, rfl⟩ := Int.eq_ofNat_of_zero_le hi.1
      exact binds_in a la (bdp la) A0 a.length c0 n (usl (bdp la) n) _ w (Lib.hid fun W hb => kws_onB hK hb) (by omega) (Lib.hid fun W h => sworks_any W h)
        (Lib.hid fun W hb => few_any _ a W ((hA.below hb).mono hb.size)) (Lib.hid hla) (Lib.hid fun W A c h => few_nodes la la _ hma rfl _ W h)
        (Lib.hid HB) (Lib.hid (bdp_len la)) (Lib.hid fun W v h1 h2 => (uses_ok la v n hm (by omega) W h1 h2 hS).mono fun e W' h => h)
        (Lib.hid fun W v h => by have := rmay_all la v W h hS; rwa [hm] at this) (Lib.hid HR) (Lib.hid rfl) (by have := usl_len (bdp la) n; rw [bdp_len] at this; omega)
        (Lib.hid fun W v h => ruses_any la v n hm W h hl1) hi.1 hi.2
    · exact binds_out a la (bdp la) A0 a.length c0 i w (Lib.hid fun W hb => kws_onB hK hb) (by omega) (Lib.hid fun W h => sworks_any W h)
        (Lib.hid fun W hb => few_any _ a W ((hA.below hb).mono hb.size)) (Lib.hid hla) (Lib.hid fun W A c h => few_nodes la la _ hma rfl _ W h)
        (Lib.hid HB) (Lib.hid (bdp_len la)) (Lib.hid fun W v h1 h2 => uses_none la v i hm (by omega) W h1 h2 hS)
        (Lib.hid fun W v h => by have := rmay_all la v W h hS; rwa [hm] at this) (Lib.hid HR) (by omega)
  · exact binds_bad a la A0 a.length c0 i (may la) hm w (Lib.hid fun W hb => kws_onB hK hb) (Lib.hid fun W h => sworks_any W h)
      (Lib.hid fun W hb => few_any _ a W ((hA.below hb).mono hb.size)) (Lib.hid hla) (Lib.hid fun W A c h => few_nodes la la _ hma rfl _ W h)
      (Lib.hid fun W v h1 h2 => bind_bad la v _ rfl hm W h1 h2 hS) (Lib.hid fun W v h1 h2 => uses_bad la v i _ rfl hm W h1 h2 hS) (Lib.hid fun W v h => rmay_all la v W h hS)
end T
set_option maxRecDepth 100000 in
theorem scopeBinders_lifted (os : Os) (started : os.Started) (H : Type) (enc : TypeId × Value → H) :
    ReturnsInHanded {} Tryd.checked os 7 .any (fun w args => (Rows.scopeBindersSpec.pre enc Tryd.prog Tryd.f7 [] false w args ∧ laidMetH Tryd.prog listed w) ∧ sizedMet enc Tryd.prog Tryd.f7 (OpenSpec.ofChange Rows.scopeBindersSpec) false w args)
      (Rows.scopeBindersSpec.post enc Tryd.prog Tryd.f7 false true false false) := by
  refine returnsInHanded_of_change_and (C := Tryd.checked) (X := fun w _ => laidMetH Tryd.prog listed w) (fun _ _ _ hh h => h.of_heap hh) own started (by kernel_rfl) Tryd.func7
    (ChangeSpec.witness_shaped (enc := enc) (C := Tryd.checked) (os := os) (X := fun w _ => laidMetH Tryd.prog listed w) false (World.doorLaid Tryd.prog 400 os) #[.agg #[.slice none 0 0], .int .i64 0] 8 rfl (door_shaped os _) (by kernel_rfl) (by kernel_rfl) (by kernel_rfl) (door_met os _)) ?_
  intro W base args ds gs before hval0 hW _ hsz hL _
  have hval : ∀ (j : Nat) t v, Tryd.f7.params[j]? = some t → args[j]? = some v → Value.okWide Tryd.prog W .any base t v := hval0
  have hW' := hW
  obtain ⟨p, q, hA0, hV, rfl, hfz, hnd⟩ := hW
  have hA : DataW.TrodAll enc Tryd.prog W 0 (fun _ => true) true Tryd.f7.params.toList args.toList ds p := hA0
  rw [Tryd.params7] at hA hval
  have hK := kws_of_laid hL
  obtain ⟨v0, vs0, d0, ds0, p0, q0, hargs, rfl, rfl, h0, r0⟩ := trodAll_cons hA
  obtain ⟨v1, vs1, d1, ds1, p1, q1, rfl, rfl, rfl, h1, r1⟩ := trodAll_cons r0
  obtain ⟨rfl, rfl, rfl⟩ := trodAll_nil r1
  obtain rfl : args = #[v0, v1] := by cases args; simp_all
  obtain ⟨rfl, rfl⟩ := trodVars_none hV
  simp only [List.append_nil] at hW'
  have k0 : ∀ (W' : World), Below W.heap.size W W' → DataW.Trod enc Tryd.prog W' 0 (fun b => decide (b < W.heap.size)) true 24 v0 d0 p0 :=
    fun W' hn => Below.trod T.laidOut (by kernel_rfl) (of_decide_eq_true (by kernel_rfl)) h0 hn (fun x hx => by simpa using hW'.lt x (List.mem_append_left _ hx))
  have k1 : ∀ (W' : World), Below W.heap.size W W' → DataW.Trod enc Tryd.prog W' 0 (fun b => decide (b < W.heap.size)) true 3 v1 d1 p1 :=
    fun W' hn => Below.trod T.laidOut (by kernel_rfl) (of_decide_eq_true (by kernel_rfl)) h1 hn (fun x hx => by simpa using hW'.lt x (List.mem_append_right _ hx))
  obtain ⟨x0, y0, e0, n0, f0⟩ := (T.arg_expr (hval 0 24 v0 rfl rfl) h0 (T.light_of hsz (j := 0) (t := 24) rfl rfl))
  obtain ⟨i1, hi1, lo1, up1⟩ := T.arg_int (hval 1 3 v1 rfl rfl) h1
  have fin : ∀ e W', (e = Ending.returned (.bool true) ∧ Below W.heap.size W W') →
      ∃ v, e = Ending.returned v ∧ Rows.scopeBindersSpec.post enc Tryd.checked.prog Tryd.f7 false true false false W #[v0, v1] v W' := by
    rintro e W' ⟨rfl, hg⟩
    exact ⟨_, rfl, _, _, _, [], p0 ++ p1, [], hW', (trodAll_cons_mk (shut_bool Tryd.underlying4 true) trodAll_mk0), (T.trod_2 (k0 _ hg) (k1 _ hg)), rfl, hg.frame _, fun h => by cases h⟩
  subst e0
  subst hi1
  exact (T.scopeBinders_any W hK x0 y0 n0 f0 i1 lo1 up1).mono fin
theorem scopeBinders_holds : Rows.ScopeBindersSaid :=
  OpenClaim.holds_of_wide 7 Tryd.f7 rfl rfl rfl rfl rfl rfl rfl ⟨rfl, rfl, rfl, rfl, rfl⟩ rfl rfl rfl rfl rfl (by kernel_rfl) Tryd.func7 (by kernel_rfl)
    (of_decide_eq_true (by kernel_rfl)) (by unfold Func.isWrapper; first | (rw [if_pos (by decide +kernel)]; kernel_rfl) | (rw [if_neg (by decide +kernel)]; exact ⟨rfl, rfl⟩))
    (fun os started H enc _ => scopeBinders_lifted os started H enc)
theorem scopeBinders_card : Rows.ScopeBindersCardSaid :=
  Claim7.holds_tied_plain_at .later [] [.data] true (true, "3f4ebccfb12b1ccd389c501ffd003a9f1f4e888abf5517fe329fc68e34a1e74b") false
    scopeBinders_holds (fun _ h => by cases h) (by kernel_rfl) (fun _ h => by cases h) scopeBinders_row_tie rfl ⟨rfl, rfl⟩ (by kernel_rfl) rfl
    (fun f fn hf hfn => by
      obtain rfl : f = 7 := Option.some.inj ((show Tryd.prog.funcNamed "syntagma/syntagmalaw06.ScopeBinders" = some 7 by kernel_rfl).symm.trans hf) |>.symm
      obtain rfl : fn = Tryd.f7 := (Option.some.inj (Tryd.func7.symm.trans hfn)).symm
      exact ⟨by kernel_rfl, fun j t ht => by
        rw [Tryd.params7] at ht
        have hm : t ∈ [24, 3] := by simpa using Array.mem_of_getElem? ht
        have hall : ([24, 3].all fun u => !Tryd.prog.wantsStandIn u) = true := by kernel_rfl
        exact (show Tryd.prog.wantsStandIn t = false by simpa using List.all_eq_true.1 hall t hm)⟩)
    (by kernel_rfl)
#print axioms scopeBinders_card
end Go.Proofs.YteikpeaakmbihaaDoor
