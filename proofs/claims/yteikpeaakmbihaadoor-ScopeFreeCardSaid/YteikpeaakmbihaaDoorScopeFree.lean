/- For any list of nodes the law ScopeFree returns true: which names are free in a tree, and whether it is closed, is as the document says, or refused; the argument reads as before.
   Conditions: the listed variables lie as the program's text lays them (the card ties them); strings and slices are no longer than the form's own reach; nothing else. -/
import Derived.Test.YteikpeaakmbihaaDoorG45
import Derived.Test.YteikpeaakmbihaaDoorG35
namespace Go.Proofs.YteikpeaakmbihaaDoor
open Go.ChangeShapes Go.WideShapes Go.ChangeAt Go.RowKit Go.ChangeMaps
namespace T
theorem kws_onF {w W : World} (hK : Kws w.heap.size w) (hb : Below w.heap.size w W) : Kws W.heap.size W := Kws_mono (hK.on hb) hb.size
theorem scopeFree_any (w : World) (hK : Kws w.heap.size w) (va : Value) (a : List Nd) (hA : Nodes w.heap.size w va a) (hfa : ∀ y ∈ a, Fit y) :
    Calls Tryd.prog 8 #[.agg #[va]] w fun e w' => e = .returned (.bool true) ∧ Below w.heap.size w w' := by
  obtain ⟨A0, c0, rfl, hxa⟩ := hA
  have hA : Nodes w.heap.size w (.slice A0 a.length c0) a := ⟨A0, c0, rfl, hxa⟩
  have hsa := fit_few hfa
  have hLa := few_len a
  obtain ⟨la, hla⟩ : ∃ la, few a = la := ⟨_, rfl⟩
  have hma : few la = la := by rw [← hla]; exact few_few a
  rw [hla] at hsa hLa
  have hS := fun x hx => (hsa x hx).1
  have hl1 : ∀ x ∈ la, x.l.length ≤ 1000000 := fun x hx => (hS x hx).2.2.1
  by_cases hm : may la = 0
  · have hfl : (frs la (fpl la)).length ≤ 1000 := by
      have h1 := frs_len la (fpl la)
      have h2 := fpz_len (la.zip (bdp la))
      rw [List.length_zip, bdp_len] at h2
      have h3 : (fpl la).length = (fpz (la.zip (bdp la))).length := rfl
      omega
    refine frees_ok a la A0 a.length c0 w (frs la (fpl la)) 0 (clo (fpl la)).1 (clo (fpl la)).2 (Lib.hid fun W hb => kws_onF hK hb) (Lib.hid fun W h => sworks_any W h)
      (Lib.hid fun W hb => few_any _ a W ((hA.below hb).mono hb.size)) (Lib.hid hla) (Lib.hid fun W A c h => few_nodes la la _ hma rfl _ W h)
      (Lib.hid fun W v h1 h2 => free_ok la v hm W h1 h2 hsa) (Lib.hid fun W v h1 h2 => closed_ok la v hm W h1 h2 hS) (Lib.hid fun W v h => by have := rmay_all la v W h hS; rwa [hm] at this)
      rfl _ (Lib.hid rfl) hfl (rclo (fpl la)) (Lib.hid fun W v h => rclosed_any la v hm W h hl1) (Lib.hid fun W v h => rfree_any la v hm W h hl1) ?_
    cases hp : fpl la with
    | nil => exact .inr ⟨by show (-1 : Int) < 0; decide, rfl, rfl, rfl⟩
    | cons p P => exact .inl ⟨(fpl_mem (l := la) (p := p) (by rw [hp]; simp)).1, rfl, rfl⟩
  · exact frees_bad a la A0 a.length c0 w [] (may la) 0 (may la) (Lib.hid fun W hb => kws_onF hK hb) (Lib.hid fun W h => sworks_any W h)
      (Lib.hid fun W hb => few_any _ a W ((hA.below hb).mono hb.size)) (Lib.hid hla) (Lib.hid fun W A c h => few_nodes la la _ hma rfl _ W h)
      (Lib.hid fun W v h1 h2 => free_bad la v _ rfl hm W h1 h2 hS) (Lib.hid fun W v h1 h2 => closed_bad la v _ rfl hm W h1 h2 hS) (Lib.hid fun W v h => rmay_all la v W h hS)
      hm rfl ⟨rfl, rfl⟩
end T
set_option maxRecDepth 100000 in
theorem scopeFree_lifted (os : Os) (started : os.Started) (H : Type) (enc : TypeId × Value → H) :
    ReturnsInHanded {} Tryd.checked os 8 .any (fun w args => (Rows.scopeFreeSpec.pre enc Tryd.prog Tryd.f8 [] false w args ∧ laidMetH Tryd.prog listed w) ∧ sizedMet enc Tryd.prog Tryd.f8 (OpenSpec.ofChange Rows.scopeFreeSpec) false w args)
      (Rows.scopeFreeSpec.post enc Tryd.prog Tryd.f8 false true false false) := by
  refine returnsInHanded_of_change_and (C := Tryd.checked) (X := fun w _ => laidMetH Tryd.prog listed w) (fun _ _ _ hh h => h.of_heap hh) own started (by kernel_rfl) Tryd.func8
    (ChangeSpec.witness_shaped (enc := enc) (C := Tryd.checked) (os := os) (X := fun w _ => laidMetH Tryd.prog listed w) false (World.doorLaid Tryd.prog 400 os) #[.agg #[.slice none 0 0]] 8 rfl (door_shaped os _) (by kernel_rfl) (by kernel_rfl) (by kernel_rfl) (door_met os _)) ?_
  intro W base args ds gs before hval0 hW _ hsz hL _
  have hval : ∀ (j : Nat) t v, Tryd.f8.params[j]? = some t → args[j]? = some v → Value.okWide Tryd.prog W .any base t v := hval0
  have hW' := hW
  obtain ⟨p, q, hA0, hV, rfl, hfz, hnd⟩ := hW
  have hA : DataW.TrodAll enc Tryd.prog W 0 (fun _ => true) true Tryd.f8.params.toList args.toList ds p := hA0
  rw [Tryd.params8] at hA hval
  have hK := kws_of_laid hL
  obtain ⟨v0, vs0, d0, ds0, p0, q0, hargs, rfl, rfl, h0, r0⟩ := trodAll_cons hA
  obtain ⟨rfl, rfl, rfl⟩ := trodAll_nil r0
  obtain rfl : args = #[v0] := by cases args; simp_all
  obtain ⟨rfl, rfl⟩ := trodVars_none hV
  simp only [List.append_nil] at hW'
  have k0 : ∀ (W' : World), Below W.heap.size W W' → DataW.Trod enc Tryd.prog W' 0 (fun b => decide (b < W.heap.size)) true 24 v0 d0 p0 :=
    fun W' hn => Below.trod T.laidOut (by kernel_rfl) (of_decide_eq_true (by kernel_rfl)) h0 hn (fun x hx => by simpa using hW'.lt x (hx))
  obtain ⟨x0, y0, e0, n0, f0⟩ := (T.arg_expr (hval 0 24 v0 rfl rfl) h0 (T.light_of hsz (j := 0) (t := 24) rfl rfl))
  have fin : ∀ e W', (e = Ending.returned (.bool true) ∧ Below W.heap.size W W') →
      ∃ v, e = Ending.returned v ∧ Rows.scopeFreeSpec.post enc Tryd.checked.prog Tryd.f8 false true false false W #[v0] v W' := by
    rintro e W' ⟨rfl, hg⟩
    exact ⟨_, rfl, _, _, _, [], p0, [], hW', (trodAll_cons_mk (shut_bool Tryd.underlying4 true) trodAll_mk0), (T.trod_1 (k0 _ hg)), rfl, hg.frame _, fun h => by cases h⟩
  subst e0
  exact (T.scopeFree_any W hK x0 y0 n0 f0).mono fin
theorem scopeFree_holds : Rows.ScopeFreeSaid :=
  OpenClaim.holds_of_wide 8 Tryd.f8 rfl rfl rfl rfl rfl rfl rfl ⟨rfl, rfl, rfl, rfl, rfl⟩ rfl rfl rfl rfl rfl (by kernel_rfl) Tryd.func8 (by kernel_rfl)
    (of_decide_eq_true (by kernel_rfl)) (by unfold Func.isWrapper; first | (rw [if_pos (by decide +kernel)]; kernel_rfl) | (rw [if_neg (by decide +kernel)]; exact ⟨rfl, rfl⟩))
    (fun os started H enc _ => scopeFree_lifted os started H enc)
theorem scopeFree_card : Rows.ScopeFreeCardSaid :=
  Claim7.holds_tied_plain_at .later [] [.data] true (true, "3f4ebccfb12b1ccd389c501ffd003a9f1f4e888abf5517fe329fc68e34a1e74b") false
    scopeFree_holds (fun _ h => by cases h) (by kernel_rfl) (fun _ h => by cases h) scopeFree_row_tie rfl ⟨rfl, rfl⟩ (by kernel_rfl) rfl
    (fun f fn hf hfn => by
      obtain rfl : f = 8 := Option.some.inj ((show Tryd.prog.funcNamed "syntagma/syntagmalaw06.ScopeFree" = some 8 by kernel_rfl).symm.trans hf) |>.symm
      obtain rfl : fn = Tryd.f8 := (Option.some.inj (Tryd.func8.symm.trans hfn)).symm
      exact ⟨by kernel_rfl, fun j t ht => by
        rw [Tryd.params8] at ht
        have hm : t ∈ [24] := by simpa using Array.mem_of_getElem? ht
        have hall : ([24].all fun u => !Tryd.prog.wantsStandIn u) = true := by kernel_rfl
        exact (show Tryd.prog.wantsStandIn t = false by simpa using List.all_eq_true.1 hall t hm)⟩)
    (by kernel_rfl)
#print axioms scopeFree_card
end Go.Proofs.YteikpeaakmbihaaDoor
