/- For any two lists of nodes the law ScopeSame returns true: alpha is as the document says: trees that are the same are alpha, trees that are alpha have the same free names; the arguments read as before.
   Conditions: the listed variables lie as the program's text lays them (the card ties them); strings and slices are no longer than the form's own reach; nothing else. -/
import Derived.Test.YteikpeaakmbihaaDoorG49
import Derived.Test.YteikpeaakmbihaaDoorG47
import Derived.Test.YteikpeaakmbihaaDoorG35
namespace Go.Proofs.YteikpeaakmbihaaDoor
open Go.ChangeShapes Go.WideShapes Go.ChangeAt Go.RowKit Go.ChangeMaps
namespace T
theorem kws_onS {w W : World} (hK : Kws w.heap.size w) (hb : Below w.heap.size w W) : Kws W.heap.size W := Kws_mono (hK.on hb) hb.size
theorem scopeSame_any (w : World) (hK : Kws w.heap.size w) (va : Value) (a : List Nd) (hA : Nodes w.heap.size w va a) (hfa : ∀ y ∈ a, Fit y) (vb : Value) (b : List Nd) (hB : Nodes w.heap.size w vb b) (hfb : ∀ y ∈ b, Fit y) :
    Calls Tryd.prog 9 #[.agg #[va], .agg #[vb]] w fun e w' => e = .returned (.bool true) ∧ Below w.heap.size w w' := by
  obtain ⟨A0, c0, rfl, hxa⟩ := hA
  have hA : Nodes w.heap.size w (.slice A0 a.length c0) a := ⟨A0, c0, rfl, hxa⟩
  obtain ⟨B0, d0, rfl, hxb⟩ := hB
  have hB : Nodes w.heap.size w (.slice B0 b.length d0) b := ⟨B0, d0, rfl, hxb⟩
  have hsa := fit_few hfa
  have hsb := fit_few hfb
  have hLa := few_len a
  have hLb := few_len b
  obtain ⟨la, hla⟩ : ∃ la, few a = la := ⟨_, rfl⟩
  obtain ⟨lb, hlb⟩ : ∃ lb, few b = lb := ⟨_, rfl⟩
  rw [hla] at hsa hLa
  rw [hlb] at hsb hLb
  have hfl : (frs la (fpl la)).length ≤ 1000 := by
    have h1 := frs_len la (fpl la)
    have h2 := fpz_len (la.zip (bdp la))
    rw [List.length_zip, bdp_len] at h2
    have h3 : (fpl la).length = (fpz (la.zip (bdp la))).length := rfl
    omega
  exact sames_a a b la lb A0 B0 a.length b.length c0 d0 (alp la lb) (frs la (fpl la)) (frs lb (fpl lb)) _ w (Lib.hid fun W hb => kws_onS hK hb) (Lib.hid fun W h => sworks_any W h)
    (Lib.hid fun W hb => few_any _ a W ((hA.below hb).mono hb.size)) (Lib.hid fun W hb => few_any _ b W ((hB.below hb).mono hb.size)) (Lib.hid hla) (Lib.hid hlb)
    (Lib.hid fun W v u hW h1 h2 => alpha_any la lb v u W hW h1 h2 hsa hsb (by omega) (by omega))
    (fun hT => Lib.hid fun W v u h1 h2 => by
      have := rsame_any la lb v u W h1 h2 (fun x hx => (hsa x hx).1) (fun x hx => (hsb x hx).1)
      have hf : tsm la lb = false := by
        cases hc : tsm la lb with
        | false => rfl
        | true => rw [alp_of_same hc] at hT; cases hT
      rwa [hf] at this)
    (fun hT => Lib.hid fun W v hW h => free_ok la v (alp_may hT).1 W hW h hsa)
    (fun hT => Lib.hid fun W v hW h => free_ok lb v (alp_may hT).2 W hW h hsb)
    (Lib.hid rfl) (fun hT => Lib.hid (alp_free hT).1.symm) hfl (fun hT => Lib.hid (alp_free hT).2)
end T
set_option maxRecDepth 100000 in
theorem scopeSame_lifted (os : Os) (started : os.Started) (H : Type) (enc : TypeId × Value → H) :
    ReturnsInHanded {} Tryd.checked os 9 .any (fun w args => (Rows.scopeSameSpec.pre enc Tryd.prog Tryd.f9 [] false w args ∧ laidMetH Tryd.prog listed w) ∧ sizedMet enc Tryd.prog Tryd.f9 (OpenSpec.ofChange Rows.scopeSameSpec) false w args)
      (Rows.scopeSameSpec.post enc Tryd.prog Tryd.f9 false true false false) := by
  refine returnsInHanded_of_change_and (C := Tryd.checked) (X := fun w _ => laidMetH Tryd.prog listed w) (fun _ _ _ hh h => h.of_heap hh) own started (by kernel_rfl) Tryd.func9
    (ChangeSpec.witness_shaped (enc := enc) (C := Tryd.checked) (os := os) (X := fun w _ => laidMetH Tryd.prog listed w) false (World.doorLaid Tryd.prog 400 os) #[.agg #[.slice none 0 0], .agg #[.slice none 0 0]] 8 rfl (door_shaped os _) (by kernel_rfl) (by kernel_rfl) (by kernel_rfl) (door_met os _)) ?_
  intro W base args ds gs before hval0 hW _ hsz hL _
  have hval : ∀ (j : Nat) t v, Tryd.f9.params[j]? = some t → args[j]? = some v → Value.okWide Tryd.prog W .any base t v := hval0
  have hW' := hW
  obtain ⟨p, q, hA0, hV, rfl, hfz, hnd⟩ := hW
  have hA : DataW.TrodAll enc Tryd.prog W 0 (fun _ => true) true Tryd.f9.params.toList args.toList ds p := hA0
  rw [Tryd.params9] at hA hval
  have hK := kws_of_laid hL
  obtain ⟨v0, vs0, d0, ds0, p0, q0, hargs, rfl, rfl, h0, r0⟩ := trodAll_cons hA
  obtain ⟨v1, vs1, d1, ds1, p1, q1, rfl, rfl, rfl, h1, r1⟩ := trodAll_cons r0
  obtain ⟨rfl, rfl, rfl⟩ := trodAll_nil r1
  obtain rfl : args = #[v0, v1] := by cases args; simp_all
  obtain ⟨rfl, rfl⟩ := trodVars_none hV
  simp only [List.append_nil] at hW'
  have k0 : ∀ (W' : World), Below W.heap.size W W' → DataW.Trod enc Tryd.prog W' 0 (fun b => decide (b < W.heap.size)) true 24 v0 d0 p0 :=
    fun W' hn => Below.trod T.laidOut (by kernel_rfl) (of_decide_eq_true (by kernel_rfl)) h0 hn (fun x hx => by simpa using hW'.lt x (List.mem_append_left _ hx))
  have k1 : ∀ (W' : World), Below W.heap.size W W' → DataW.Trod enc Tryd.prog W' 0 (fun b => decide (b < W.heap.size)) true 24 v1 d1 p1 :=
    fun W' hn => Below.trod T.laidOut (by kernel_rfl) (of_decide_eq_true (by kernel_rfl)) h1 hn (fun x hx => by simpa using hW'.lt x (List.mem_append_right _ hx))
  obtain ⟨x0, y0, e0, n0, f0⟩ := (T.arg_expr (hval 0 24 v0 rfl rfl) h0 (T.light_of hsz (j := 0) (t := 24) rfl rfl))
  obtain ⟨x1, y1, e1, n1, f1⟩ := (T.arg_expr (hval 1 24 v1 rfl rfl) h1 (T.light_of hsz (j := 1) (t := 24) rfl rfl))
  have fin : ∀ e W', (e = Ending.returned (.bool true) ∧ Below W.heap.size W W') →
      ∃ v, e = Ending.returned v ∧ Rows.scopeSameSpec.post enc Tryd.checked.prog Tryd.f9 false true false false W #[v0, v1] v W' := by
    rintro e W' ⟨rfl, hg⟩
    exact ⟨_, rfl, _, _, _, [], p0 ++ p1, [], hW', (trodAll_cons_mk (shut_bool Tryd.underlying4 true) trodAll_mk0), (T.trod_2 (k0 _ hg) (k1 _ hg)), rfl, hg.frame _, fun h => by cases h⟩
  subst e0
  subst e1
  exact (T.scopeSame_any W hK x0 y0 n0 f0 x1 y1 n1 f1).mono fin
theorem scopeSame_holds : Rows.ScopeSameSaid :=
  OpenClaim.holds_of_wide 9 Tryd.f9 rfl rfl rfl rfl rfl rfl rfl ⟨rfl, rfl, rfl, rfl, rfl⟩ rfl rfl rfl rfl rfl (by kernel_rfl) Tryd.func9 (by kernel_rfl)
    (of_decide_eq_true (by kernel_rfl)) (by unfold Func.isWrapper; first | (rw [if_pos (by decide +kernel)]; kernel_rfl) | (rw [if_neg (by decide +kernel)]; exact ⟨rfl, rfl⟩))
    (fun os started H enc _ => scopeSame_lifted os started H enc)
theorem scopeSame_card : Rows.ScopeSameCardSaid :=
  Claim7.holds_tied_plain_at .later [] [.data] true (true, "3f4ebccfb12b1ccd389c501ffd003a9f1f4e888abf5517fe329fc68e34a1e74b") false
    scopeSame_holds (fun _ h => by cases h) (by kernel_rfl) (fun _ h => by cases h) scopeSame_row_tie rfl ⟨rfl, rfl⟩ (by kernel_rfl) rfl
    (fun f fn hf hfn => by
      obtain rfl : f = 9 := Option.some.inj ((show Tryd.prog.funcNamed "syntagma/syntagmalaw06.ScopeSame" = some 9 by kernel_rfl).symm.trans hf) |>.symm
      obtain rfl : fn = Tryd.f9 := (Option.some.inj (Tryd.func9.symm.trans hfn)).symm
      exact ⟨by kernel_rfl, fun j t ht => by
        rw [Tryd.params9] at ht
        have hm : t ∈ [24, 24] := by simpa using Array.mem_of_getElem? ht
        have hall : ([24, 24].all fun u => !Tryd.prog.wantsStandIn u) = true := by kernel_rfl
        exact (show Tryd.prog.wantsStandIn t = false by simpa using List.all_eq_true.1 hall t hm)⟩)
    (by kernel_rfl)
#print axioms scopeSame_card
end Go.Proofs.YteikpeaakmbihaaDoor
