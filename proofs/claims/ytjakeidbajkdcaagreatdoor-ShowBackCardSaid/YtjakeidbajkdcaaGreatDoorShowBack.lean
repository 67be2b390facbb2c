/- For any tree the law ShowBack returns true: what is printed is read as the same tree, and has the same text again; a tree that may not be has no text, and the error is the document's.
   Conditions: the four listed tables lie as the program's text lays them (the card ties them); strings and slices are no longer than the form's own reach; nothing else. -/
import Derived.Test.YtjakeidbajkdcaaGreatDoorH49
import Derived.Test.YtjakeidbajkdcaaGreatDoorH18
import Derived.Test.YtjakeidbajkdcaaGreatDoorH02
import Derived.Test.YtjakeidbajkdcaaGreatDoorCards
import Derived.Test.YtjakeidbajkdcaaGreatDoorTie
import Derived.SizedLaws
import Derived.ChangeMaps5
namespace Go.Proofs.YtjakeidbajkdcaaGreatDoor
open Go.ChangeShapes Go.WideShapes Go.ChangeAt Go.RowKit Go.ChangeMaps
namespace S
open T
theorem showBack_any (w : World) (hO : Go.Proofs.YtjakeidbajkdcaaGreatDoor.L.On w.heap.size w) (v : Value) (l : List Nd) (hN : Nodes w.heap.size w v l) (hfl : ∀ y ∈ l, Fit y) (hnum : ∀ y ∈ l, Num y) :
    Calls Tryz.prog 6 #[.agg #[v]] w fun e w' => e = .returned (.bool true) ∧ Below w.heap.size w w' := by
  obtain ⟨A0, c0, rfl, hx0⟩ := hN
  have hN : Nodes w.heap.size w (.slice A0 l.length c0) l := ⟨A0, c0, rfl, hx0⟩
  have hsc := fit_few hfl
  have hnf := num_few hnum
  obtain ⟨ml, hml⟩ : ∃ ml, few l = ml := ⟨_, rfl⟩
  rw [hml] at hsc hnf
  obtain ⟨L, hL⟩ : ∃ L, ml.length = L := ⟨_, rfl⟩
  have hpr : ∀ w1, Below w.heap.size w w1 → Go.Proofs.YtjakeidbajkdcaaGreatDoor.L.On w1.heap.size w1 := fun w1 hb => (hO.on hb).up hb.size
  have HF1 : Hid (∀ w1, Below w.heap.size w w1 → Calls Tryz.prog 14 #[.agg #[.slice A0 l.length c0]] w1 fun e w' => ∃ A c ps, e = .returned (.agg #[.slice A L c]) ∧ ps.map Prod.fst = ml ∧ OwnN w1.heap.size w' (.slice A L c) ps ∧ Below w1.heap.size w1 w') := Lib.hid fun w1 hb => by
    refine (few_any _ l w1 ((hN.below hb).mono hb.size)).mono ?_
    rintro e w' ⟨v1, ps, rfl, hps, hown, hb2⟩
    obtain ⟨A, c, rfl⟩ := own_slice_len hown hps hml hL
    exact ⟨A, c, ps, rfl, hps.trans hml, hown, hb2⟩
  have HW : Hid (∀ w1, Below w.heap.size w w1 → Calls Tryz.prog 21 #[] w1 fun e w' => e = .returned (.bool true) ∧ Below w1.heap.size w1 w') := Lib.hid fun w1 hb => works_any w1 (hpr w1 hb)
  have HP := fun (w1 : World) (A : Option Addr) (c : Nat) (hb : Below w.heap.size w w1) (h : Nodes w1.heap.size w1 (.slice A L c) ml) => print_any ml _ w1 (hpr w1 hb) h (fun y hy => (hsc y hy).1) hnf
  by_cases hm : may ml = 0
  · obtain ⟨e1, e2, t, e3, e4, e5, e6, e7, e8⟩ := Y.back_all hm hnf
    have hsz := shown_le (good_of hm hnf) hm
    rw [hm] at HP
    refine back_good A0 l.length c0 L ml w HF1 HW t.length t (shown ml) (by omega) (Lib.hid HP) (Lib.hid fun w1 hb => ?_) (Lib.hid fun w1 A c hb h => ?_) (Lib.hid fun w1 v u h1 h2 => ?_)
    · have ho := hpr w1 hb
      refine (A.parse_big (shown ml) (by omega) e2 w1 ho ho.1).mono ?_
      rintro e w' ⟨v, ps, rfl, k1, k2, k3⟩
      rw [e3] at k1 ⊢
      have hn := own_nodes k2
      rw [k1] at hn
      obtain ⟨A, c, rfl⟩ := Go.Proofs.YtjakeidbajkdcaaGreatDoor.L.row_form k2.1
      have hl : ps.length = t.length := by
        have := congrArg List.length k1
        rwa [List.length_map] at this
      rw [hl] at hn ⊢
      exact ⟨A, c, rfl, hn, k3⟩
    · have := print_any t _ w1 (hpr w1 hb) h e7 e8
      rw [e6, e5] at this
      exact this
    · have := rsame_any t ml v u w1 h1 h2 e7 fun y hy => (hsc y hy).1
      rw [e4] at this
      exact this
  · have hs : shown ml = ⟨#[]⟩ := by unfold shown; rw [if_neg hm]
    rw [hs] at HP
    exact back_bad A0 l.length c0 L ml w HF1 HW (may ml) (by simpa using hm) (Lib.hid HP) (Lib.hid fun w1 A c h => rmay_all ml _ w1 h fun y hy => (hsc y hy).1)
end S
set_option maxRecDepth 100000 in
theorem showBack_lifted (os : Os) (started : os.Started) (H : Type) (enc : TypeId × Value → H) :
    ReturnsInHanded {} Tryz.checked os 6 .any (fun w args => (Rows.showBackSpec.pre enc Tryz.prog Tryz.f6 [] false w args ∧ laidMetH Tryz.prog listed w) ∧ sizedMet enc Tryz.prog Tryz.f6 (OpenSpec.ofChange Rows.showBackSpec) false w args)
      (Rows.showBackSpec.post enc Tryz.prog Tryz.f6 false true false false) := by
  refine returnsInHanded_of_change_and (C := Tryz.checked) (X := fun w _ => laidMetH Tryz.prog listed w) (fun _ _ _ hh h => h.of_heap hh) own started (by kernel_rfl) Tryz.func6
    (ChangeSpec.witness_shaped (enc := enc) (C := Tryz.checked) (os := os) (X := fun w _ => laidMetH Tryz.prog listed w) false (World.doorLaid Tryz.prog 400 os) #[.agg #[.slice none 0 0]] 8 rfl (door_shaped os _) (by kernel_rfl) (by kernel_rfl) (by kernel_rfl) (door_met os _)) ?_
  intro W base args ds gs before hval0 hW _ hsz hL _
  have hval : ∀ (j : Nat) t v, Tryz.f6.params[j]? = some t → args[j]? = some v → Value.okWide Tryz.prog W .any base t v := hval0
  have hW' := hW
  obtain ⟨p, q, hA0, hV, rfl, hfz, hnd⟩ := hW
  have hA : DataW.TrodAll enc Tryz.prog W 0 (fun _ => true) true Tryz.f6.params.toList args.toList ds p := hA0
  rw [Tryz.params6] at hA hval
  have hK : L.On W.heap.size W := ⟨kws_of_laid hL, pow_of_laid hL⟩
  obtain ⟨v0, vs0, d0, ds0, p0, q0, hargs, rfl, rfl, h0, r0⟩ := trodAll_cons hA
  obtain ⟨rfl, rfl, rfl⟩ := trodAll_nil r0
  obtain rfl : args = #[v0] := by cases args; simp_all
  obtain ⟨rfl, rfl⟩ := trodVars_none hV
  simp only [List.append_nil] at hW'
  have k0 : ∀ (W' : World), Below W.heap.size W W' → DataW.Trod enc Tryz.prog W' 0 (fun b => decide (b < W.heap.size)) true 25 v0 d0 p0 :=
    fun W' hn => Below.trod T.laidOut (by kernel_rfl) (of_decide_eq_true (by kernel_rfl)) h0 hn (fun x hx => by simpa using hW'.lt x (hx))
  obtain ⟨x0, y0, e0, n0, f0⟩ := (T.arg_expr (hval 0 25 v0 rfl rfl) h0 (T.light_of hsz (j := 0) (t := 25) rfl rfl))
  have fin : ∀ e W', (e = Ending.returned (.bool true) ∧ Below W.heap.size W W') →
      ∃ v, e = Ending.returned v ∧ Rows.showBackSpec.post enc Tryz.checked.prog Tryz.f6 false true false false W #[v0] v W' := by
    rintro e W' ⟨rfl, hg⟩
    exact ⟨_, rfl, _, _, _, [], p0, [], hW', (trodAll_cons_mk (shut_bool Tryz.underlying4 true) trodAll_mk0), (T.trod_1 (k0 _ hg)), rfl, hg.frame _, fun h => by cases h⟩
  subst e0
  exact (S.showBack_any W hK x0 y0 n0 f0 (T.num_expr h0 n0)).mono fin
theorem showBack_holds : Rows.ShowBackSaid :=
  OpenClaim.holds_of_wide 6 Tryz.f6 rfl rfl rfl rfl rfl rfl rfl ⟨rfl, rfl, rfl, rfl, rfl⟩ rfl rfl rfl rfl rfl (by kernel_rfl) Tryz.func6 (by kernel_rfl)
    (of_decide_eq_true (by kernel_rfl)) (by unfold Func.isWrapper; first | (rw [if_pos (by decide +kernel)]; kernel_rfl) | (rw [if_neg (by decide +kernel)]; exact ⟨rfl, rfl⟩))
    (fun os started H enc _ => showBack_lifted os started H enc)
theorem showBack_card : Rows.ShowBackCardSaid :=
  Claim7.holds_tied_plain_at .later [] [.data, .data, .data, .data] true (true, "7d6c22f9b9195b087ddee01783f674ed739fadc5f70ae9a132135cac74972083") false
    showBack_holds (fun _ h => by cases h) (by kernel_rfl) (fun _ h => by cases h) showBack_row_tie rfl ⟨rfl, rfl⟩ (by kernel_rfl) rfl
    (fun f fn hf hfn => by
      obtain rfl : f = 6 := Option.some.inj ((show Tryz.prog.funcNamed "syntagma/syntagmalaw08.ShowBack" = some 6 by kernel_rfl).symm.trans hf) |>.symm
      obtain rfl : fn = Tryz.f6 := (Option.some.inj (Tryz.func6.symm.trans hfn)).symm
      exact ⟨by kernel_rfl, fun j t ht => by
        rw [Tryz.params6] at ht
        have hm : t ∈ [25] := by simpa using Array.mem_of_getElem? ht
        have hall : ([25].all fun u => !Tryz.prog.wantsStandIn u) = true := by kernel_rfl
        exact (show Tryz.prog.wantsStandIn t = false by simpa using List.all_eq_true.1 hall t hm)⟩)
    (by kernel_rfl)
#print axioms showBack_card
end Go.Proofs.YtjakeidbajkdcaaGreatDoor
