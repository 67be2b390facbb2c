/- For any tree, any node and any number the law ShowPrints returns true: the tree's text, or its error, how tight the node is, and the operation's sign are as the document says.
   Conditions: the four listed tables lie as the program's text lays them (the card ties them); strings and slices are no longer than the form's own reach; nothing else. -/
import Derived.Test.YtjakeidbajkdcaaGreatDoorG49
import Derived.Test.YtjakeidbajkdcaaGreatDoorG31
import Derived.Test.YtjakeidbajkdcaaGreatDoorG02
import Derived.Test.YtjakeidbajkdcaaGreatDoorCards
import Derived.Test.YtjakeidbajkdcaaGreatDoorTie
import Derived.SizedLaws
import Derived.ChangeMaps5
namespace Go.Proofs.YtjakeidbajkdcaaGreatDoor
open Go.ChangeShapes Go.WideShapes Go.ChangeAt Go.RowKit Go.ChangeMaps
namespace T
open Go.Deep Go.Joins in
set_option maxRecDepth 100000 in
theorem arg_i64 {H : Type} {enc : TypeId × Value → H} {W : World} {base : Nat} {sp : Nat → Bool} {held : Bool} {v : Value} {d : DataW H} {p : List MemPlace} (hval : Value.okWide Tryz.prog W .any base 2 v) (h : DataW.Trod enc Tryz.prog W 0 sp held 2 v d p) : ∃ i : Int, v = .int .i64 i ∧ -9223372036854775808 ≤ i ∧ i ≤ 9223372036854775807 := by
  obtain ⟨i, rfl, _, _, hw⟩ := open_int Tryz.underlying2 hval h
  simp [Lit.wf, IntKind.min, IntKind.max, IntKind.signed, IntKind.bits] at hw
  exact ⟨i, rfl, hw.1, by omega⟩
end T
namespace S
open T
theorem showPrints_any (w : World) (hO : Go.Proofs.YtjakeidbajkdcaaGreatDoor.L.On w.heap.size w) (v : Value) (l : List Nd) (hN : Nodes w.heap.size w v l) (hfl : ∀ y ∈ l, Fit y) (hnum : ∀ y ∈ l, Num y) (x : Nd) (fv : Value) (_hF : Flds w.heap.size w fv x.l) (_hfx : Fit x) (op : Int) (_h1 : -9223372036854775808 ≤ op) (_h2 : op ≤ 9223372036854775807) :
    Calls Tryz.prog 5 #[.agg #[v], .agg (ndArr x fv), .int .i64 op] w fun e w' => e = .returned (.bool true) ∧ Below w.heap.size w w' := by
  obtain ⟨A0, c0, rfl, hx0⟩ := hN
  have hN : Nodes w.heap.size w (.slice A0 l.length c0) l := ⟨A0, c0, rfl, hx0⟩
  have hsc := fit_few hfl
  have hnf := num_few hnum
  obtain ⟨ml, hml⟩ : ∃ ml, few l = ml := ⟨_, rfl⟩
  have hmm : few ml = ml := by rw [← hml]; exact few_few l
  rw [hml] at hsc hnf
  obtain ⟨L, hL⟩ : ∃ L, ml.length = L := ⟨_, rfl⟩
  have hpr : ∀ w1, Below w.heap.size w w1 → Go.Proofs.YtjakeidbajkdcaaGreatDoor.L.On w1.heap.size w1 := fun w1 hb => (hO.on hb).up hb.size
  refine prints_walk x fv op A0 l.length c0 L ml (shown ml) (may ml) (tight x.kind x.n) (sgn op) w (Lib.hid fun w1 hb => ?_) (Lib.hid fun w1 A c h => few_nodes ml ml L hmm hL _ w1 h) (Lib.hid fun w1 A c hb h => print_any ml _ w1 (hpr w1 hb) h (fun y hy => (hsc y hy).1) hnf) (Lib.hid fun w1 A c h => rprint_any ml _ w1 h (fun y hy => (hsc y hy).1) hnf)
    (Lib.hid fun w1 => tight_is _ _ _ _ _ _ _ _ _ _ rfl w1) (Lib.hid fun w1 => rtight_is _ _ _ _ _ _ _ _ _ _ rfl w1) (Lib.hid fun w1 => sign_is _ _ rfl w1) (Lib.hid fun w1 => rsign_is _ _ rfl w1) (Lib.hid fun w1 hb => works_any w1 (hpr w1 hb))
  refine (few_any _ l w1 ((hN.below hb).mono hb.size)).mono ?_
  rintro e w' ⟨v1, ps, rfl, hps, hown, hb2⟩
  obtain ⟨A, c, rfl⟩ := own_slice_len hown hps hml hL
  exact ⟨A, c, ps, rfl, hps.trans hml, hown, hb2⟩
end S
set_option maxRecDepth 100000 in
theorem showPrints_lifted (os : Os) (started : os.Started) (H : Type) (enc : TypeId × Value → H) :
    ReturnsInHanded {} Tryz.checked os 5 .any (fun w args => (Rows.showPrintsSpec.pre enc Tryz.prog Tryz.f5 [] false w args ∧ laidMetH Tryz.prog listed w) ∧ sizedMet enc Tryz.prog Tryz.f5 (OpenSpec.ofChange Rows.showPrintsSpec) false w args)
      (Rows.showPrintsSpec.post enc Tryz.prog Tryz.f5 false true false false) := by
  refine returnsInHanded_of_change_and (C := Tryz.checked) (X := fun w _ => laidMetH Tryz.prog listed w) (fun _ _ _ hh h => h.of_heap hh) own started (by kernel_rfl) Tryz.func5
    (ChangeSpec.witness_shaped (enc := enc) (C := Tryz.checked) (os := os) (X := fun w _ => laidMetH Tryz.prog listed w) false (World.doorLaid Tryz.prog 400 os) #[.agg #[.slice none 0 0], .agg #[.int .i64 0, .int .i64 0, .int .i64 0, .int .i64 0, .int .i64 0, .string ⟨#[]⟩, .string ⟨#[]⟩, .slice none 0 0, .int .i64 0], .int .i64 0] 8 rfl (door_shaped os _) (by kernel_rfl) (by kernel_rfl) (by kernel_rfl) (door_met os _)) ?_
  intro W base args ds gs before hval0 hW _ hsz hL _
  have hval : ∀ (j : Nat) t v, Tryz.f5.params[j]? = some t → args[j]? = some v → Value.okWide Tryz.prog W .any base t v := hval0
  have hW' := hW
  obtain ⟨p, q, hA0, hV, rfl, hfz, hnd⟩ := hW
  have hA : DataW.TrodAll enc Tryz.prog W 0 (fun _ => true) true Tryz.f5.params.toList args.toList ds p := hA0
  rw [Tryz.params5] at hA hval
  have hK : L.On W.heap.size W := ⟨kws_of_laid hL, pow_of_laid hL⟩
  obtain ⟨v0, vs0, d0, ds0, p0, q0, hargs, rfl, rfl, h0, r0⟩ := trodAll_cons hA
  obtain ⟨v1, vs1, d1, ds1, p1, q1, rfl, rfl, rfl, h1, r1⟩ := trodAll_cons r0
  obtain ⟨v2, vs2, d2, ds2, p2, q2, rfl, rfl, rfl, h2, r2⟩ := trodAll_cons r1
  obtain ⟨rfl, rfl, rfl⟩ := trodAll_nil r2
  obtain rfl : args = #[v0, v1, v2] := by cases args; simp_all
  obtain ⟨rfl, rfl⟩ := trodVars_none hV
  simp only [List.append_nil] at hW'
  have k0 : ∀ (W' : World), Below W.heap.size W W' → DataW.Trod enc Tryz.prog W' 0 (fun b => decide (b < W.heap.size)) true 25 v0 d0 p0 :=
    fun W' hn => Below.trod T.laidOut (by kernel_rfl) (of_decide_eq_true (by kernel_rfl)) h0 hn (fun x hx => by simpa using hW'.lt x (List.mem_append_left _ hx))
  have k1 : ∀ (W' : World), Below W.heap.size W W' → DataW.Trod enc Tryz.prog W' 0 (fun b => decide (b < W.heap.size)) true 37 v1 d1 p1 :=
    fun W' hn => Below.trod T.laidOut (by kernel_rfl) (of_decide_eq_true (by kernel_rfl)) h1 hn (fun x hx => by simpa using hW'.lt x (List.mem_append_right _ (List.mem_append_left _ hx)))
  have k2 : ∀ (W' : World), Below W.heap.size W W' → DataW.Trod enc Tryz.prog W' 0 (fun b => decide (b < W.heap.size)) true 2 v2 d2 p2 :=
    fun W' hn => Below.trod T.laidOut (by kernel_rfl) (of_decide_eq_true (by kernel_rfl)) h2 hn (fun x hx => by simpa using hW'.lt x (List.mem_append_right _ (List.mem_append_right _ hx)))
  obtain ⟨x0, y0, e0, n0, f0⟩ := (T.arg_expr (hval 0 25 v0 rfl rfl) h0 (T.light_of hsz (j := 0) (t := 25) rfl rfl))
  obtain ⟨x1, y1, e1, n1, f1⟩ := (T.arg_node (hval 1 37 v1 rfl rfl) h1 (T.light_of hsz (j := 1) (t := 37) rfl rfl))
  obtain ⟨i2, hi2, lo2, up2⟩ := T.arg_i64 (hval 2 2 v2 rfl rfl) h2
  have fin : ∀ e W', (e = Ending.returned (.bool true) ∧ Below W.heap.size W W') →
      ∃ v, e = Ending.returned v ∧ Rows.showPrintsSpec.post enc Tryz.checked.prog Tryz.f5 false true false false W #[v0, v1, v2] v W' := by
    rintro e W' ⟨rfl, hg⟩
    exact ⟨_, rfl, _, _, _, [], p0 ++ (p1 ++ p2), [], hW', (trodAll_cons_mk (shut_bool Tryz.underlying4 true) trodAll_mk0), (T.trod_3 (k0 _ hg) (k1 _ hg) (k2 _ hg)), rfl, hg.frame _, fun h => by cases h⟩
  subst e0
  subst e1
  subst hi2
  exact (S.showPrints_any W hK x0 y0 n0 f0 (T.num_expr h0 n0) x1 y1 n1 f1 i2 lo2 up2).mono fin
theorem showPrints_holds : Rows.ShowPrintsSaid :=
  OpenClaim.holds_of_wide 5 Tryz.f5 rfl rfl rfl rfl rfl rfl rfl ⟨rfl, rfl, rfl, rfl, rfl⟩ rfl rfl rfl rfl rfl (by kernel_rfl) Tryz.func5 (by kernel_rfl)
    (of_decide_eq_true (by kernel_rfl)) (by unfold Func.isWrapper; first | (rw [if_pos (by decide +kernel)]; kernel_rfl) | (rw [if_neg (by decide +kernel)]; exact ⟨rfl, rfl⟩))
    (fun os started H enc _ => showPrints_lifted os started H enc)
theorem showPrints_card : Rows.ShowPrintsCardSaid :=
  Claim7.holds_tied_plain_at .later [] [.data, .data, .data, .data] true (true, "7d6c22f9b9195b087ddee01783f674ed739fadc5f70ae9a132135cac74972083") false
    showPrints_holds (fun _ h => by cases h) (by kernel_rfl) (fun _ h => by cases h) showPrints_row_tie rfl ⟨rfl, rfl⟩ (by kernel_rfl) rfl
    (fun f fn hf hfn => by
      obtain rfl : f = 5 := Option.some.inj ((show Tryz.prog.funcNamed "syntagma/syntagmalaw08.ShowPrints" = some 5 by kernel_rfl).symm.trans hf) |>.symm
      obtain rfl : fn = Tryz.f5 := (Option.some.inj (Tryz.func5.symm.trans hfn)).symm
      exact ⟨by kernel_rfl, fun j t ht => by
        rw [Tryz.params5] at ht
        have hm : t ∈ [25, 37, 2] := by simpa using Array.mem_of_getElem? ht
        have hall : ([25, 37, 2].all fun u => !Tryz.prog.wantsStandIn u) = true := by kernel_rfl
        exact (show Tryz.prog.wantsStandIn t = false by simpa using List.all_eq_true.1 hall t hm)⟩)
    (by kernel_rfl)
#print axioms showPrints_card
end Go.Proofs.YtjakeidbajkdcaaGreatDoor
