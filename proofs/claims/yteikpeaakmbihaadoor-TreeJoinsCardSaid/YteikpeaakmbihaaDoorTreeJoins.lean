/- For any node and any list of trees the law TreeJoins returns true: the trees joined under the node, of the program's own and of the document's, are the same tree; each argument reads as before.
   Conditions: the listed variables lie as the program's text lays them (the card ties them); strings and slices are no longer than the form's own reach; nothing else. -/
import Derived.Test.YteikpeaakmbihaaDoorG43
import Derived.Test.YteikpeaakmbihaaDoorG44
import Derived.Test.YteikpeaakmbihaaDoorG37
import Derived.Test.YteikpeaakmbihaaDoorG36
namespace Go.Proofs.YteikpeaakmbihaaDoor
open Go.ChangeShapes Go.WideShapes Go.ChangeAt Go.RowKit Go.ChangeMaps
namespace T
theorem kws_up {w W : World} (hK : Kws w.heap.size w) (hb : Below w.heap.size w W) : Kws W.heap.size W := Kws_mono (hK.on hb) hb.size
theorem fit_wide {x : Nd} (h : Fit x) : Wide x := by
  obtain ⟨h1, h2, h3, h4⟩ := h
  have e : reachBytes = 140737488351232 := rfl
  rw [e] at h1 h2
  refine ⟨by omega, by omega, h3, fun f hf => ?_⟩
  have := h4 f hf
  rw [FitF, e] at this
  omega
theorem fit_clone {x : Nd} (h : Fit x) (hl : x.l.length ≤ 1000000) : Clonable x := by
  obtain ⟨h1, h2, h3, h4⟩ := h
  have e : reachBytes = 140737488351232 := rfl
  rw [e] at h1 h2
  refine ⟨by omega, by omega, hl, fun f hf => ?_⟩
  have := h4 f hf
  rw [FitF, e] at this
  omega
theorem min20 (n : Nat) : min (n : Int) 20 = ((min n 20 : Nat) : Int) := by omega
theorem fit_int : Fit int1 := ⟨Nat.zero_le _, Nat.zero_le _, Nat.zero_le _, fun f hf => by cases hf⟩
theorem fit_cutj {x : Nd} (h : Fit x) : Fit (cutj x) := by
  obtain ⟨h1, h2, h3, h4⟩ := h
  refine ⟨h1, h2, ?_, fun f hf => h4 f (List.mem_of_mem_take hf)⟩
  show (x.l.take 20).length ≤ _
  rw [List.length_take]; omega
theorem sum_few : ∀ (es : List (List Nd)), (∀ e ∈ es, e.length ≤ 600) → (es.map List.length).sum ≤ es.length * 600
  | [], _ => by simp
  | e :: es, h => by
    have h1 := h e (by simp)
    have h2 := sum_few es fun e' he => h e' (by simp [he])
    simp only [List.map_cons, List.sum_cons, List.length_cons]
    omega
/-- What is put together are nodes that came, their children further on. -/
theorem jn_from : ∀ (es : List (List Nd)) (m : Nd), m ∈ (jn es).1 → ∃ e ∈ es, ∃ y ∈ e, ∃ f, m = sh f y := by
  intro es
  induction es using snocInd with
  | h0 => intro m hm; simp [jn] at hm
  | h1 es e ih =>
    intro m hm
    rw [jn_snoc, jstep] at hm
    rcases List.mem_append.1 hm with hm | hm
    · obtain ⟨e', he, y, hy, f, hf⟩ := ih m hm
      exact ⟨e', by simp [he], y, hy, f, hf⟩
    · obtain ⟨y, hy, rfl⟩ := List.mem_map.1 hm
      exact ⟨e, by simp, y, hy, _, rfl⟩
theorem join_good {y : Nd} {es : List (List Nd)} {KL : Nat} (hy : y.l.length ≤ 20) (hfy : Fit y) (hk : (kids y).length = KL) (hn : es.length = KL) (h3 : KL ≤ 23) (hg : ∀ e ∈ es, may e = 0 ∧ ∀ m ∈ e, Fit m) :
    Joined y es ∧ (joinN y es).length ≤ 1000000 ∧ ∀ m ∈ joinN y es, m.l.length ≤ 1000000 := by
  have h6 : ∀ e ∈ es, e.length ≤ 600 := fun e he => (may_big (hg e he).1).2
  have hs := sum_few es h6
  have hb : es.length * 600 ≤ 23 * 600 := Nat.mul_le_mul_right _ (by omega)
  refine ⟨⟨by omega, by omega, by omega, fit_clone hfy (by omega), fun e he m hm => ⟨fit_clone ((hg e he).2 m hm) (by have := may_parts (hg e he).1 m hm; omega), fun k hk => ?_⟩⟩, ?_, fun m hm => ?_⟩
  · obtain ⟨q, hq⟩ := List.getElem?_of_mem hm
    have h1 := (may_zero (hg e he).1).2.1.2.1 q m hq k hk
    have h2 := (List.getElem?_eq_some_iff.1 hq).1
    have := h6 e he
    omega
  · rw [joinN, List.length_append, (jn_len es).1]; simp; omega
  · rw [joinN] at hm
    rcases List.mem_append.1 hm with hm | hm
    · obtain ⟨e, he, z, hz, f, rfl⟩ := jn_from es m hm
      have := may_parts (hg e he).1 z hz
      have h := wk_parts z ((kids z).map (· + (f : Int)))
      rw [sh]; omega
    · obtain rfl := List.mem_singleton.1 hm
      have h := wk_parts y (jn es).2
      omega
theorem treeJoins_any (w : World) (hK : Kws w.heap.size w) (x : Nd) (fv : Value) (hF : Flds w.heap.size w fv x.l) (hfx : Fit x) (v : Value) (ll : List (List Nd)) (hE : Exprs w.heap.size w v ll) (hfl : ∀ e ∈ ll, ∀ m ∈ e, Fit m) :
    Calls Tryd.prog 5 #[.agg (ndArr x fv), v] w fun e w' => e = .returned (.bool true) ∧ Below w.heap.size w w' := by
  have hyl : (cutj x).l.length ≤ 20 := by show (x.l.take 20).length ≤ 20; rw [List.length_take]; omega
  have hk3 : (kids (cutj x)).length ≤ 23 := by have := kids_len (cutj x); omega
  have hfy := fit_cutj hfx
  have hG : ∀ e, (e = [int1] ∨ e ∈ ll) → ∀ m ∈ e, Fit m := fun e he m hm => by
    rcases he with rfl | he
    · obtain rfl := List.mem_singleton.1 hm; exact fit_int
    · exact hfl e he m hm
  have hJ : ∀ (es : List (List Nd)), es.length = (kids (cutj x)).length → (∀ e ∈ es, may e = 0 ∧ (e = [int1] ∨ e ∈ ll)) → Joined (cutj x) es ∧ (joinN (cutj x) es).length ≤ 1000000 ∧ ∀ m ∈ joinN (cutj x) es, m.l.length ≤ 1000000 :=
    fun es hn hg => join_good hyl hfy rfl hn hk3 fun e he => ⟨(hg e he).1, hG e (hg e he).2⟩
  have HKI : Hid (∀ (W : World) (v : Value), Flds W.heap.size W v (cutj x).l → Calls Tryd.prog 17 #[.agg #[.int .i64 (cutj x).kind, .int .i64 (cutj x).a, .int .i64 (cutj x).b, .int .i64 (cutj x).c, .int .i64 (cutj x).n, .string (cutj x).nm, .string (cutj x).s, v, .int .i64 (cutj x).pos]] W fun e W' => ∃ g c, e = .returned (.slice (some ⟨g, 0, none⟩) (kids (cutj x)).length c) ∧ Below W.heap.size W W') := Lib.hid fun W v h => by
    refine (kids_law (kids_any (cutj x) v W (Nat.le_refl _) h (by omega)) rfl).mono ?_
    rintro e W' ⟨g, c, h1, _, h3⟩
    exact ⟨g, c, h1, h3⟩
  have HRM : Hid (∀ e, e = [int1] ∨ e ∈ ll → ∀ (W : World) (v : Value), Nodes W.heap.size W v e → Calls Tryd.prog 11 #[.agg #[v]] W fun r W' => r = .returned (.int .i64 (may e)) ∧ Below W.heap.size W W') := Lib.hid fun e he W v h => rmayw_all e v W h fun m hm => fit_wide (hG e he m hm)
  have HWK : Hid (∀ W, Below w.heap.size w W → Calls Tryd.prog 18 #[] W fun e W' => e = .returned (.bool true) ∧ Below W.heap.size W W') := Lib.hid fun W hb => works_any W (kws_up hK hb)
  have HJP := Lib.hid fun (es : List (List Nd)) hn hg (W : World) (v u : Value) hF hE => NPost.nodes (pjoin_law (cutj x) es v u W hF hE (hJ es hn hg).1)
  have HJR := Lib.hid fun (es : List (List Nd)) hn hg (W : World) (v u : Value) hF hE => NPost.nodes (rjoin_law (cutj x) es v u W hF hE (hJ es hn hg).1)
  have HLS : Hid (∀ (es : List (List Nd)), es.length = (kids (cutj x)).length → (∀ e ∈ es, may e = 0 ∧ (e = [int1] ∨ e ∈ ll)) → ∀ (W : World) (v u : Value), Nodes W.heap.size W v (joinN (cutj x) es) → Nodes W.heap.size W u (joinN (cutj x) es) → Calls Tryd.prog 24 #[.agg #[v], .agg #[u]] W fun e W' => e = .returned (.bool true) ∧ Below W.heap.size W W') := Lib.hid fun es hn hg W v u h1 h2 => by
    obtain ⟨_, h3, h4⟩ := hJ es hn hg
    have h := rlist_any _ _ v u W h1 h2 h3 h4
    rwa [ln_self] at h
  obtain ⟨FX, fx, rfl, ⟨hfc, _⟩, hnil, hpos⟩ := hF
  obtain ⟨EA, cl, rfl, hcl, hcn, hep⟩ := hE
  obtain ⟨n, hn⟩ : ∃ n, x.l.length = n := ⟨_, rfl⟩
  rw [hn] at hfc hpos ⊢
  have hym : (cutj x).l = x.l.take (min n 20) := by
    show x.l.take 20 = _
    rw [← hn]
    rcases Nat.le_total x.l.length 20 with h | h
    · rw [Nat.min_eq_left h, List.take_of_length_le h, List.take_of_length_le (Nat.le_refl _)]
    · rw [Nat.min_eq_right h]
  have hyn : (cutj x).l.length = min n 20 := by rw [hym, List.length_take, hn]; omega
  cases FX with
  | none =>
    obtain rfl := hnil rfl
    obtain rfl : n = 0 := by omega
    exact joins_n x (cutj x) (kids (cutj x)).length ll.length 0 0 0 cl EA ll w rfl (by omega) (by omega) rfl (Lib.hid hn) (Lib.hid fun _ => rfl) (Lib.hid hym) (Lib.hid hyn) (by omega) (Lib.hid hpos) (Lib.hid hep) (Lib.hid rfl) HKI HRM HWK HJP HJR HLS
  | some fa => exact joins_s x (cutj x) (kids (cutj x)).length ll.length n (min n 20) fx cl fa EA ll w (min20 n) (Nat.min_le_right _ _) (Nat.min_le_left _ _) hfc (Lib.hid hn) (Lib.hid fun _ => rfl) (Lib.hid hym) (Lib.hid hyn) (by omega) (Lib.hid hpos) (Lib.hid hep) (Lib.hid rfl) HKI HRM HWK HJP HJR HLS
end T
set_option maxRecDepth 100000 in
set_option maxHeartbeats 4000000 in
theorem treeJoins_lifted (os : Os) (started : os.Started) (H : Type) (enc : TypeId × Value → H) :
    ReturnsInHanded {} Tryd.checked os 5 .any (fun w args => (Rows.treeJoinsSpec.pre enc Tryd.prog Tryd.f5 [] false w args ∧ laidMetH Tryd.prog listed w) ∧ sizedMet enc Tryd.prog Tryd.f5 (OpenSpec.ofChange Rows.treeJoinsSpec) false w args)
      (Rows.treeJoinsSpec.post enc Tryd.prog Tryd.f5 false true false false) := by
  refine returnsInHanded_of_change_and (C := Tryd.checked) (X := fun w _ => laidMetH Tryd.prog listed w) (fun _ _ _ hh h => h.of_heap hh) own started (by kernel_rfl) Tryd.func5
    (ChangeSpec.witness_shaped (enc := enc) (C := Tryd.checked) (os := os) (X := fun w _ => laidMetH Tryd.prog listed w) false (World.doorLaid Tryd.prog 400 os) #[.agg #[.int .i64 0, .int .i64 0, .int .i64 0, .int .i64 0, .int .i64 0, .string ⟨#[]⟩, .string ⟨#[]⟩, .slice none 0 0, .int .i64 0], .slice none 0 0] 8 rfl (door_shaped os _) (by kernel_rfl) (by kernel_rfl) (by kernel_rfl) (door_met os _)) ?_
  intro W base args ds gs before hval0 hW _ hsz hL _
  have hval : ∀ (j : Nat) t v, Tryd.f5.params[j]? = some t → args[j]? = some v → Value.okWide Tryd.prog W .any base t v := hval0
  have hW' := hW
  obtain ⟨p, q, hA0, hV, rfl, hfz, hnd⟩ := hW
  have hA : DataW.TrodAll enc Tryd.prog W 0 (fun _ => true) true Tryd.f5.params.toList args.toList ds p := hA0
  rw [Tryd.params5] at hA hval
  have hK := kws_of_laid hL
  obtain ⟨v0, vs0, d0, ds0, p0, q0, hargs, rfl, rfl, h0, r0⟩ := trodAll_cons hA
  obtain ⟨v1, vs1, d1, ds1, p1, q1, rfl, rfl, rfl, h1, r1⟩ := trodAll_cons r0
  obtain ⟨rfl, rfl, rfl⟩ := trodAll_nil r1
  obtain rfl : args = #[v0, v1] := by cases args; simp_all
  obtain ⟨rfl, rfl⟩ := trodVars_none hV
  simp only [List.append_nil] at hW'
  have k0 : ∀ (W' : World), Below W.heap.size W W' → DataW.Trod enc Tryd.prog W' 0 (fun b => decide (b < W.heap.size)) true 27 v0 d0 p0 :=
    fun W' hn => Below.trod T.laidOut (by kernel_rfl) (of_decide_eq_true (by kernel_rfl)) h0 hn (fun x hx => by simpa using hW'.lt x (List.mem_append_left _ hx))
  have k1 : ∀ (W' : World), Below W.heap.size W W' → DataW.Trod enc Tryd.prog W' 0 (fun b => decide (b < W.heap.size)) true 45 v1 d1 p1 :=
    fun W' hn => Below.trod T.laidOut (by kernel_rfl) (of_decide_eq_true (by kernel_rfl)) h1 hn (fun x hx => by simpa using hW'.lt x (List.mem_append_right _ hx))
  obtain ⟨x0, y0, e0, n0, f0⟩ := (T.arg_node (hval 0 27 v0 rfl rfl) h0 (T.light_of hsz (j := 0) (t := 27) rfl rfl))
  obtain ⟨x1, y1, e1, n1, f1⟩ := (T.arg_exprs (hval 1 45 v1 rfl rfl) h1 (T.light_of hsz (j := 1) (t := 45) rfl rfl))
  have fin : ∀ e W', (e = Ending.returned (.bool true) ∧ Below W.heap.size W W') →
      ∃ v, e = Ending.returned v ∧ Rows.treeJoinsSpec.post enc Tryd.checked.prog Tryd.f5 false true false false W #[v0, v1] v W' := by
    rintro e W' ⟨rfl, hg⟩
    exact ⟨_, rfl, _, _, _, [], p0 ++ p1, [], hW', (trodAll_cons_mk (shut_bool Tryd.underlying4 true) trodAll_mk0), (T.trod_2 (k0 _ hg) (k1 _ hg)), rfl, hg.frame _, fun h => by cases h⟩
  subst e0
  subst e1
  exact (T.treeJoins_any W hK x0 y0 n0 f0 v1 y1 n1 f1).mono fin
theorem treeJoins_holds : Rows.TreeJoinsSaid :=
  OpenClaim.holds_of_wide 5 Tryd.f5 rfl rfl rfl rfl rfl rfl rfl ⟨rfl, rfl, rfl, rfl, rfl⟩ rfl rfl rfl rfl rfl (by kernel_rfl) Tryd.func5 (by kernel_rfl)
    (of_decide_eq_true (by kernel_rfl)) (by unfold Func.isWrapper; first | (rw [if_pos (by decide +kernel)]; kernel_rfl) | (rw [if_neg (by decide +kernel)]; exact ⟨rfl, rfl⟩))
    (fun os started H enc _ => treeJoins_lifted os started H enc)
theorem treeJoins_card : Rows.TreeJoinsCardSaid :=
  Claim7.holds_tied_plain_at .later [] [.data] true (true, "3f4ebccfb12b1ccd389c501ffd003a9f1f4e888abf5517fe329fc68e34a1e74b") false
    treeJoins_holds (fun _ h => by cases h) (by kernel_rfl) (fun _ h => by cases h) treeJoins_row_tie rfl ⟨rfl, rfl⟩ (by kernel_rfl) rfl
    (fun f fn hf hfn => by
      obtain rfl : f = 5 := Option.some.inj ((show Tryd.prog.funcNamed "syntagma/syntagmalaw05.TreeJoins" = some 5 by kernel_rfl).symm.trans hf) |>.symm
      obtain rfl : fn = Tryd.f5 := (Option.some.inj (Tryd.func5.symm.trans hfn)).symm
      exact ⟨by kernel_rfl, fun j t ht => by
        rw [Tryd.params5] at ht
        have hm : t ∈ [27, 45] := by simpa using Array.mem_of_getElem? ht
        have hall : ([27, 45].all fun u => !Tryd.prog.wantsStandIn u) = true := by kernel_rfl
        exact (show Tryd.prog.wantsStandIn t = false by simpa using List.all_eq_true.1 hall t hm)⟩)
    (by kernel_rfl)
#print axioms treeJoins_card
end Go.Proofs.YteikpeaakmbihaaDoor
