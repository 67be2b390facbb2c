/- For any two lists of nodes and any place the law TreeNorms returns true: a tree in order, any of its nodes as a tree, its nodes' parents, and whether two trees are the same, are as the document says, or refused; each argument reads as before.
   Conditions: the listed variables lie as the program's text lays them (the card ties them); strings and slices are no longer than the form's own reach; nothing else. -/
import Derived.Test.YteikpeaakmbihaaDoorG38
import Derived.Test.YteikpeaakmbihaaDoorG04
namespace Go.Proofs.YteikpeaakmbihaaDoor
open Go.ChangeShapes Go.WideShapes Go.ChangeAt Go.RowKit Go.ChangeMaps
namespace T
theorem cp_few {l : List Nd} (hm : may l = 0) (hS : ∀ x ∈ l, Small x) {i : Nat} (hi : i < l.length) : (cp l i []).length ≤ 600 ∧ ∀ x ∈ cp l i [], x.l.length ≤ 1000000 := by
  obtain ⟨h1, h6⟩ := may_big hm
  have hf := (may_zero hm).2.1
  have hk : kidsOk l := hf.2.1
  have hn : (allKids l).Nodup := hf.2.2.1.1
  refine ⟨by rw [cp_len hk i hi]; have := post_len hk hn hi; simp; omega, fun x hx => ?_⟩
  rw [← (stp_post hk hn _ hi ([], List.replicate l.length 0) (by simp)).1] at hx
  rcases stp_from l _ _ x hx with h | ⟨y, hy, ks, rfl⟩
  · simp at h
  · have := (hS y hy).2.2.1
    have := wk_parts y ks; omega
theorem rlist_self (N : List Nd) (hL : N.length ≤ 1000000) (hS : ∀ x ∈ N, x.l.length ≤ 1000000) (W : World) (v u : Value) (h1 : Nodes W.heap.size W v N) (h2 : Nodes W.heap.size W u N) : Calls Tryd.prog 24 #[.agg #[v], .agg #[u]] W fun e W' => e = .returned (.bool true) ∧ Below W.heap.size W W' := by
  have h := rlist_any N N v u W h1 h2 hL hS
  rwa [ln_self] at h
theorem kws_on {w W : World} (hK : Kws w.heap.size w) (hb : Below w.heap.size w W) : Kws W.heap.size W := Kws_mono (hK.on hb) hb.size
theorem treeNorms_any (w : World) (hK : Kws w.heap.size w) (va : Value) (a : List Nd) (hA : Nodes w.heap.size w va a) (hfa : ∀ y ∈ a, Fit y) (vb : Value) (b : List Nd) (hB : Nodes w.heap.size w vb b) (hfb : ∀ y ∈ b, Fit y) (i : Int) (_lo : -9223372036854775808 ≤ i) (_up : i ≤ 9223372036854775807) :
    Calls Tryd.prog 4 #[.agg #[va], .agg #[vb], .int .i64 i] w fun e w' => e = .returned (.bool true) ∧ Below w.heap.size w w' := by
  obtain ⟨A0, c0, rfl, hxa⟩ := hA
  have hA : Nodes w.heap.size w (.slice A0 a.length c0) a := ⟨A0, c0, rfl, hxa⟩
  obtain ⟨B0, d0, rfl, hxb⟩ := hB
  have hB : Nodes w.heap.size w (.slice B0 b.length d0) b := ⟨B0, d0, rfl, hxb⟩
  have hsa := fit_few hfa
  have hsb := fit_few hfb
  have hLa := few_len a
  have hLb := few_len b
  obtain ⟨la, hla⟩ : ∃ la, few a = la := ⟨_, rfl⟩
  obtain ⟨lb, hlb⟩ : ∃ lb, few b = lb := ⟨_, rfl⟩
  have hma : few la = la := by rw [← hla]; exact few_few a
  have hmb : few lb = lb := by rw [← hlb]; exact few_few b
  rw [hla] at hsa hLa
  rw [hlb] at hsb hLb
  have hS := fun x hx => (hsa x hx).1
  have hS' := fun x hx => (hsb x hx).1
  refine norms_a a b la lb (nrm la) (subN la i) A0 B0 a.length b.length c0 d0 i (may la) (subE la i) (tsm la lb) w (Lib.hid fun W hb => kws_on hK hb)
    (Lib.hid fun W hb => few_any _ a W ((hA.below hb).mono hb.size)) (Lib.hid fun W hb => few_any _ b W ((hB.below hb).mono hb.size)) (Lib.hid hla) (Lib.hid hlb)
    (Lib.hid fun W A c h => few_nodes la la _ hma rfl _ W h) (Lib.hid fun W A c h => few_nodes lb lb _ hmb rfl _ W h)
    (Lib.hid fun W A c hk h => SubPost.law rfl (norm_any la _ W hk h hS (fun x hx => (hsa x hx).2) (by omega)))
    (Lib.hid fun W A c hk h => SubPost.law rfl (sub_law la A c W hk h hsa i))
    (Lib.hid fun W A c hk h => parents_law la A c W hk h hS)
    (Lib.hid fun W v u hk h1 h2 => tsame_any la lb v u W hk h1 h2 hS (fun x hx => (hsa x hx).2) (by omega) hS' (fun x hx => (hsb x hx).2) (by omega))
    (Lib.hid fun W v u h1 h2 => rsame_any la lb v u W h1 h2 hS hS')
    (Lib.hid fun W v h => rmay_all la v W h hS)
    (fun h0 => Lib.hid fun W A c h => NPost.nodes (rnorm_any la _ A c rfl h0 W h hS))
    (Lib.hid fun W v u N hN h1 h2 => ?_)
    (fun h0 => Lib.hid fun x hx => ⟨(hS x hx).2.2.1, fun q hq k hk => (may_zero h0).2.1.2.1 q x hq k hk⟩)
    (fun h0 hi => Lib.hid fun W A c h => ?_)
    (Lib.hid rfl) (fun h0 => ⟨by rw [nrm, if_neg h0], by rw [subN, if_neg (fun h => h0 h.1)], by rw [subE, if_neg h0]⟩) (fun h0 => ⟨(may_big h0).1, (may_big h0).2, ?_⟩) (by simp) (by omega) (by omega)
  · rcases hN with rfl | rfl
    · exact rlist_self _ (by have := (nrm_few hS).1; omega) (nrm_few hS).2 W v u h1 h2
    · by_cases hc : may la = 0 ∧ 0 ≤ i ∧ i < (la.length : Int)
      · have e : subN la i = cp la i.toNat [] := by rw [subN, if_pos hc]
        rw [e] at h1 h2
        have hf := cp_few hc.1 hS (i := i.toNat) (by omega)
        exact rlist_self _ (by omega) hf.2 W v u h1 h2
      · have e : subN la i = [] := by rw [subN, if_neg hc]
        rw [e] at h1 h2
        exact rlist_self _ (by simp) (by simp) W v u h1 h2
  · have h2 := NPost.nodes (rsub_any la (subN la i) A c i.toNat (by rw [subN, if_pos ⟨h0, hi⟩]) h0 (by omega) W h hS)
    rwa [show ((i.toNat : Nat) : Int) = i by omega] at h2
  · by_cases hi : 0 ≤ i ∧ i < (la.length : Int)
    · exact .inl ⟨by rw [subE, if_pos h0, if_pos hi], hi.1, hi.2⟩
    · exact .inr ⟨by rw [subE, if_pos h0, if_neg hi], by rw [subN, if_neg (fun h => hi h.2)], hi⟩
end T
set_option maxRecDepth 100000 in
theorem treeNorms_lifted (os : Os) (started : os.Started) (H : Type) (enc : TypeId × Value → H) :
    ReturnsInHanded {} Tryd.checked os 4 .any (fun w args => (Rows.treeNormsSpec.pre enc Tryd.prog Tryd.f4 [] false w args ∧ laidMetH Tryd.prog listed w) ∧ sizedMet enc Tryd.prog Tryd.f4 (OpenSpec.ofChange Rows.treeNormsSpec) false w args)
      (Rows.treeNormsSpec.post enc Tryd.prog Tryd.f4 false true false false) := by
  refine returnsInHanded_of_change_and (C := Tryd.checked) (X := fun w _ => laidMetH Tryd.prog listed w) (fun _ _ _ hh h => h.of_heap hh) own started (by kernel_rfl) Tryd.func4
    (ChangeSpec.witness_shaped (enc := enc) (C := Tryd.checked) (os := os) (X := fun w _ => laidMetH Tryd.prog listed w) false (World.doorLaid Tryd.prog 400 os) #[.agg #[.slice none 0 0], .agg #[.slice none 0 0], .int .i64 0] 8 rfl (door_shaped os _) (by kernel_rfl) (by kernel_rfl) (by kernel_rfl) (door_met os _)) ?_
  intro W base args ds gs before hval0 hW _ hsz hL _
  have hval : ∀ (j : Nat) t v, Tryd.f4.params[j]? = some t → args[j]? = some v → Value.okWide Tryd.prog W .any base t v := hval0
  have hW' := hW
  obtain ⟨p, q, hA0, hV, rfl, hfz, hnd⟩ := hW
  have hA : DataW.TrodAll enc Tryd.prog W 0 (fun _ => true) true Tryd.f4.params.toList args.toList ds p := hA0
  rw [Tryd.params4] at hA hval
  have hK := kws_of_laid hL
  obtain ⟨v0, vs0, d0, ds0, p0, q0, hargs, rfl, rfl, h0, r0⟩ := trodAll_cons hA
  obtain ⟨v1, vs1, d1, ds1, p1, q1, rfl, rfl, rfl, h1, r1⟩ := trodAll_cons r0
  obtain ⟨v2, vs2, d2, ds2, p2, q2, rfl, rfl, rfl, h2, r2⟩ := trodAll_cons r1
  obtain ⟨rfl, rfl, rfl⟩ := trodAll_nil r2
  obtain rfl : args = #[v0, v1, v2] := by cases args; simp_all
  obtain ⟨rfl, rfl⟩ := trodVars_none hV
  simp only [List.append_nil] at hW'
  have k0 : ∀ (W' : World), Below W.heap.size W W' → DataW.Trod enc Tryd.prog W' 0 (fun b => decide (b < W.heap.size)) true 24 v0 d0 p0 :=
    fun W' hn => Below.trod T.laidOut (by kernel_rfl) (of_decide_eq_true (by kernel_rfl)) h0 hn (fun x hx => by simpa using hW'.lt x (List.mem_append_left _ hx))
  have k1 : ∀ (W' : World), Below W.heap.size W W' → DataW.Trod enc Tryd.prog W' 0 (fun b => decide (b < W.heap.size)) true 24 v1 d1 p1 :=
    fun W' hn => Below.trod T.laidOut (by kernel_rfl) (of_decide_eq_true (by kernel_rfl)) h1 hn (fun x hx => by simpa using hW'.lt x (List.mem_append_right _ (List.mem_append_left _ hx)))
  have k2 : ∀ (W' : World), Below W.heap.size W W' → DataW.Trod enc Tryd.prog W' 0 (fun b => decide (b < W.heap.size)) true 3 v2 d2 p2 :=
    fun W' hn => Below.trod T.laidOut (by kernel_rfl) (of_decide_eq_true (by kernel_rfl)) h2 hn (fun x hx => by simpa using hW'.lt x (List.mem_append_right _ (List.mem_append_right _ hx)))
  obtain ⟨x0, y0, e0, n0, f0⟩ := (T.arg_expr (hval 0 24 v0 rfl rfl) h0 (T.light_of hsz (j := 0) (t := 24) rfl rfl))
  obtain ⟨x1, y1, e1, n1, f1⟩ := (T.arg_expr (hval 1 24 v1 rfl rfl) h1 (T.light_of hsz (j := 1) (t := 24) rfl rfl))
  obtain ⟨i2, hi2, lo2, up2⟩ := T.arg_int (hval 2 3 v2 rfl rfl) h2
  have fin : ∀ e W', (e = Ending.returned (.bool true) ∧ Below W.heap.size W W') →
      ∃ v, e = Ending.returned v ∧ Rows.treeNormsSpec.post enc Tryd.checked.prog Tryd.f4 false true false false W #[v0, v1, v2] v W' := by
    rintro e W' ⟨rfl, hg⟩
    exact ⟨_, rfl, _, _, _, [], p0 ++ (p1 ++ p2), [], hW', (trodAll_cons_mk (shut_bool Tryd.underlying4 true) trodAll_mk0), (T.trod_3 (k0 _ hg) (k1 _ hg) (k2 _ hg)), rfl, hg.frame _, fun h => by cases h⟩
  subst e0
  subst e1
  subst hi2
  exact (T.treeNorms_any W hK x0 y0 n0 f0 x1 y1 n1 f1 i2 lo2 up2).mono fin
theorem treeNorms_holds : Rows.TreeNormsSaid :=
  OpenClaim.holds_of_wide 4 Tryd.f4 rfl rfl rfl rfl rfl rfl rfl ⟨rfl, rfl, rfl, rfl, rfl⟩ rfl rfl rfl rfl rfl (by kernel_rfl) Tryd.func4 (by kernel_rfl)
    (of_decide_eq_true (by kernel_rfl)) (by unfold Func.isWrapper; first | (rw [if_pos (by decide +kernel)]; kernel_rfl) | (rw [if_neg (by decide +kernel)]; exact ⟨rfl, rfl⟩))
    (fun os started H enc _ => treeNorms_lifted os started H enc)
theorem treeNorms_card : Rows.TreeNormsCardSaid :=
  Claim7.holds_tied_plain_at .later [] [.data] true (true, "3f4ebccfb12b1ccd389c501ffd003a9f1f4e888abf5517fe329fc68e34a1e74b") false
    treeNorms_holds (fun _ h => by cases h) (by kernel_rfl) (fun _ h => by cases h) treeNorms_row_tie rfl ⟨rfl, rfl⟩ (by kernel_rfl) rfl
    (fun f fn hf hfn => by
      obtain rfl : f = 4 := Option.some.inj ((show Tryd.prog.funcNamed "syntagma/syntagmalaw05.TreeNorms" = some 4 by kernel_rfl).symm.trans hf) |>.symm
      obtain rfl : fn = Tryd.f4 := (Option.some.inj (Tryd.func4.symm.trans hfn)).symm
      exact ⟨by kernel_rfl, fun j t ht => by
        rw [Tryd.params4] at ht
        have hm : t ∈ [24, 24, 3] := by simpa using Array.mem_of_getElem? ht
        have hall : ([24, 24, 3].all fun u => !Tryd.prog.wantsStandIn u) = true := by kernel_rfl
        exact (show Tryd.prog.wantsStandIn t = false by simpa using List.all_eq_true.1 hall t hm)⟩)
    (by kernel_rfl)
#print axioms treeNorms_card
end Go.Proofs.YteikpeaakmbihaaDoor
