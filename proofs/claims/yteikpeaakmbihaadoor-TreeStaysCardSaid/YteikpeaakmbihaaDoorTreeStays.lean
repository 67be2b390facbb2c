/- For any list of nodes and any place the law TreeStays returns true: in order, a tree stays as it is, and is the same as it was; a node and its children, as trees, joined make what is below that node; each argument reads as before.
   Conditions: the listed variables lie as the program's text lays them (the card ties them); strings and slices are no longer than the form's own reach; nothing else. -/
import Derived.Test.YteikpeaakmbihaaDoorG46
import Derived.Test.YteikpeaakmbihaaDoorG04
namespace Go.Proofs.YteikpeaakmbihaaDoor
open Go.ChangeShapes Go.WideShapes Go.ChangeAt Go.RowKit Go.ChangeMaps
namespace T
theorem cp_fewS {l : List Nd} (hm : may l = 0) (hS : ∀ x ∈ l, Small x) {i : Nat} (hi : i < l.length) : (cp l i []).length ≤ 600 ∧ ∀ x ∈ cp l i [], x.l.length ≤ 1000000 := by
  obtain ⟨h1, h6⟩ := may_big hm
  have hf := (may_zero hm).2.1
  have hk : kidsOk l := hf.2.1
  have hn : (allKids l).Nodup := hf.2.2.1.1
  refine ⟨by rw [cp_len hk i hi]; have := post_len hk hn hi; simp; omega, fun x hx => ?_⟩
  rw [← (stp_post hk hn _ hi ([], List.replicate l.length 0) (by simp)).1] at hx
  rcases stp_from l _ _ x hx with h | ⟨y, hy, ks, rfl⟩
  · simp at h
  · have := (hS y hy).2.2.1
    have := wk_parts y ks; omega
theorem rlist_selfS (N : List Nd) (hL : N.length ≤ 1000000) (hS : ∀ x ∈ N, x.l.length ≤ 1000000) (W : World) (v u : Value) (h1 : Nodes W.heap.size W v N) (h2 : Nodes W.heap.size W u N) : Calls Tryd.prog 24 #[.agg #[v], .agg #[u]] W fun e W' => e = .returned (.bool true) ∧ Below W.heap.size W W' := by
  have h := rlist_any N N v u W h1 h2 hL hS
  rwa [ln_self] at h
theorem kws_onS {w W : World} (hK : Kws w.heap.size w) (hb : Below w.heap.size w W) : Kws W.heap.size W := Kws_mono (hK.on hb) hb.size
theorem sum_fewS : ∀ (es : List (List Nd)), (∀ e ∈ es, e.length ≤ 600) → (es.map List.length).sum ≤ es.length * 600
  | [], _ => by simp
  | e :: es, h => by
    have h1 := h e (by simp)
    have h2 := sum_fewS es fun e' he => h e' (by simp [he])
    simp only [List.map_cons, List.sum_cons, List.length_cons]
    omega
theorem relab_from : ∀ (l : List Fld) (ks : List Int), ∀ f ∈ relab l ks, ∃ g ∈ l, f.nm = g.nm ∧ f.vr = g.vr
  | [], _, f, h => by simp [relab] at h
  | g :: l, [], f, h => by simp [relab] at h
  | g :: l, k :: ks, f, h => by
    rw [relab, List.zipWith_cons_cons] at h
    rcases List.mem_cons.1 h with rfl | h
    · exact ⟨g, by simp, rfl, rfl⟩
    · obtain ⟨g', h1, h2⟩ := relab_from l ks f h
      exact ⟨g', by simp [h1], h2⟩
theorem wk_from (x : Nd) (ks : List Int) : ∀ f ∈ (wk x ks).l, ∃ g ∈ x.l, f.nm = g.nm ∧ f.vr = g.vr := fun f hf => by
  simp only [wk] at hf
  by_cases hm : many x = true
  · rw [if_pos hm] at hf; exact relab_from _ _ f hf
  · rw [if_neg hm] at hf; simp at hf
theorem wk_good {x : Nd} (h : Small x ∧ Clonable x) (ks : List Int) : Small (wk x ks) ∧ Clonable (wk x ks) := by
  obtain ⟨⟨a1, a2, a3, a4⟩, b1, b2, b3, b4⟩ := h
  have hl := wk_parts x ks
  refine ⟨⟨a1, a2, by omega, fun f hf => ?_⟩, b1, b2, by omega, fun f hf => ?_⟩
  · obtain ⟨g, hg, e1, e2⟩ := wk_from x ks f hf
    rw [e1, e2]; exact a4 g hg
  · obtain ⟨g, hg, e1, e2⟩ := wk_from x ks f hf
    rw [e1, e2]; exact b4 g hg
theorem cp_good {l : List Nd} (hm : may l = 0) (hS : ∀ x ∈ l, Small x ∧ Clonable x) {i : Nat} (hi : i < l.length) : ∀ x ∈ cp l i [], Small x ∧ Clonable x := fun x hx => by
  have hf := (may_zero hm).2.1
  rw [← (stp_post hf.2.1 hf.2.2.1.1 _ hi ([], List.replicate l.length 0) (by simp)).1] at hx
  rcases stp_from l _ _ x hx with h | ⟨y, hy, ks, rfl⟩
  · simp at h
  · exact wk_good (hS y hy) ks
theorem treeStays_any (w : World) (hK : Kws w.heap.size w) (va : Value) (a : List Nd) (hA : Nodes w.heap.size w va a) (hfa : ∀ y ∈ a, Fit y) (i : Int) (_lo : -9223372036854775808 ≤ i) (_up : i ≤ 9223372036854775807) :
    Calls Tryd.prog 6 #[.agg #[va], .int .i64 i] w fun e w' => e = .returned (.bool true) ∧ Below w.heap.size w w' := by
  obtain ⟨A0, c0, rfl, hxa⟩ := hA
  have hA : Nodes w.heap.size w (.slice A0 a.length c0) a := ⟨A0, c0, rfl, hxa⟩
  have hsa := fit_few hfa
  have hLa := few_len a
  obtain ⟨la, hla⟩ : ∃ la, few a = la := ⟨_, rfl⟩
  rw [hla] at hsa hLa
  have hS := fun x hx => (hsa x hx).1
  have hC := fun x hx => (hsa x hx).2
  refine stays_a a la (nrm la) A0 a.length c0 i (may la) w (Lib.hid fun W hb => kws_onS hK hb)
    (Lib.hid fun W hb => works_any W (kws_onS hK hb))
    (Lib.hid fun W hb => few_any _ a W ((hA.below hb).mono hb.size)) (Lib.hid hla)
    (Lib.hid fun W A c hk h => SubPost.law rfl (norm_any la _ W hk h hS hC (by omega)))
    (fun h0 => by rw [nrm, if_neg h0]) (fun h0 => Lib.hid fun W A c hk h => ?_) (fun h0 => Lib.hid fun W v u hk h1 h2 => ?_) (fun h0 => Lib.hid fun W v u M hM h1 h2 => ?_)
    (fun h0 => may_big h0) (fun h0 => Lib.hid fun W => among_any i la.length (may_big h0).1 (may_big h0).2 W)
    (fun h0 => Lib.hid fun x hx W v B hB hF => ?_) (fun h0 => Lib.hid fun q x hx => ⟨?_, (may_zero h0).2.1.2.1 q x hx⟩)
    (fun h0 => Lib.hid fun j W A c hj hk h => ?_) (fun h0 => Lib.hid fun r x hx W v u hF hE => ?_)
  · obtain ⟨m1, m2⟩ := may_cp h0
    have hcp : nrm la = cp la (la.length - 1) [] := by rw [nrm, if_pos h0]
    have hg : ∀ x ∈ nrm la, Small x ∧ Clonable x := by rw [hcp]; exact cp_good h0 hsa (by have := may_big h0; omega)
    have h2 := SubPost.law rfl (norm_any (nrm la) _ W hk h (fun x hx => (hg x hx).1) (fun x hx => (hg x hx).2) (by have := (nrm_few hS).1; omega))
    rwa [m1, m2] at h2
  · obtain ⟨m1, m2⟩ := may_cp h0
    have hcp : nrm la = cp la (la.length - 1) [] := by rw [nrm, if_pos h0]
    have hg : ∀ x ∈ nrm la, Small x ∧ Clonable x := by rw [hcp]; exact cp_good h0 hsa (by have := may_big h0; omega)
    have h3 := tsame_any la (nrm la) v u W hk h1 h2 hS hC (by omega) (fun x hx => (hg x hx).1) (fun x hx => (hg x hx).2) (by have := (nrm_few hS).1; omega)
    rwa [tsm, h0, m1, m2, ln_self] at h3
  · rcases hM with rfl | ⟨r, hr, rfl⟩
    · exact rlist_selfS _ (by have := (nrm_few hS).1; omega) (nrm_few hS).2 W v u h1 h2
    · have hf := cp_fewS h0 hS hr
      exact rlist_selfS _ (by omega) hf.2 W v u h1 h2
  · refine (pkids_any (B := W.heap.size) x v W (Nat.le_refl _) hF (hS x hx).2.2.1).mono ?_
    rintro e W' ⟨g, c, rfl, hi, hb⟩
    exact ⟨g, c, rfl, row_mono hi hB, hb⟩
  · have := kids_len x
    have := may_parts h0 x (List.mem_of_getElem? hx)
    omega
  · have h2 := sub_law la A c W hk h hsa (j : Int)
    rwa [subE, if_pos h0, if_pos ⟨by omega, by omega⟩, subN, if_pos ⟨h0, by omega, by omega⟩, Int.toNat_natCast] at h2
  · have hk := (may_zero h0).2.1.2.1
    have hkx := hk r x hx
    have hr := (List.getElem?_eq_some_iff.1 hx).1
    have e : joinN x ((kids x).map fun k => cp la k.toNat []) = cp la r [] := join_subs hk hx
    have h6 : ∀ e ∈ (kids x).map (fun k => cp la k.toNat []), e.length ≤ 600 ∧ ∀ m ∈ e, Clonable m ∧ ∀ k ∈ kids m, 0 ≤ k ∧ k ≤ 1000000 := fun e he => by
      obtain ⟨k, hkk, rfl⟩ := List.mem_map.1 he
      have hka := hkx k hkk
      have hkl : k.toNat < la.length := by omega
      have hf := (cp_fewS h0 hS hkl).1
      refine ⟨hf, fun m hm => ⟨(cp_good h0 hsa hkl m hm).2, fun z hz => ?_⟩⟩
      obtain ⟨q, hq⟩ := List.getElem?_of_mem hm
      have h1 := (cp_kids hk _ hkl [] (fun i x hx => by simp at hx)).1 q m hq z hz
      have h2 := (List.getElem?_eq_some_iff.1 hq).1
      omega
    have hsum := sum_fewS _ fun e he => (h6 e he).1
    have hkl : (kids x).length ≤ 33 := by
      have := kids_len x
      have := may_parts h0 x (List.mem_of_getElem? hx)
      omega
    rw [List.length_map] at hsum
    have hs2 : (kids x).length * 600 ≤ 33 * 600 := Nat.mul_le_mul_right _ hkl
    have h := NPost.nodes (pjoin_law x _ v u W hF hE ⟨by simp, by simp; omega, by omega, hC x (List.mem_of_getElem? hx), fun e he m hm => (h6 e he).2 m hm⟩)
    rwa [e] at h
end T
set_option maxRecDepth 100000 in
theorem treeStays_lifted (os : Os) (started : os.Started) (H : Type) (enc : TypeId × Value → H) :
    ReturnsInHanded {} Tryd.checked os 6 .any (fun w args => (Rows.treeStaysSpec.pre enc Tryd.prog Tryd.f6 [] false w args ∧ laidMetH Tryd.prog listed w) ∧ sizedMet enc Tryd.prog Tryd.f6 (OpenSpec.ofChange Rows.treeStaysSpec) false w args)
      (Rows.treeStaysSpec.post enc Tryd.prog Tryd.f6 false true false false) := by
  refine returnsInHanded_of_change_and (C := Tryd.checked) (X := fun w _ => laidMetH Tryd.prog listed w) (fun _ _ _ hh h => h.of_heap hh) own started (by kernel_rfl) Tryd.func6
    (ChangeSpec.witness_shaped (enc := enc) (C := Tryd.checked) (os := os) (X := fun w _ => laidMetH Tryd.prog listed w) false (World.doorLaid Tryd.prog 400 os) #[.agg #[.slice none 0 0], .int .i64 0] 8 rfl (door_shaped os _) (by kernel_rfl) (by kernel_rfl) (by kernel_rfl) (door_met os _)) ?_
  intro W base args ds gs before hval0 hW _ hsz hL _
  have hval : ∀ (j : Nat) t v, Tryd.f6.params[j]? = some t → args[j]? = some v → Value.okWide Tryd.prog W .any base t v := hval0
  have hW' := hW
  obtain ⟨p, q, hA0, hV, rfl, hfz, hnd⟩ := hW
  have hA : DataW.TrodAll enc Tryd.prog W 0 (fun _ => true) true Tryd.f6.params.toList args.toList ds p := hA0
  rw [Tryd.params6] at hA hval
  have hK := kws_of_laid hL
  obtain ⟨v0, vs0, d0, ds0, p0, q0, hargs, rfl, rfl, h0, r0⟩ := trodAll_cons hA
  obtain ⟨v1, vs1, d1, ds1, p1, q1, rfl, rfl, rfl, h1, r1⟩ := trodAll_cons r0
  obtain ⟨rfl, rfl, rfl⟩ := trodAll_nil r1
  obtain rfl : args = #[v0, v1] := by cases args; simp_all
  obtain ⟨rfl, rfl⟩ := trodVars_none hV
  simp only [List.append_nil] at hW'
  have k0 : ∀ (W' : World), Below W.heap.size W W' → DataW.Trod enc Tryd.prog W' 0 (fun b => decide (b < W.heap.size)) true 24 v0 d0 p0 :=
    fun W' hn => Below.trod T.laidOut (by kernel_rfl) (of_decide_eq_true (by kernel_rfl)) h0 hn (fun x hx => by simpa using hW'.lt x (List.mem_append_left _ hx))
  have k1 : ∀ (W' : World), Below W.heap.size W W' → DataW.Trod enc Tryd.prog W' 0 (fun b => decide (b < W.heap.size)) true 3 v1 d1 p1 :=
    fun W' hn => Below.trod T.laidOut (by kernel_rfl) (of_decide_eq_true (by kernel_rfl)) h1 hn (fun x hx => by simpa using hW'.lt x (List.mem_append_right _ hx))
  obtain ⟨x0, y0, e0, n0, f0⟩ := (T.arg_expr (hval 0 24 v0 rfl rfl) h0 (T.light_of hsz (j := 0) (t := 24) rfl rfl))
  obtain ⟨i1, hi1, lo1, up1⟩ := T.arg_int (hval 1 3 v1 rfl rfl) h1
  have fin : ∀ e W', (e = Ending.returned (.bool true) ∧ Below W.heap.size W W') →
      ∃ v, e = Ending.returned v ∧ Rows.treeStaysSpec.post enc Tryd.checked.prog Tryd.f6 false true false false W #[v0, v1] v W' := by
    rintro e W' ⟨rfl, hg⟩
    exact ⟨_, rfl, _, _, _, [], p0 ++ p1, [], hW', (trodAll_cons_mk (shut_bool Tryd.underlying4 true) trodAll_mk0), (T.trod_2 (k0 _ hg) (k1 _ hg)), rfl, hg.frame _, fun h => by cases h⟩
  subst e0
  subst hi1
  exact (T.treeStays_any W hK x0 y0 n0 f0 i1 lo1 up1).mono fin
theorem treeStays_holds : Rows.TreeStaysSaid :=
  OpenClaim.holds_of_wide 6 Tryd.f6 rfl rfl rfl rfl rfl rfl rfl ⟨rfl, rfl, rfl, rfl, rfl⟩ rfl rfl rfl rfl rfl (by kernel_rfl) Tryd.func6 (by kernel_rfl)
    (of_decide_eq_true (by kernel_rfl)) (by unfold Func.isWrapper; first | (rw [if_pos (by decide +kernel)]; kernel_rfl) | (rw [if_neg (by decide +kernel)]; exact ⟨rfl, rfl⟩))
    (fun os started H enc _ => treeStays_lifted os started H enc)
theorem treeStays_card : Rows.TreeStaysCardSaid :=
  Claim7.holds_tied_plain_at .later [] [.data] true (true, "3f4ebccfb12b1ccd389c501ffd003a9f1f4e888abf5517fe329fc68e34a1e74b") false
    treeStays_holds (fun _ h => by cases h) (by kernel_rfl) (fun _ h => by cases h) treeStays_row_tie rfl ⟨rfl, rfl⟩ (by kernel_rfl) rfl
    (fun f fn hf hfn => by
      obtain rfl : f = 6 := Option.some.inj ((show Tryd.prog.funcNamed "syntagma/syntagmalaw05.TreeStays" = some 6 by kernel_rfl).symm.trans hf) |>.symm
      obtain rfl : fn = Tryd.f6 := (Option.some.inj (Tryd.func6.symm.trans hfn)).symm
      exact ⟨by kernel_rfl, fun j t ht => by
        rw [Tryd.params6] at ht
        have hm : t ∈ [24, 3] := by simpa using Array.mem_of_getElem? ht
        have hall : ([24, 3].all fun u => !Tryd.prog.wantsStandIn u) = true := by kernel_rfl
        exact (show Tryd.prog.wantsStandIn t = false by simpa using List.all_eq_true.1 hall t hm)⟩)
    (by kernel_rfl)
#print axioms treeStays_card
end Go.Proofs.YteikpeaakmbihaaDoor
