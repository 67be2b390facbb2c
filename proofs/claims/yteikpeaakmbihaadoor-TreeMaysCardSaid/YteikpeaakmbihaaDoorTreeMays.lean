/- For any nodes and any node the law TreeMays returns true: whether the nodes may be a tree, how deep it is, and the node's children, are as the document says; each argument reads as before.
   Conditions: the listed variables lie as the program's text lays them (the card ties them); strings and slices are no longer than the form's own reach; nothing else. -/
import Derived.Test.YteikpeaakmbihaaDoorG32
import Derived.Test.YteikpeaakmbihaaDoorG33
import Derived.Test.YteikpeaakmbihaaDoorG34
namespace Go.Proofs.YteikpeaakmbihaaDoor
open Go.ChangeShapes Go.WideShapes Go.ChangeAt Go.RowKit Go.ChangeMaps
namespace T
theorem cut_min (x : Nd) : (cut x).l = x.l.take (min x.l.length 60) := by
  show x.l.take 60 = _
  rcases Nat.le_total x.l.length 60 with h | h
  · rw [Nat.min_eq_left h, List.take_of_length_le h, List.take_of_length_le (Nat.le_refl _)]
  · rw [Nat.min_eq_right h]
theorem kids_few (x : Nd) : (kids (cut x)).length ≤ 1000 := by
  have := kids_len (cut x)
  have h : (cut x).l.length ≤ 60 := by simp only [cut, List.length_take]; omega
  omega
theorem kws_next {w W : World} (hK : Kws w.heap.size w) (hb : Below w.heap.size w W) : Kws W.heap.size W := Kws_mono (hK.on hb) hb.size
theorem treeMays_any (v : Value) (l : List Nd) (w : World) (hN : Nodes w.heap.size w v l) (hfl : ∀ y ∈ l, Fit y) (x : Nd) (fv : Value) (hF : Flds w.heap.size w fv x.l) (_hfx : Fit x) (hK : Kws w.heap.size w) :
    Calls Tryd.prog 3 #[.agg #[v], .agg (ndArr x fv)] w fun e w' => e = .returned (.bool true) ∧ Below w.heap.size w w' := by
  obtain ⟨A0, c0, rfl, hx0⟩ := hN
  have hN : Nodes w.heap.size w (.slice A0 l.length c0) l := ⟨A0, c0, rfl, hx0⟩
  have HK : Hid (∀ w1, Below w.heap.size w w1 → Kws w1.heap.size w1) := Lib.hid fun w1 hb => kws_next hK hb
  have HFEW : Hid (∀ w1, Below w.heap.size w w1 → Calls Tryd.prog 10 #[.agg #[.slice A0 l.length c0]] w1 (FewPost l w1)) := Lib.hid fun w1 hb => few_any _ l w1 ((hN.below hb).mono hb.size)
  have hsc := fit_few hfl
  have hL7 := few_len l
  obtain ⟨ml, hml⟩ : ∃ ml, few l = ml := ⟨_, rfl⟩
  have hmm : few ml = ml := by rw [← hml]; exact few_few l
  rw [hml] at hsc hL7
  obtain ⟨L, hL⟩ : ∃ L, ml.length = L := ⟨_, rfl⟩
  rw [hL] at hL7
  obtain ⟨M, hM⟩ : ∃ M, may ml = M := ⟨_, rfl⟩
  obtain ⟨D, hD⟩ : ∃ D, deepOf ml = D := ⟨_, rfl⟩
  obtain ⟨K, hKK⟩ : ∃ K, kids (cut x) = K := ⟨_, rfl⟩
  have hK6 := kids_few x
  rw [hKK] at hK6
  have hcl : (cut x).l.length ≤ 1000000 := by simp only [cut, List.length_take]; omega
  have HF2 : Hid (∀ (w1 : World) (A : Option Addr) (c : Nat), Nodes w1.heap.size w1 (.slice A L c) ml → Calls Tryd.prog 10 #[.agg #[.slice A L c]] w1 fun e w2 => ∃ A c, e = .returned (.agg #[.slice A L c]) ∧ Nodes w2.heap.size w2 (.slice A L c) ml ∧ Below w1.heap.size w1 w2) := Lib.hid fun w1 A c h => few_nodes ml ml L hmm hL _ w1 h
  have HRM : Hid (∀ (w1 : World) (A : Option Addr) (c : Nat), Nodes w1.heap.size w1 (.slice A L c) ml → Calls Tryd.prog 11 #[.agg #[.slice A L c]] w1 fun e w2 => e = .returned (.int .i64 M) ∧ Below w1.heap.size w1 w2) := Lib.hid fun w1 A c h => by rw [← hM]; exact rmay_all ml _ w1 h fun y hy => (hsc y hy).1
  have HPM : Hid (∀ (w1 : World) (A : Option Addr) (c : Nat), Kws w1.heap.size w1 → Nodes w1.heap.size w1 (.slice A L c) ml → Calls Tryd.prog 13 #[.agg #[.slice A L c]] w1 fun e w2 => e = .returned (.int .i64 M) ∧ Below w1.heap.size w1 w2) := Lib.hid fun w1 A c hk h => by rw [← hM]; exact may_any ml _ w1 hk h fun y hy => (hsc y hy).1
  have HPD : Hid (∀ (w1 : World) (A : Option Addr) (c : Nat), Kws w1.heap.size w1 → Nodes w1.heap.size w1 (.slice A L c) ml → Calls Tryd.prog 14 #[.agg #[.slice A L c]] w1 fun e w2 => e = .returned (.int .i64 D) ∧ Below w1.heap.size w1 w2) := Lib.hid fun w1 A c hk h => by rw [← hD]; exact deep_any ml _ w1 hk h fun y hy => (hsc y hy).1
  have HPK : Hid (∀ (W : World) (v : Value), Flds W.heap.size W v (cut x).l → Calls Tryd.prog 16 #[.agg #[.int .i64 x.kind, .int .i64 x.a, .int .i64 x.b, .int .i64 x.c, .int .i64 x.n, .string x.nm, .string x.s, v, .int .i64 x.pos]] W fun e W' => ∃ g c, e = .returned (.slice (some ⟨g, 0, none⟩) K.length c) ∧ Rw W' g K ∧ Below W.heap.size W W') := Lib.hid fun W v h => kids_law (x := x) (by rw [← hKK]; exact pkids_any (cut x) v W (Nat.le_refl _) h hcl) rfl
  have HRK : Hid (∀ (W : World) (v : Value), Flds W.heap.size W v (cut x).l → Calls Tryd.prog 17 #[.agg #[.int .i64 x.kind, .int .i64 x.a, .int .i64 x.b, .int .i64 x.c, .int .i64 x.n, .string x.nm, .string x.s, v, .int .i64 x.pos]] W fun e W' => ∃ g c, e = .returned (.slice (some ⟨g, 0, none⟩) K.length c) ∧ Rw W' g K ∧ Below W.heap.size W W') := Lib.hid fun W v h => kids_law (x := x) (by rw [← hKK]; exact kids_any (cut x) v W (Nat.le_refl _) h hcl) rfl
  have HRD : M = 0 → Hid (∀ (w1 : World) (A : Option Addr) (c : Nat), Nodes w1.heap.size w1 (.slice A L c) ml → Calls Tryd.prog 12 #[.agg #[.slice A L c], .int .i64 ((L : Int) - 1)] w1 fun e w2 => e = .returned (.int .i64 D) ∧ Below w1.heap.size w1 w2) := fun h0 => Lib.hid fun w1 A c h => by
    subst hL
    rw [← hD]; exact rdepth_root ml A c (hM.trans h0) w1 h fun y hy => (hsc y hy).1
  have hD0 : M ≠ 0 → D = 0 := fun h => by rw [← hD, deepOf, hM, if_neg h]
  obtain ⟨FA, fc, rfl, hfc, hnil, hpos⟩ := hF
  by_cases h0 : M = 0
  · cases FA with
    | none =>
      obtain rfl := hnil rfl
      obtain ⟨n, hn⟩ : ∃ n, x.l.length = n := ⟨_, rfl⟩
      rw [hn] at hfc hpos ⊢
      obtain rfl : n = 0 := by omega
      subst h0
      exact mays_nn l ml L D K x A0 l.length c0 w (HRD rfl) HK HFEW (Lib.hid hml) (Lib.hid hL) hL7 (Lib.hid hsc) HF2 HRM HPM HPD (Lib.hid hn) (Lib.hid hpos) (Lib.hid (by simp only [cut]; rw [List.eq_nil_of_length_eq_zero hn]; rfl)) K.length (Lib.hid rfl) (by omega) HPK HRK
    | some fa =>
      subst h0
      exact mays_ns l ml L D K x A0 l.length c0 fa x.l.length (min x.l.length 60) fc w (HRD rfl) HK HFEW (Lib.hid hml) (Lib.hid hL) hL7 (Lib.hid hsc) HF2 HRM HPM HPD (by omega) hfc (Lib.hid rfl) (Lib.hid hpos) (Lib.hid (cut_min x)) K.length (Lib.hid rfl) (by omega) HPK HRK
  · obtain rfl := hD0 h0
    have hb : (M == 0) = false := by simpa using h0
    cases FA with
    | none =>
      obtain rfl := hnil rfl
      obtain ⟨n, hn⟩ : ∃ n, x.l.length = n := ⟨_, rfl⟩
      rw [hn] at hfc hpos ⊢
      obtain rfl : n = 0 := by omega
      exact mays_zn l ml L M K x A0 l.length c0 w hb HK HFEW (Lib.hid hml) (Lib.hid hL) hL7 (Lib.hid hsc) HF2 HRM HPM HPD (Lib.hid hn) (Lib.hid hpos) (Lib.hid (by simp only [cut]; rw [List.eq_nil_of_length_eq_zero hn]; rfl)) K.length (Lib.hid rfl) (by omega) HPK HRK
    | some fa =>
      exact mays_zs l ml L M K x A0 l.length c0 fa x.l.length (min x.l.length 60) fc w hb HK HFEW (Lib.hid hml) (Lib.hid hL) hL7 (Lib.hid hsc) HF2 HRM HPM HPD (by omega) hfc (Lib.hid rfl) (Lib.hid hpos) (Lib.hid (cut_min x)) K.length (Lib.hid rfl) (by omega) HPK HRK
end T
set_option maxRecDepth 100000 in
theorem treeMays_lifted (os : Os) (started : os.Started) (H : Type) (enc : TypeId × Value → H) :
    ReturnsInHanded {} Tryd.checked os 3 .any (fun w args => (Rows.treeMaysSpec.pre enc Tryd.prog Tryd.f3 [] false w args ∧ laidMetH Tryd.prog listed w) ∧ sizedMet enc Tryd.prog Tryd.f3 (OpenSpec.ofChange Rows.treeMaysSpec) false w args)
      (Rows.treeMaysSpec.post enc Tryd.prog Tryd.f3 false true false false) := by
  refine returnsInHanded_of_change_and (C := Tryd.checked) (X := fun w _ => laidMetH Tryd.prog listed w) (fun _ _ _ hh h => h.of_heap hh) own started (by kernel_rfl) Tryd.func3
    (ChangeSpec.witness_shaped (enc := enc) (C := Tryd.checked) (os := os) (X := fun w _ => laidMetH Tryd.prog listed w) false (World.doorLaid Tryd.prog 400 os) #[.agg #[.slice none 0 0], .agg #[.int .i64 0, .int .i64 0, .int .i64 0, .int .i64 0, .int .i64 0, .string ⟨#[]⟩, .string ⟨#[]⟩, .slice none 0 0, .int .i64 0]] 8 rfl (door_shaped os _) (by kernel_rfl) (by kernel_rfl) (by kernel_rfl) (door_met os _)) ?_
  intro W base args ds gs before hval0 hW _ hsz hL _
  have hval : ∀ (j : Nat) t v, Tryd.f3.params[j]? = some t → args[j]? = some v → Value.okWide Tryd.prog W .any base t v := hval0
  have hW' := hW
  obtain ⟨p, q, hA0, hV, rfl, hfz, hnd⟩ := hW
  have hA : DataW.TrodAll enc Tryd.prog W 0 (fun _ => true) true Tryd.f3.params.toList args.toList ds p := hA0
  rw [Tryd.params3] at hA hval
  have hK := kws_of_laid hL
  obtain ⟨v0, vs0, d0, ds0, p0, q0, hargs, rfl, rfl, h0, r0⟩ := trodAll_cons hA
  obtain ⟨v1, vs1, d1, ds1, p1, q1, rfl, rfl, rfl, h1, r1⟩ := trodAll_cons r0
  obtain ⟨rfl, rfl, rfl⟩ := trodAll_nil r1
  obtain rfl : args = #[v0, v1] := by cases args; simp_all
  obtain ⟨rfl, rfl⟩ := trodVars_none hV
  simp only [List.append_nil] at hW'
  have k0 : ∀ (W' : World), Below W.heap.size W W' → DataW.Trod enc Tryd.prog W' 0 (fun b => decide (b < W.heap.size)) true 24 v0 d0 p0 :=
    fun W' hn => Below.trod T.laidOut (by kernel_rfl) (of_decide_eq_true (by kernel_rfl)) h0 hn (fun x hx => by simpa using hW'.lt x (List.mem_append_left _ hx))
  have k1 : ∀ (W' : World), Below W.heap.size W W' → DataW.Trod enc Tryd.prog W' 0 (fun b => decide (b < W.heap.size)) true 27 v1 d1 p1 :=
    fun W' hn => Below.trod T.laidOut (by kernel_rfl) (of_decide_eq_true (by kernel_rfl)) h1 hn (fun x hx => by simpa using hW'.lt x (List.mem_append_right _ hx))
  obtain ⟨x0, y0, e0, n0, f0⟩ := (T.arg_expr (hval 0 24 v0 rfl rfl) h0 (T.light_of hsz (j := 0) (t := 24) rfl rfl))
  obtain ⟨x1, y1, e1, n1, f1⟩ := (T.arg_node (hval 1 27 v1 rfl rfl) h1 (T.light_of hsz (j := 1) (t := 27) rfl rfl))
  have fin : ∀ e W', (e = Ending.returned (.bool true) ∧ Below W.heap.size W W') →
      ∃ v, e = Ending.returned v ∧ Rows.treeMaysSpec.post enc Tryd.checked.prog Tryd.f3 false true false false W #[v0, v1] v W' := by
    rintro e W' ⟨rfl, hg⟩
    exact ⟨_, rfl, _, _, _, [], p0 ++ p1, [], hW', (trodAll_cons_mk (shut_bool Tryd.underlying4 true) trodAll_mk0), (T.trod_2 (k0 _ hg) (k1 _ hg)), rfl, hg.frame _, fun h => by cases h⟩
  subst e0
  subst e1
  exact (T.treeMays_any x0 y0 W n0 f0 x1 y1 n1 f1 hK).mono fin
theorem treeMays_holds : Rows.TreeMaysSaid :=
  OpenClaim.holds_of_wide 3 Tryd.f3 rfl rfl rfl rfl rfl rfl rfl ⟨rfl, rfl, rfl, rfl, rfl⟩ rfl rfl rfl rfl rfl (by kernel_rfl) Tryd.func3 (by kernel_rfl)
    (of_decide_eq_true (by kernel_rfl)) (by unfold Func.isWrapper; first | (rw [if_pos (by decide +kernel)]; kernel_rfl) | (rw [if_neg (by decide +kernel)]; exact ⟨rfl, rfl⟩))
    (fun os started H enc _ => treeMays_lifted os started H enc)
theorem treeMays_card : Rows.TreeMaysCardSaid :=
  Claim7.holds_tied_plain_at .later [] [.data] true (true, "3f4ebccfb12b1ccd389c501ffd003a9f1f4e888abf5517fe329fc68e34a1e74b") false
    treeMays_holds (fun _ h => by cases h) (by kernel_rfl) (fun _ h => by cases h) treeMays_row_tie rfl ⟨rfl, rfl⟩ (by kernel_rfl) rfl
    (fun f fn hf hfn => by
      obtain rfl : f = 3 := Option.some.inj ((show Tryd.prog.funcNamed "syntagma/syntagmalaw05.TreeMays" = some 3 by kernel_rfl).symm.trans hf) |>.symm
      obtain rfl : fn = Tryd.f3 := (Option.some.inj (Tryd.func3.symm.trans hfn)).symm
      exact ⟨by kernel_rfl, fun j t ht => by
        rw [Tryd.params3] at ht
        have hm : t ∈ [24, 27] := by simpa using Array.mem_of_getElem? ht
        have hall : ([24, 27].all fun u => !Tryd.prog.wantsStandIn u) = true := by kernel_rfl
        exact (show Tryd.prog.wantsStandIn t = false by simpa using List.all_eq_true.1 hall t hm)⟩)
    (by kernel_rfl)
#print axioms treeMays_card
end Go.Proofs.YteikpeaakmbihaaDoor
