/- For any primitive's number and any two whole numbers of 64 bits the law WrapPrims returns true: what the primitive makes of them is the document's, or refused as the document refuses; and each argument reads as before.
   Conditions: the library's three listed tables lie as the program's text lays them (the card ties them); nothing else. -/
import Derived.Test.YtpiopdpebjkphaaDoorPrint
import Derived.Test.YtpiopdpebjkphaaDoorCards
import Derived.Test.YtpiopdpebjkphaaDoorTie
import Derived.Test.YtpiopdpebjkphaaDoorBounds
namespace Go.Proofs.YtpiopdpebjkphaaDoor
open Go.ChangeShapes Go.WideShapes Go.ChangeAt Go.RowKit

/-- Both calls make the same of the same. -/
def Both (op a b v e : Int) : Prop :=
  (∀ w, Calls Tryd.prog 13 #[.int .i64 op, .int .i64 a, .int .i64 b] w fun x w' => x = .returned (.tuple #[.int .i64 v, .int .i64 e]) ∧ w = w') ∧
  (∀ w, Calls Tryd.prog 7 #[.int .i64 op, .int .i64 a, .int .i64 b] w fun x w' => x = .returned (.tuple #[.int .i64 v, .int .i64 e]) ∧ w = w')
theorem both (op a b : Int) (ha0 : -9223372036854775808 ≤ a) (ha1 : a ≤ 9223372036854775807) (hb0 : -9223372036854775808 ≤ b) (hb1 : b ≤ 9223372036854775807) : ∃ v e, Both op a b v e := by
  by_cases h1 : op = 1
  · subst h1; exact ⟨_, _, prim1 a b, rprim1 a b⟩
  by_cases h2 : op = 2
  · subst h2; exact ⟨_, _, prim2 a b, rprim2 a b⟩
  by_cases h3 : op = 3
  · subst h3; exact ⟨_, _, prim3 a b, rprim3 a b⟩
  by_cases h4 : op = 4
  · subst h4
    by_cases hz : b = 0
    · subst hz; exact ⟨_, _, prim40 a, rprim40 a⟩
    · exact ⟨_, _, prim4 a b (by simpa using hz) hz, rprim4 a b ha0 ha1 hb0 hb1 (by simpa using hz) hz⟩
  by_cases h5 : op = 5
  · subst h5
    by_cases h : a < b
    · exact ⟨_, _, prim5t a b h, rprim5t a b h⟩
    · exact ⟨_, _, prim5f a b h, rprim5f a b h⟩
  by_cases h6 : op = 6
  · subst h6
    by_cases h : a = b
    · exact ⟨_, _, prim6t a b (by simpa using h), rprim6t a b (by simpa using h)⟩
    · exact ⟨_, _, prim6f a b (by simpa using h), rprim6f a b (by simpa using h)⟩
  have g : ∀ k : Int, ¬ op = k → (op == k) = false := fun k h => by simpa using h
  exact ⟨_, _, prim_no op a b (g _ h1) (g _ h2) (g _ h3) (g _ h4) (g _ h5) (g _ h6), rprim_no op a b (g _ h1) (g _ h2) (g _ h3) (g _ h4) (g _ h5) (g _ h6)⟩
theorem prims_any {B : Nat} (op a b v e : Int) (hv : Both op a b v e) (w : World) (hp : Pow B w) (hB : B ≤ w.heap.size) :
    Calls Tryd.prog 4 #[.int .i64 op, .int .i64 a, .int .i64 b] w fun e w' => e = .returned (.bool true) ∧ Below B w w' := by
  have hw := works_any w hp hB
  obtain ⟨h1, h2⟩ := hv
  go_enter Tryd.func4, Tryd.ntmps4
  go_wp2_with (first
    | (go_at_call 13; refine (h1 _).mono ?_; rintro e w' ⟨rfl, rfl⟩)
    | (go_at_call 7; refine (h2 _).mono ?_; rintro e w' ⟨rfl, rfl⟩)
    | (go_at_call 12; refine hw.mono ?_; rintro e w' ⟨rfl, hb⟩))
  go_ret
  exact ⟨rfl, hb⟩
theorem prims_walk (op a b : Int) (_ho : (Lit.int .i64 op).wf = true) (ha : (Lit.int .i64 a).wf = true) (hb : (Lit.int .i64 b).wf = true) (W : World) (hp : Pow W.heap.size W) :
    Calls Tryd.prog 4 #[.int .i64 op, .int .i64 a, .int .i64 b] W fun e w' => e = .returned (.bool true) ∧ Below W.heap.size W w' := by
  obtain ⟨a0, a1⟩ := i64_bounds ha
  obtain ⟨b0, b1⟩ := i64_bounds hb
  obtain ⟨v, e, h⟩ := both op a b a0 a1 b0 b1
  exact prims_any op a b v e h W hp (Nat.le_refl _)
set_option maxRecDepth 100000 in
theorem wrapPrims_lifted (os : Os) (started : os.Started) (H : Type) (enc : TypeId × Value → H) :
    ReturnsInHanded {} Tryd.checked os 4 .any (fun w args => (Rows.wrapPrimsSpec.pre enc Tryd.prog Tryd.f4 [] false w args ∧ laidMetH Tryd.prog listed w) ∧ sizedMet enc Tryd.prog Tryd.f4 (OpenSpec.ofChange Rows.wrapPrimsSpec) false w args)
      (Rows.wrapPrimsSpec.post enc Tryd.prog Tryd.f4 false true false false) := by
  refine returnsInHanded_of_change_and (C := Tryd.checked) (X := fun w _ => laidMetH Tryd.prog listed w) (fun _ _ _ hh h => h.of_heap hh) own started (by kernel_rfl) Tryd.func4
    (ChangeSpec.witness_shaped (enc := enc) (C := Tryd.checked) (os := os) (X := fun w _ => laidMetH Tryd.prog listed w) false (World.doorLaid Tryd.prog 400 os) #[.int .i64 0, .int .i64 0, .int .i64 0] 8 rfl (door_shaped os _) (by kernel_rfl) (by kernel_rfl) (by kernel_rfl) (door_met os _)) ?_
  intro W base args ds gs before hval0 hW _ hsz hL _
  have hval : ∀ (j : Nat) t v, Tryd.f4.params[j]? = some t → args[j]? = some v → Value.okWide Tryd.prog W .any base t v := hval0
  have hW' := hW
  obtain ⟨p, q, hA0, hV, rfl, hfz, hnd⟩ := hW
  have hA : DataW.TrodAll enc Tryd.prog W 0 (fun _ => true) true Tryd.f4.params.toList args.toList ds p := hA0
  rw [Tryd.params4] at hA hval
  obtain ⟨v0, vs0, d0, ds0, p0, q0, hargs, rfl, rfl, h0, r0⟩ := trodAll_cons hA
  obtain ⟨v1, vs1, d1, ds1, p1, q1, rfl, rfl, rfl, h1, r1⟩ := trodAll_cons r0
  obtain ⟨v2, vs2, d2, ds2, p2, q2, rfl, rfl, rfl, h2, r2⟩ := trodAll_cons r1
  obtain ⟨rfl, rfl, rfl⟩ := trodAll_nil r2
  obtain rfl : args = #[v0, v1, v2] := by cases args; simp_all
  obtain ⟨rfl, rfl⟩ := trodVars_none hV
  obtain ⟨a0, rfl, rfl, rfl, w0⟩ := open_int Tryd.underlying3 (hval 0 3 v0 rfl rfl) h0
  obtain ⟨a1, rfl, rfl, rfl, w1⟩ := open_int Tryd.underlying2 (hval 1 2 v1 rfl rfl) h1
  obtain ⟨a2, rfl, rfl, rfl, w2⟩ := open_int Tryd.underlying2 (hval 2 2 v2 rfl rfl) h2
  clear hA0 hval0
  simp only [List.append_nil] at hW'
  refine (prims_walk a0 a1 a2 w0 w1 w2 W (pow_of_laid hL)).mono fun e W' ⟨he, hg⟩ => ?_
  subst he
  refine ⟨_, rfl, _, _, _, [], [], [], hW', (trodAll_cons_mk (shut_bool Tryd.underlying4 true) trodAll_mk0), (trodAll_cons_mk (shut_int Tryd.underlying3 w0) (trodAll_cons_mk (shut_int Tryd.underlying2 w1) (trodAll_cons_mk (shut_int Tryd.underlying2 w2) trodAll_mk0))), rfl, hg.frame _, fun h => by cases h⟩
theorem wrapPrims_holds : Rows.WrapPrimsSaid :=
  OpenClaim.holds_of_wide 4 Tryd.f4 rfl rfl rfl rfl rfl rfl rfl ⟨rfl, rfl, rfl, rfl, rfl⟩ rfl rfl rfl rfl rfl (by kernel_rfl) Tryd.func4 (by kernel_rfl)
    (of_decide_eq_true (by kernel_rfl)) (by unfold Func.isWrapper; first | (rw [if_pos (by decide +kernel)]; kernel_rfl) | (rw [if_neg (by decide +kernel)]; exact ⟨rfl, rfl⟩))
    (fun os started H enc _ => wrapPrims_lifted os started H enc)
theorem wrapPrims_card : Rows.WrapPrimsCardSaid :=
  Claim7.holds_tied_plain_at .later [] [.data, .data, .data] true (true, "07c0da3c569cdcee4a152ce3940b77d5f85a9473db36b85cad3b43d8f664771c") false
    wrapPrims_holds (fun _ h => by cases h) (by kernel_rfl) (fun _ h => by cases h) wrapPrims_row_tie rfl ⟨rfl, rfl⟩ (by kernel_rfl) rfl
    (fun f fn hf hfn => by
      obtain rfl : f = 4 := Option.some.inj ((show Tryd.prog.funcNamed "syntagma/syntagmalaw01.WrapPrims" = some 4 by kernel_rfl).symm.trans hf) |>.symm
      obtain rfl : fn = Tryd.f4 := (Option.some.inj (Tryd.func4.symm.trans hfn)).symm
      exact ⟨by kernel_rfl, fun j t ht => by
        rw [Tryd.params4] at ht
        have hm : t ∈ [3, 2, 2] := by simpa using Array.mem_of_getElem? ht
        have hall : ([3, 2, 2].all fun u => !Tryd.prog.wantsStandIn u) = true := by kernel_rfl
        exact (show Tryd.prog.wantsStandIn t = false by simpa using List.all_eq_true.1 hall t hm)⟩)
    (by kernel_rfl)
#print axioms wrapPrims_card
end Go.Proofs.YtpiopdpebjkphaaDoor
