/- For any two whole numbers of 64 bits the law WrapBack returns true: what was added is taken off, the quotient times the divisor and what is left are the number, what was printed is read; and each argument reads as before.
   Conditions: the library's three listed tables lie as the program's text lays them (the card ties them); nothing else. -/
import Derived.Test.YtpiopdpebjkphaaDoorParseAny
import Derived.Test.YtpiopdpebjkphaaDoorCards
import Derived.Test.YtpiopdpebjkphaaDoorTie
import Derived.Test.YtpiopdpebjkphaaDoorBounds
namespace Go.Proofs.YtpiopdpebjkphaaDoor
open Go.ChangeShapes Go.WideShapes Go.ChangeAt Go.RowKit

set_option maxHeartbeats 1000000 in
theorem back_zero {B : Nat} (a : Int) (ha0 : -9223372036854775808 ≤ a) (ha1 : a ≤ 9223372036854775807)
    (HP : Hid (∀ w, Pow B w → B ≤ w.heap.size → Calls Tryd.prog 14 #[.string ⟨(wtext a).toArray⟩] w fun e w' => e = .returned (.tuple #[.int .i64 a, .int .i64 0]) ∧ Below B w w'))
    (HS : Hid (∀ w, Calls Tryd.prog 10 #[.int .i64 (wrap64 a), .int .i64 0] w fun e w' => e = .returned (.int .i64 a) ∧ w = w')) (w : World) (hp : Pow B w) (hB : B ≤ w.heap.size) :
    Calls Tryd.prog 6 #[.int .i64 a, .int .i64 0] w fun e w' => e = .returned (.bool true) ∧ Below B w w' := by
  go_enter Tryd.func6, Tryd.ntmps6
  go_wp2_with (first
    | (go_at_call 12; refine (works_any _ hp hB).mono ?_; rintro e w1 ⟨rfl, hb1⟩)
    | (go_at_call 16; refine (print_any a ha0 ha1 _ (hp.on hb1) (by have := hb1.size; omega)).mono ?_; rintro e w2 ⟨rfl, hb2⟩)
    | (go_at_call 14; refine (HP.out _ (hp.on (hb1.trans hb2)) (by have := hb1.size; have := hb2.size; omega)).mono ?_; rintro e w3 ⟨rfl, hb3⟩)
    | (go_at_call 9; first | ((with_reducible refine (add_any a 0 _).mono ?_); rintro e w' ⟨rfl, rfl⟩))
    | (go_at_call 10; first | ((with_reducible refine (HS.out _).mono ?_); rintro e w' ⟨rfl, rfl⟩))
    | (go_at_call 8; refine (div_zero _ _).mono ?_; rintro e w' ⟨rfl, rfl⟩))
  go_ret
  exact ⟨rfl, (hb1.trans hb2).trans hb3⟩
set_option maxHeartbeats 1000000 in
theorem back_none {B : Nat} (a b : Int) (ha0 : -9223372036854775808 ≤ a) (ha1 : a ≤ 9223372036854775807)
    (HP : Hid (∀ w, Pow B w → B ≤ w.heap.size → Calls Tryd.prog 14 #[.string ⟨(wtext a).toArray⟩] w fun e w' => e = .returned (.tuple #[.int .i64 a, .int .i64 0]) ∧ Below B w w'))
    (HS : Hid (∀ w, Calls Tryd.prog 10 #[.int .i64 (wrap64 (a + b)), .int .i64 b] w fun e w' => e = .returned (.int .i64 a) ∧ w = w'))
    (q m : Int) (HD : Hid (∀ w, Calls Tryd.prog 8 #[.int .i64 a, .int .i64 b] w fun e w' => e = .returned (.tuple #[.int .i64 q, .int .i64 0]) ∧ w = w'))
    (HM : Hid (∀ w, Calls Tryd.prog 11 #[.int .i64 q, .int .i64 b] w fun e w' => e = .returned (.int .i64 m) ∧ w = w'))
    (HR : Hid (∀ w, Calls Tryd.prog 10 #[.int .i64 a, .int .i64 m] w fun e w' => e = .returned (.int .i64 0) ∧ w = w'))
    (HA : Hid (∀ w, Calls Tryd.prog 9 #[.int .i64 m, .int .i64 0] w fun e w' => e = .returned (.int .i64 a) ∧ w = w')) (w : World) (hp : Pow B w) (hB : B ≤ w.heap.size) :
    Calls Tryd.prog 6 #[.int .i64 a, .int .i64 b] w fun e w' => e = .returned (.bool true) ∧ Below B w w' := by
  go_enter Tryd.func6, Tryd.ntmps6
  go_wp2_with (first
    | (go_at_call 12; refine (works_any _ hp hB).mono ?_; rintro e w1 ⟨rfl, hb1⟩)
    | (go_at_call 16; refine (print_any a ha0 ha1 _ (hp.on hb1) (by have := hb1.size; omega)).mono ?_; rintro e w2 ⟨rfl, hb2⟩)
    | (go_at_call 14; refine (HP.out _ (hp.on (hb1.trans hb2)) (by have := hb1.size; have := hb2.size; omega)).mono ?_; rintro e w3 ⟨rfl, hb3⟩)
    | (go_at_call 9; first | ((with_reducible refine (add_any a b _).mono ?_); rintro e w' ⟨rfl, rfl⟩) | ((with_reducible refine (HA.out _).mono ?_); rintro e w' ⟨rfl, rfl⟩))
    | (go_at_call 10; first | ((with_reducible refine (HS.out _).mono ?_); rintro e w' ⟨rfl, rfl⟩) | ((with_reducible refine (HR.out _).mono ?_); rintro e w' ⟨rfl, rfl⟩))
    | (go_at_call 11; refine (HM.out _).mono ?_; rintro e w' ⟨rfl, rfl⟩)
    | (go_at_call 8; refine (HD.out _).mono ?_; rintro e w' ⟨rfl, rfl⟩))
  all_goals
    go_ret
    exact ⟨rfl, (hb1.trans hb2).trans hb3⟩
set_option maxHeartbeats 1000000 in
theorem back_neg {B : Nat} (a b : Int) (ha0 : -9223372036854775808 ≤ a) (ha1 : a ≤ 9223372036854775807)
    (HP : Hid (∀ w, Pow B w → B ≤ w.heap.size → Calls Tryd.prog 14 #[.string ⟨(wtext a).toArray⟩] w fun e w' => e = .returned (.tuple #[.int .i64 a, .int .i64 0]) ∧ Below B w w'))
    (HS : Hid (∀ w, Calls Tryd.prog 10 #[.int .i64 (wrap64 (a + b)), .int .i64 b] w fun e w' => e = .returned (.int .i64 a) ∧ w = w'))
    (q m r : Int) (HD : Hid (∀ w, Calls Tryd.prog 8 #[.int .i64 a, .int .i64 b] w fun e w' => e = .returned (.tuple #[.int .i64 q, .int .i64 0]) ∧ w = w'))
    (HM : Hid (∀ w, Calls Tryd.prog 11 #[.int .i64 q, .int .i64 b] w fun e w' => e = .returned (.int .i64 m) ∧ w = w'))
    (HR : Hid (∀ w, Calls Tryd.prog 10 #[.int .i64 a, .int .i64 m] w fun e w' => e = .returned (.int .i64 r) ∧ w = w'))
    (HA : Hid (∀ w, Calls Tryd.prog 9 #[.int .i64 m, .int .i64 r] w fun e w' => e = .returned (.int .i64 a) ∧ w = w')) (h1 : (b != -1) = true) (hr : (r == 0) = false) (ha : a < 0) (hr2 : r < 0) (w : World) (hp : Pow B w) (hB : B ≤ w.heap.size) :
    Calls Tryd.prog 6 #[.int .i64 a, .int .i64 b] w fun e w' => e = .returned (.bool true) ∧ Below B w w' := by
  go_enter Tryd.func6, Tryd.ntmps6
  go_wp2_with (first
    | (go_at_call 12; refine (works_any _ hp hB).mono ?_; rintro e w1 ⟨rfl, hb1⟩)
    | (go_at_call 16; refine (print_any a ha0 ha1 _ (hp.on hb1) (by have := hb1.size; omega)).mono ?_; rintro e w2 ⟨rfl, hb2⟩)
    | (go_at_call 14; refine (HP.out _ (hp.on (hb1.trans hb2)) (by have := hb1.size; have := hb2.size; omega)).mono ?_; rintro e w3 ⟨rfl, hb3⟩)
    | (go_at_call 9; first | ((with_reducible refine (add_any a b _).mono ?_); rintro e w' ⟨rfl, rfl⟩) | ((with_reducible refine (HA.out _).mono ?_); rintro e w' ⟨rfl, rfl⟩))
    | (go_at_call 10; first | ((with_reducible refine (HS.out _).mono ?_); rintro e w' ⟨rfl, rfl⟩) | ((with_reducible refine (HR.out _).mono ?_); rintro e w' ⟨rfl, rfl⟩))
    | (go_at_call 11; refine (HM.out _).mono ?_; rintro e w' ⟨rfl, rfl⟩)
    | (go_at_call 8; refine (HD.out _).mono ?_; rintro e w' ⟨rfl, rfl⟩))
  go_ret
  exact ⟨rfl, (hb1.trans hb2).trans hb3⟩
set_option maxHeartbeats 1000000 in
theorem back_pos {B : Nat} (a b : Int) (ha0 : -9223372036854775808 ≤ a) (ha1 : a ≤ 9223372036854775807)
    (HP : Hid (∀ w, Pow B w → B ≤ w.heap.size → Calls Tryd.prog 14 #[.string ⟨(wtext a).toArray⟩] w fun e w' => e = .returned (.tuple #[.int .i64 a, .int .i64 0]) ∧ Below B w w'))
    (HS : Hid (∀ w, Calls Tryd.prog 10 #[.int .i64 (wrap64 (a + b)), .int .i64 b] w fun e w' => e = .returned (.int .i64 a) ∧ w = w'))
    (q m r : Int) (HD : Hid (∀ w, Calls Tryd.prog 8 #[.int .i64 a, .int .i64 b] w fun e w' => e = .returned (.tuple #[.int .i64 q, .int .i64 0]) ∧ w = w'))
    (HM : Hid (∀ w, Calls Tryd.prog 11 #[.int .i64 q, .int .i64 b] w fun e w' => e = .returned (.int .i64 m) ∧ w = w'))
    (HR : Hid (∀ w, Calls Tryd.prog 10 #[.int .i64 a, .int .i64 m] w fun e w' => e = .returned (.int .i64 r) ∧ w = w'))
    (HA : Hid (∀ w, Calls Tryd.prog 9 #[.int .i64 m, .int .i64 r] w fun e w' => e = .returned (.int .i64 a) ∧ w = w')) (h1 : (b != -1) = true) (hr : (r == 0) = false) (ha : ¬ a < 0) (hr2 : ¬ r < 0) (w : World) (hp : Pow B w) (hB : B ≤ w.heap.size) :
    Calls Tryd.prog 6 #[.int .i64 a, .int .i64 b] w fun e w' => e = .returned (.bool true) ∧ Below B w w' := by
  go_enter Tryd.func6, Tryd.ntmps6
  go_wp2_with (first
    | (go_at_call 12; refine (works_any _ hp hB).mono ?_; rintro e w1 ⟨rfl, hb1⟩)
    | (go_at_call 16; refine (print_any a ha0 ha1 _ (hp.on hb1) (by have := hb1.size; omega)).mono ?_; rintro e w2 ⟨rfl, hb2⟩)
    | (go_at_call 14; refine (HP.out _ (hp.on (hb1.trans hb2)) (by have := hb1.size; have := hb2.size; omega)).mono ?_; rintro e w3 ⟨rfl, hb3⟩)
    | (go_at_call 9; first | ((with_reducible refine (add_any a b _).mono ?_); rintro e w' ⟨rfl, rfl⟩) | ((with_reducible refine (HA.out _).mono ?_); rintro e w' ⟨rfl, rfl⟩))
    | (go_at_call 10; first | ((with_reducible refine (HS.out _).mono ?_); rintro e w' ⟨rfl, rfl⟩) | ((with_reducible refine (HR.out _).mono ?_); rintro e w' ⟨rfl, rfl⟩))
    | (go_at_call 11; refine (HM.out _).mono ?_; rintro e w' ⟨rfl, rfl⟩)
    | (go_at_call 8; refine (HD.out _).mono ?_; rintro e w' ⟨rfl, rfl⟩))
  go_ret
  exact ⟨rfl, (hb1.trans hb2).trans hb3⟩
theorem off_is (a b : Int) (h : InR a) : wrap64 (wrap64 (a + b) - b) = a := by unfold InR at h; simp only [wrap64]; omega
theorem mul_wrap (x b : Int) : wrap64 (wrap64 x * b) = wrap64 (x * b) := by
  have h : (wrap64 x * b) % 18446744073709551616 = (x * b) % 18446744073709551616 := by
    rw [Int.mul_emod, Int.mul_emod x b]
    have : wrap64 x % 18446744073709551616 = x % 18446744073709551616 := by simp only [wrap64]; omega
    rw [this]
  simp only [wrap64] at h ⊢
  omega
theorem left_is (a b : Int) (h : InR a) (hb : InR b) (hz : b ≠ 0) : wrap64 (a - wrap64 (wrap64 (a.tdiv b) * b)) = a.tmod b := by
  rw [mul_wrap]
  have e := Int.tmod_add_mul_tdiv a b
  have e2 : b * a.tdiv b = a.tdiv b * b := Int.mul_comm _ _
  have hr : InR (a.tmod b) := by
    unfold InR at *
    have hlt := Int.emod_lt a hz
    have hlt2 := Int.emod_lt (-a) hz
    rcases Int.lt_or_le a 0 with h0 | h0
    · have h1 : a.tmod b = -((-a).tmod b) := by rw [Int.neg_tmod, Int.neg_neg]
      have h2 := Int.tmod_nonneg b (show 0 ≤ -a by omega)
      rw [Int.tmod_eq_emod_of_nonneg (show 0 ≤ -a by omega)] at h1 h2
      omega
    · have h2 := Int.tmod_nonneg b h0
      rw [Int.tmod_eq_emod_of_nonneg h0] at h2 ⊢
      omega
  have hx : wrap64 (a.tmod b) = a.tmod b := wrap_of hr
  rw [← hx]
  rw [e2] at e
  simp only [wrap64]
  omega
theorem read_is {B : Nat} (a : Int) (h : InR a) (w : World) (hp : Pow B w) (hB : B ≤ w.heap.size) :
    Calls Tryd.prog 14 #[.string ⟨(wtext a).toArray⟩] w fun e w' => e = .returned (.tuple #[.int .i64 a, .int .i64 0]) ∧ Below B w w' := by
  have hl : (wtext a).length ≤ 21 := by
    have := (decDigits_le a.natAbs (by unfold InR at h; omega)).2
    unfold wtext
    split
    · rw [List.length_cons]; omega
    · omega
  refine (parse_any ⟨(wtext a).toArray⟩ (by show (wtext a).toArray.size ≤ _; rw [List.size_toArray]; omega) w hp hB).mono fun e w' hr => ?_
  obtain ⟨rfl, hb⟩ := hr
  exact ⟨by rw [show (⟨(wtext a).toArray⟩ : ByteArray).data.toList = wtext a by simp, (pv_yes h).1, (pv_yes h).2], hb⟩
theorem back_walk (a b : Int) (ha : (Lit.int .i64 a).wf = true) (hb : (Lit.int .i64 b).wf = true) (W : World) (hp : Pow W.heap.size W) :
    Calls Tryd.prog 6 #[.int .i64 a, .int .i64 b] W fun e w' => e = .returned (.bool true) ∧ Below W.heap.size W w' := by
  have hA : InR a := i64_bounds ha
  have hB : InR b := i64_bounds hb
  obtain ⟨a0, a1⟩ := i64_bounds ha
  have hS : ∀ w, Calls Tryd.prog 10 #[.int .i64 (wrap64 (a + b)), .int .i64 b] w fun e w' => e = .returned (.int .i64 a) ∧ w = w' := fun w => by
    have := sub_any (wrap64 (a + b)) b w
    rwa [off_is a b hA] at this
  by_cases hz : b = 0
  · subst hz
    rw [Int.add_zero] at hS
    exact back_zero a a0 a1 (Lib.hid fun w => read_is a hA w) (Lib.hid hS) W hp (Nat.le_refl _)
  · have hD := div_any a b (by simpa using hz) hz
    have hM := mul_any (wrap64 (a.tdiv b)) b
    have hR : ∀ w, Calls Tryd.prog 10 #[.int .i64 a, .int .i64 (wrap64 (wrap64 (a.tdiv b) * b))] w fun e w' => e = .returned (.int .i64 (a.tmod b)) ∧ w = w' := fun w => by
      have := sub_any a (wrap64 (wrap64 (a.tdiv b) * b)) w
      rwa [left_is a b hA hB hz] at this
    have hAd : ∀ w, Calls Tryd.prog 9 #[.int .i64 (wrap64 (wrap64 (a.tdiv b) * b)), .int .i64 (a.tmod b)] w fun e w' => e = .returned (.int .i64 a) ∧ w = w' := fun w => by
      have h := add_any (wrap64 (wrap64 (a.tdiv b) * b)) (a.tmod b) w
      have e := Int.tmod_add_mul_tdiv a b
      have e2 : b * a.tdiv b = a.tdiv b * b := Int.mul_comm _ _
      have : wrap64 (wrap64 (wrap64 (a.tdiv b) * b) + a.tmod b) = a := by
        rw [mul_wrap]
        refine Eq.trans ?_ (wrap_of hA)
        rw [e2] at e
        simp only [wrap64]
        omega
      rwa [this] at h
    by_cases hr : a.tmod b = 0
    · rw [hr] at hR hAd
      exact back_none a b a0 a1 (Lib.hid fun w => read_is a hA w) (Lib.hid hS) _ _ (Lib.hid hD) (Lib.hid hM) (Lib.hid hR) (Lib.hid hAd) W hp (Nat.le_refl _)
    · have h1 : b ≠ -1 := by
        intro e
        subst e
        exact hr (by simp [Int.tmod_neg])
      by_cases h0 : a < 0
      · have hn : a.tmod b < 0 := by
          have h1 : a.tmod b = -((-a).tmod b) := by rw [Int.neg_tmod, Int.neg_neg]
          have h2 := Int.tmod_nonneg b (show 0 ≤ -a by omega)
          omega
        exact back_neg a b a0 a1 (Lib.hid fun w => read_is a hA w) (Lib.hid hS) _ _ _ (Lib.hid hD) (Lib.hid hM) (Lib.hid hR) (Lib.hid hAd) (by simpa using h1) (by simpa using hr) h0 hn W hp (Nat.le_refl _)
      · have hn : ¬ a.tmod b < 0 := by
          have h2 := Int.tmod_nonneg b (show 0 ≤ a by omega)
          omega
        exact back_pos a b a0 a1 (Lib.hid fun w => read_is a hA w) (Lib.hid hS) _ _ _ (Lib.hid hD) (Lib.hid hM) (Lib.hid hR) (Lib.hid hAd) (by simpa using h1) (by simpa using hr) h0 hn W hp (Nat.le_refl _)
set_option maxRecDepth 100000 in
theorem wrapBack_lifted (os : Os) (started : os.Started) (H : Type) (enc : TypeId × Value → H) :
    ReturnsInHanded {} Tryd.checked os 6 .any (fun w args => (Rows.wrapBackSpec.pre enc Tryd.prog Tryd.f6 [] false w args ∧ laidMetH Tryd.prog listed w) ∧ sizedMet enc Tryd.prog Tryd.f6 (OpenSpec.ofChange Rows.wrapBackSpec) false w args)
      (Rows.wrapBackSpec.post enc Tryd.prog Tryd.f6 false true false false) := by
  refine returnsInHanded_of_change_and (C := Tryd.checked) (X := fun w _ => laidMetH Tryd.prog listed w) (fun _ _ _ hh h => h.of_heap hh) own started (by kernel_rfl) Tryd.func6
    (ChangeSpec.witness_shaped (enc := enc) (C := Tryd.checked) (os := os) (X := fun w _ => laidMetH Tryd.prog listed w) false (World.doorLaid Tryd.prog 400 os) #[.int .i64 0, .int .i64 0] 8 rfl (door_shaped os _) (by kernel_rfl) (by kernel_rfl) (by kernel_rfl) (door_met os _)) ?_
  intro W base args ds gs before hval0 hW _ hsz hL _
  have hval : ∀ (j : Nat) t v, Tryd.f6.params[j]? = some t → args[j]? = some v → Value.okWide Tryd.prog W .any base t v := hval0
  have hW' := hW
  obtain ⟨p, q, hA0, hV, rfl, hfz, hnd⟩ := hW
  have hA : DataW.TrodAll enc Tryd.prog W 0 (fun _ => true) true Tryd.f6.params.toList args.toList ds p := hA0
  rw [Tryd.params6] at hA hval
  obtain ⟨v0, vs0, d0, ds0, p0, q0, hargs, rfl, rfl, h0, r0⟩ := trodAll_cons hA
  obtain ⟨v1, vs1, d1, ds1, p1, q1, rfl, rfl, rfl, h1, r1⟩ := trodAll_cons r0
  obtain ⟨rfl, rfl, rfl⟩ := trodAll_nil r1
  obtain rfl : args = #[v0, v1] := by cases args; simp_all
  obtain ⟨rfl, rfl⟩ := trodVars_none hV
  obtain ⟨a0, rfl, rfl, rfl, w0⟩ := open_int Tryd.underlying2 (hval 0 2 v0 rfl rfl) h0
  obtain ⟨a1, rfl, rfl, rfl, w1⟩ := open_int Tryd.underlying2 (hval 1 2 v1 rfl rfl) h1
  clear hA0 hval0
  simp only [List.append_nil] at hW'
  refine (back_walk a0 a1 w0 w1 W (pow_of_laid hL)).mono fun e W' ⟨he, hg⟩ => ?_
  subst he
  refine ⟨_, rfl, _, _, _, [], [], [], hW', (trodAll_cons_mk (shut_bool Tryd.underlying4 true) trodAll_mk0), (trodAll_cons_mk (shut_int Tryd.underlying2 w0) (trodAll_cons_mk (shut_int Tryd.underlying2 w1) trodAll_mk0)), rfl, hg.frame _, fun h => by cases h⟩
theorem wrapBack_holds : Rows.WrapBackSaid :=
  OpenClaim.holds_of_wide 6 Tryd.f6 rfl rfl rfl rfl rfl rfl rfl ⟨rfl, rfl, rfl, rfl, rfl⟩ rfl rfl rfl rfl rfl (by kernel_rfl) Tryd.func6 (by kernel_rfl)
    (of_decide_eq_true (by kernel_rfl)) (by unfold Func.isWrapper; first | (rw [if_pos (by decide +kernel)]; kernel_rfl) | (rw [if_neg (by decide +kernel)]; exact ⟨rfl, rfl⟩))
    (fun os started H enc _ => wrapBack_lifted os started H enc)
theorem wrapBack_card : Rows.WrapBackCardSaid :=
  Claim7.holds_tied_plain_at .later [] [.data, .data, .data] true (true, "07c0da3c569cdcee4a152ce3940b77d5f85a9473db36b85cad3b43d8f664771c") false
    wrapBack_holds (fun _ h => by cases h) (by kernel_rfl) (fun _ h => by cases h) wrapBack_row_tie rfl ⟨rfl, rfl⟩ (by kernel_rfl) rfl
    (fun f fn hf hfn => by
      obtain rfl : f = 6 := Option.some.inj ((show Tryd.prog.funcNamed "syntagma/syntagmalaw01.WrapBack" = some 6 by kernel_rfl).symm.trans hf) |>.symm
      obtain rfl : fn = Tryd.f6 := (Option.some.inj (Tryd.func6.symm.trans hfn)).symm
      exact ⟨by kernel_rfl, fun j t ht => by
        rw [Tryd.params6] at ht
        have hm : t ∈ [2, 2] := by simpa using Array.mem_of_getElem? ht
        have hall : ([2, 2].all fun u => !Tryd.prog.wantsStandIn u) = true := by kernel_rfl
        exact (show Tryd.prog.wantsStandIn t = false by simpa using List.all_eq_true.1 hall t hm)⟩)
    (by kernel_rfl)
#print axioms wrapBack_card
end Go.Proofs.YtpiopdpebjkphaaDoor
