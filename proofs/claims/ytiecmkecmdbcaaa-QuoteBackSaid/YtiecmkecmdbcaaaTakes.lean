/- For any text the law QuoteTakes returns true: what is read of its first 1500 bytes as a writing, from the beginning and whole, is what the document says, or refused with its error; the argument reads as before.
   Conditions: a string is no longer than the form's own reach; nothing else. -/
import Derived.Test.YtiecmkecmdbcaaaRTake
import Derived.SizedLaws
import Derived.ChangeMaps5
namespace Go.Proofs.Ytiecmkecmdbcaaa
open Go.ChangeShapes Go.WideShapes Go.ChangeAt Go.RowKit Go.ChangeMaps
/-- What a call of three results returns, and of two. -/
def Three (B : Nat) (f : FuncId) (t T : ByteArray) (n : Nat) (x : Int) : Prop := ∀ w, B ≤ w.heap.size → Calls Try.prog f #[.string t] w fun e w' => e = .returned (.tuple #[.string T, .int .i64 (n : Int), .int .i64 x]) ∧ Below B w w'
def Two (B : Nat) (f : FuncId) (t T : ByteArray) (x : Int) : Prop := ∀ w, B ≤ w.heap.size → Calls Try.prog f #[.string t] w fun e w' => e = .returned (.tuple #[.string T, .int .i64 x]) ∧ Below B w w'
section
variable {B : Nat} (s t T : ByteArray) (n : Nat) (x : Int) (HT : Hid (Three B 10 t T n x)) (HR : Hid (Three B 11 t T n x)) (w : World) (hB : B ≤ w.heap.size)
include HT HR hB
set_option maxHeartbeats 1000000 in
theorem takes_more (h1 : (x == 0) = true) (h2 : ((n : Int) != (t.size : Int)) = true) (HP : Hid (Two B 12 t ⟨#[]⟩ 5)) (hs : t.size ≤ 1500) : Calls Try.prog 4 #[.string t] w fun e w' => e = .returned (.bool true) ∧ Below B w w' := by
  go_enter Try.func4, Try.ntmps4
  go_wp2_with (first
    | (go_at_call 10; refine (HT.out _ hB).mono ?_; rintro e w1 ⟨rfl, hb1⟩; have z1 : B ≤ _ := Nat.le_trans hB hb1.size)
    | (go_at_call 11; refine (HR.out _ z1).mono ?_; rintro e w2 ⟨rfl, hb2⟩; have z2 := Nat.le_trans z1 hb2.size)
    | (go_at_call 12; refine (HP.out _ z2).mono ?_; rintro e w3 ⟨rfl, hb3⟩; have z3 := Nat.le_trans z2 hb3.size)
    | (go_at_call 9; refine (works_any _ z3).mono ?_; rintro e w4 ⟨rfl, hb4⟩))
  go_ret
  exact ⟨rfl, ((hb1.trans hb2).trans hb3).trans hb4⟩
set_option maxHeartbeats 1000000 in
theorem takes_more_long (h1 : (x == 0) = true) (h2 : ((n : Int) != (t.size : Int)) = true) (HP : Hid (Two B 12 t ⟨#[]⟩ 5)) (hs : 1500 < s.size) (hx : s.extract 0 1500 = t) : Calls Try.prog 4 #[.string s] w fun e w' => e = .returned (.bool true) ∧ Below B w w' := by
  go_enter Try.func4, Try.ntmps4
  go_wp2_with (first
    | (go_at_call 10; refine (HT.out _ hB).mono ?_; rintro e w1 ⟨rfl, hb1⟩; have z1 : B ≤ _ := Nat.le_trans hB hb1.size)
    | (go_at_call 11; refine (HR.out _ z1).mono ?_; rintro e w2 ⟨rfl, hb2⟩; have z2 := Nat.le_trans z1 hb2.size)
    | (go_at_call 12; refine (HP.out _ z2).mono ?_; rintro e w3 ⟨rfl, hb3⟩; have z3 := Nat.le_trans z2 hb3.size)
    | (go_at_call 9; refine (works_any _ z3).mono ?_; rintro e w4 ⟨rfl, hb4⟩))
  go_ret
  exact ⟨rfl, ((hb1.trans hb2).trans hb3).trans hb4⟩
set_option maxHeartbeats 1000000 in
theorem takes_whole (h1 : (x == 0) = true) (h2 : ((n : Int) != (t.size : Int)) = false) (HP : Hid (Two B 12 t T x)) (hs : t.size ≤ 1500) : Calls Try.prog 4 #[.string t] w fun e w' => e = .returned (.bool true) ∧ Below B w w' := by
  go_enter Try.func4, Try.ntmps4
  go_wp2_with (first
    | (go_at_call 10; refine (HT.out _ hB).mono ?_; rintro e w1 ⟨rfl, hb1⟩; have z1 : B ≤ _ := Nat.le_trans hB hb1.size)
    | (go_at_call 11; refine (HR.out _ z1).mono ?_; rintro e w2 ⟨rfl, hb2⟩; have z2 := Nat.le_trans z1 hb2.size)
    | (go_at_call 12; refine (HP.out _ z2).mono ?_; rintro e w3 ⟨rfl, hb3⟩; have z3 := Nat.le_trans z2 hb3.size)
    | (go_at_call 9; refine (works_any _ z3).mono ?_; rintro e w4 ⟨rfl, hb4⟩))
  go_ret
  exact ⟨rfl, ((hb1.trans hb2).trans hb3).trans hb4⟩
set_option maxHeartbeats 1000000 in
theorem takes_whole_long (h1 : (x == 0) = true) (h2 : ((n : Int) != (t.size : Int)) = false) (HP : Hid (Two B 12 t T x)) (hs : 1500 < s.size) (hx : s.extract 0 1500 = t) : Calls Try.prog 4 #[.string s] w fun e w' => e = .returned (.bool true) ∧ Below B w w' := by
  go_enter Try.func4, Try.ntmps4
  go_wp2_with (first
    | (go_at_call 10; refine (HT.out _ hB).mono ?_; rintro e w1 ⟨rfl, hb1⟩; have z1 : B ≤ _ := Nat.le_trans hB hb1.size)
    | (go_at_call 11; refine (HR.out _ z1).mono ?_; rintro e w2 ⟨rfl, hb2⟩; have z2 := Nat.le_trans z1 hb2.size)
    | (go_at_call 12; refine (HP.out _ z2).mono ?_; rintro e w3 ⟨rfl, hb3⟩; have z3 := Nat.le_trans z2 hb3.size)
    | (go_at_call 9; refine (works_any _ z3).mono ?_; rintro e w4 ⟨rfl, hb4⟩))
  go_ret
  exact ⟨rfl, ((hb1.trans hb2).trans hb3).trans hb4⟩
set_option maxHeartbeats 1000000 in
theorem takes_err (h1 : (x == 0) = false) (HP : Hid (Two B 12 t T x)) (hs : t.size ≤ 1500) : Calls Try.prog 4 #[.string t] w fun e w' => e = .returned (.bool true) ∧ Below B w w' := by
  go_enter Try.func4, Try.ntmps4
  go_wp2_with (first
    | (go_at_call 10; refine (HT.out _ hB).mono ?_; rintro e w1 ⟨rfl, hb1⟩; have z1 : B ≤ _ := Nat.le_trans hB hb1.size)
    | (go_at_call 11; refine (HR.out _ z1).mono ?_; rintro e w2 ⟨rfl, hb2⟩; have z2 := Nat.le_trans z1 hb2.size)
    | (go_at_call 12; refine (HP.out _ z2).mono ?_; rintro e w3 ⟨rfl, hb3⟩; have z3 := Nat.le_trans z2 hb3.size)
    | (go_at_call 9; refine (works_any _ z3).mono ?_; rintro e w4 ⟨rfl, hb4⟩))
  go_ret
  exact ⟨rfl, ((hb1.trans hb2).trans hb3).trans hb4⟩
set_option maxHeartbeats 1000000 in
theorem takes_err_long (h1 : (x == 0) = false) (HP : Hid (Two B 12 t T x)) (hs : 1500 < s.size) (hx : s.extract 0 1500 = t) : Calls Try.prog 4 #[.string s] w fun e w' => e = .returned (.bool true) ∧ Below B w w' := by
  go_enter Try.func4, Try.ntmps4
  go_wp2_with (first
    | (go_at_call 10; refine (HT.out _ hB).mono ?_; rintro e w1 ⟨rfl, hb1⟩; have z1 : B ≤ _ := Nat.le_trans hB hb1.size)
    | (go_at_call 11; refine (HR.out _ z1).mono ?_; rintro e w2 ⟨rfl, hb2⟩; have z2 := Nat.le_trans z1 hb2.size)
    | (go_at_call 12; refine (HP.out _ z2).mono ?_; rintro e w3 ⟨rfl, hb3⟩; have z3 := Nat.le_trans z2 hb3.size)
    | (go_at_call 9; refine (works_any _ z3).mono ?_; rintro e w4 ⟨rfl, hb4⟩))
  go_ret
  exact ⟨rfl, ((hb1.trans hb2).trans hb3).trans hb4⟩
end
theorem tE_text {o : Option (List UInt8 × Nat)} (h : tE o ≠ 0) : tT o = [] := by
  rcases o with _ | ⟨t, n⟩
  · rfl
  · by_cases hl : 200 < t.length
    · simp [tT, hl]
    · exact absurd (by simp [tE, hl]) h
theorem tN_le (l : List UInt8) : tN (tq l) ≤ l.length := by
  have h : ∀ o : Option (List UInt8 × Nat), (∀ t n, o = some (t, n) → n ≤ l.length) → tN o ≤ l.length := by
    intro o ho
    rcases o with _ | ⟨t, n⟩
    · exact Nat.zero_le _
    · by_cases hl : 200 < t.length
      · simp [tN, hl]
      · simp only [tN, if_neg hl]; exact ho t n rfl
  refine h _ fun t n ht => ?_
  rcases l with _ | ⟨c, r⟩
  · simp [tq] at ht
  · simp only [tq] at ht
    split at ht
    · have := (tk_len _ _ _ _ _ _ ht).2
      simp only [List.length_drop, List.length_cons] at this ⊢; omega
    · cases ht
theorem takes_walk (s : ByteArray) (hs : s.size ≤ 140737488351232) (W : World) : Calls Try.prog 4 #[.string s] W fun e W' => e = .returned (.bool true) ∧ Below W.heap.size W W' := by
  obtain ⟨t, ht, hst⟩ : ∃ t : ByteArray, t.size ≤ 1500 ∧ ((s = t) ∨ (1500 < s.size ∧ s.extract 0 1500 = t)) := by
    by_cases h : s.size ≤ 1500
    · exact ⟨s, h, .inl rfl⟩
    · exact ⟨s.extract 0 1500, by rw [ByteArray.size_extract]; omega, .inr ⟨by omega, rfl⟩⟩
  have HT : Hid (Three W.heap.size 10 t ⟨(tT (tq t.data.toList)).toArray⟩ (tN (tq t.data.toList)) (tE (tq t.data.toList))) := Lib.hid fun w hB => take_any t (by omega) w hB
  have HR : Hid (Three W.heap.size 11 t ⟨(tT (tq t.data.toList)).toArray⟩ (tN (tq t.data.toList)) (tE (tq t.data.toList))) := Lib.hid fun w hB => rtake_any t (by omega) w hB
  have HP : Two W.heap.size 12 t ⟨(pT t.data.toList).toArray⟩ (pE t.data.toList) := fun w hB => parse_any t (by omega) w hB
  have hl := size_len t
  have hle := tN_le t.data.toList
  unfold pT pE at HP
  by_cases hx : tE (tq t.data.toList) = 0
  · have h1 : (tE (tq t.data.toList) == 0) = true := by simp [hx]
    by_cases hn : tN (tq t.data.toList) = t.size
    · have h2 : ((tN (tq t.data.toList) : Int) != (t.size : Int)) = false := by simp [hn]
      rw [if_pos ⟨hx, by omega⟩, if_pos hx, if_neg (by omega), ← hx] at HP
      rcases hst with rfl | ⟨h15, hst⟩
      · exact takes_whole _ _ _ _ HT HR W (Nat.le_refl _) h1 h2 (Lib.hid HP) ht
      · exact takes_whole_long _ _ _ _ _ HT HR W (Nat.le_refl _) h1 h2 (Lib.hid HP) h15 hst
    · have h2 : ((tN (tq t.data.toList) : Int) != (t.size : Int)) = true := by rw [bne_iff_ne]; omega
      rw [if_neg (fun h => h.2 (by omega)), if_pos hx, if_pos (by omega)] at HP
      rcases hst with rfl | ⟨h15, hst⟩
      · exact takes_more _ _ _ _ HT HR W (Nat.le_refl _) h1 h2 (Lib.hid HP) ht
      · exact takes_more_long _ _ _ _ _ HT HR W (Nat.le_refl _) h1 h2 (Lib.hid HP) h15 hst
  · have h1 : (tE (tq t.data.toList) == 0) = false := by simp [hx]
    rw [if_neg (fun h => hx h.1), if_neg hx] at HP
    have HP' : Hid (Two W.heap.size 12 t ⟨(tT (tq t.data.toList)).toArray⟩ (tE (tq t.data.toList))) := by rw [tE_text hx]; exact HP
    rcases hst with rfl | ⟨h15, hst⟩
    · exact takes_err _ _ _ _ HT HR W (Nat.le_refl _) h1 HP' ht
    · exact takes_err_long _ _ _ _ _ HT HR W (Nat.le_refl _) h1 HP' h15 hst
set_option maxRecDepth 100000 in
theorem quoteTakes_lifted (os : Os) (started : os.Started) (H : Type) (enc : TypeId × Value → H) :
    ReturnsInHanded {} Try.checked os 4 .any (Rows.quoteTakesSpec.pre6 enc Try.prog Try.f4 Rows.quoteTakesRow.domain false) (Rows.quoteTakesSpec.post enc Try.prog Try.f4 false true false false) := by
  refine returnsInHanded_of_change_sized (C := Try.checked) own started (by kernel_rfl) Try.func4
    (ChangeSpec.witness6 (enc := enc) (C := Try.checked) false ⟨#[], #[.string ⟨#[]⟩], []⟩ 8 (by kernel_rfl) (by kernel_rfl) (by kernel_rfl) (by kernel_rfl)) ?_
  intro W base args ds gs before hval0 hW _ hsz _
  have hval : ∀ (j : Nat) t v, Try.f4.params[j]? = some t → args[j]? = some v → Value.okWide Try.prog W .any base t v := hval0
  have hW' := hW
  obtain ⟨p, q, hA0, hV, rfl, hfz, hnd⟩ := hW
  have hA : DataW.TrodAll enc Try.prog W 0 (fun _ => true) true Try.f4.params.toList args.toList ds p := hA0
  rw [Try.params4] at hA hval
  obtain ⟨v0, vs0, d0, ds0, p0, q0, hargs, rfl, rfl, h0, r0⟩ := trodAll_cons hA
  obtain ⟨rfl, rfl, rfl⟩ := trodAll_nil r0
  obtain rfl : args = #[v0] := by cases args; simp_all
  obtain ⟨rfl, rfl⟩ := trodVars_none hV
  obtain ⟨a0, rfl, rfl, rfl, w0⟩ := open_string Try.underlying9 (hval 0 9 v0 rfl rfl) h0
  clear hA0 hval0
  simp only [List.append_nil] at hW'
  have y0 : a0.size ≤ 140737488351232 := by
    have x1 := sized_string hsz (j := 0) (t := 9) rfl rfl
    have x2 : a0.data.toList.length = a0.size := size_len a0
    have x3 : reachBytes = 140737488351232 := rfl
    omega
  refine (takes_walk a0 y0 W).mono fun e W' ⟨he, hg⟩ => ?_
  subst he
  refine ⟨_, rfl, _, _, _, [], [], [], hW', (trodAll_cons_mk (shut_bool Try.underlying4 true) trodAll_mk0), (trodAll_cons_mk (shut_string Try.underlying9 w0) trodAll_mk0), rfl, hg.frame _, fun h => by cases h⟩
theorem quoteTakes_holds : Rows.QuoteTakesSaid :=
  OpenClaim.holds_of_wide 4 Try.f4 rfl rfl rfl rfl rfl rfl rfl ⟨rfl, rfl, rfl, rfl, rfl⟩ rfl rfl rfl rfl rfl (by kernel_rfl) Try.func4 (by kernel_rfl)
    (of_decide_eq_true (by kernel_rfl)) (by unfold Func.isWrapper; first | (rw [if_pos (by decide +kernel)]; kernel_rfl) | (rw [if_neg (by decide +kernel)]; exact ⟨rfl, rfl⟩))
    (fun os started H enc _ => quoteTakes_lifted os started H enc)
#print axioms quoteTakes_holds
end Go.Proofs.Ytiecmkecmdbcaaa
