/- For any two texts the law QuoteBack returns true: the writing of the first one's first 300 bytes, with the second one behind it, is read as what was written, or refused as too long; each argument reads as before.
   Conditions: a string is no longer than the form's own reach; nothing else. -/
import Derived.Test.YtiecmkecmdbcaaaTakes
namespace Go.Proofs.Ytiecmkecmdbcaaa
open Go.ChangeShapes Go.WideShapes Go.ChangeAt Go.RowKit Go.ChangeMaps
def One (B : Nat) (f : FuncId) (t T : ByteArray) : Prop := ∀ w, B ≤ w.heap.size → Calls Try.prog f #[.string t] w fun e w' => e = .returned (.string T) ∧ Below B w w'
section
variable {B : Nat} (s t T m : ByteArray) (HP : Hid (One B 6 t T)) (hT : T.size ≤ 1202) (hm : m.size ≤ 140737488351232) (w : World) (hB : B ≤ w.heap.size)
include HP hT hm hB
set_option maxHeartbeats 1000000 in
theorem back_read (h2 : t.size ≤ 200) (HT : Hid (Three B 10 (T ++ m) t T.size 0))  : Calls Try.prog 5 #[.string t, .string m] w fun e w' => e = .returned (.bool true) ∧ Below B w w' := by
  go_enter Try.func5, Try.ntmps5
  go_wp2_with (first
    | (go_at_call 9; refine (works_any _ hB).mono ?_; rintro e w1 ⟨rfl, hb1⟩; have z1 : B ≤ _ := Nat.le_trans hB hb1.size)
    | (go_at_call 6; refine (HP.out _ z1).mono ?_; rintro e w2 ⟨rfl, hb2⟩; have z2 := Nat.le_trans z1 hb2.size)
    | (go_at_call 10; refine (HT.out _ z2).mono ?_; rintro e w3 ⟨rfl, hb3⟩))
  go_ret
  exact ⟨rfl, (hb1.trans hb2).trans hb3⟩
set_option maxHeartbeats 1000000 in
theorem back_long (h2 : 200 < t.size) (HT : Hid (Three B 10 (T ++ m) ⟨#[]⟩ 0 7)) (hs : t.size ≤ 300) : Calls Try.prog 5 #[.string t, .string m] w fun e w' => e = .returned (.bool true) ∧ Below B w w' := by
  go_enter Try.func5, Try.ntmps5
  go_wp2_with (first
    | (go_at_call 9; refine (works_any _ hB).mono ?_; rintro e w1 ⟨rfl, hb1⟩; have z1 : B ≤ _ := Nat.le_trans hB hb1.size)
    | (go_at_call 6; refine (HP.out _ z1).mono ?_; rintro e w2 ⟨rfl, hb2⟩; have z2 := Nat.le_trans z1 hb2.size)
    | (go_at_call 10; refine (HT.out _ z2).mono ?_; rintro e w3 ⟨rfl, hb3⟩))
  go_ret
  exact ⟨rfl, (hb1.trans hb2).trans hb3⟩
set_option maxHeartbeats 1000000 in
theorem back_cut (h2 : 200 < t.size) (HT : Hid (Three B 10 (T ++ m) ⟨#[]⟩ 0 7)) (hs : 300 < s.size) (hx : s.extract 0 300 = t) : Calls Try.prog 5 #[.string s, .string m] w fun e w' => e = .returned (.bool true) ∧ Below B w w' := by
  go_enter Try.func5, Try.ntmps5
  go_wp2_with (first
    | (go_at_call 9; refine (works_any _ hB).mono ?_; rintro e w1 ⟨rfl, hb1⟩; have z1 : B ≤ _ := Nat.le_trans hB hb1.size)
    | (go_at_call 6; refine (HP.out _ z1).mono ?_; rintro e w2 ⟨rfl, hb2⟩; have z2 := Nat.le_trans z1 hb2.size)
    | (go_at_call 10; refine (HT.out _ z2).mono ?_; rintro e w3 ⟨rfl, hb3⟩))
  go_ret
  exact ⟨rfl, (hb1.trans hb2).trans hb3⟩
end
theorem add_size (a b : ByteArray) : (a ++ b).size = a.size + b.size := by simp [ByteArray.size_append]
theorem back_tq (l : List UInt8) (m : ByteArray) : tq ((⟨(qtext l).toArray⟩ : ByteArray) ++ m).data.toList = some (l, (qtext l).length) := by
  rw [ByteArray.data_append, Array.toList_append]
  exact tq_qtext l m.data.toList
theorem back_walk (s m : ByteArray) (hs : s.size ≤ 140737488351232) (hm : m.size ≤ 140737488351232) (W : World) : Calls Try.prog 5 #[.string s, .string m] W fun e W' => e = .returned (.bool true) ∧ Below W.heap.size W W' := by
  obtain ⟨t, ht, hst⟩ : ∃ t : ByteArray, t.size ≤ 300 ∧ ((s = t) ∨ (t.size = 300 ∧ 300 < s.size ∧ s.extract 0 300 = t)) := by
    by_cases h : s.size ≤ 300
    · exact ⟨s, h, .inl rfl⟩
    · exact ⟨s.extract 0 300, by rw [ByteArray.size_extract]; omega, .inr ⟨by rw [ByteArray.size_extract]; omega, by omega, rfl⟩⟩
  have hl := size_len t
  have hq := qtext_len t.data.toList
  obtain ⟨T, hT⟩ : ∃ T : ByteArray, (⟨(qtext t.data.toList).toArray⟩ : ByteArray) = T := ⟨_, rfl⟩
  have hTs : T.size = (qtext t.data.toList).length := by rw [← hT, str_size]
  have HP : Hid (One W.heap.size 6 t T) := Lib.hid fun w hB => by rw [← hT]; exact print_any t (by omega) w hB
  have HQ : Three W.heap.size 10 (T ++ m) ⟨(tT (some (t.data.toList, T.size))).toArray⟩ (tN (some (t.data.toList, T.size))) (tE (some (t.data.toList, T.size))) := fun w hB => by
    have := take_any (T ++ m) (by rw [add_size]; omega) w hB
    rw [← hT, back_tq, ← hTs] at this
    rw [hT] at this
    exact this
  by_cases h2 : t.size ≤ 200
  · obtain ⟨r1, r2, r3⟩ := good_end (acc := t.data.toList) (n := T.size) (by omega)
    rw [r1, r2, r3, str_of] at HQ
    rcases hst with rfl | ⟨h3, _⟩
    · exact back_read _ _ _ HP (by omega) hm W (Nat.le_refl _) h2 (Lib.hid HQ)
    · omega
  · obtain ⟨r1, r2, r3⟩ := long_end (acc := t.data.toList) (n := T.size) (by omega)
    rw [r1, r2, r3] at HQ
    rcases hst with rfl | ⟨_, h3, hst⟩
    · exact back_long _ _ _ HP (by omega) hm W (Nat.le_refl _) (by omega) (Lib.hid HQ) ht
    · exact back_cut _ _ _ _ HP (by omega) hm W (Nat.le_refl _) (by omega) (Lib.hid HQ) h3 hst
set_option maxRecDepth 100000 in
theorem quoteBack_lifted (os : Os) (started : os.Started) (H : Type) (enc : TypeId × Value → H) :
    ReturnsInHanded {} Try.checked os 5 .any (Rows.quoteBackSpec.pre6 enc Try.prog Try.f5 Rows.quoteBackRow.domain false) (Rows.quoteBackSpec.post enc Try.prog Try.f5 false true false false) := by
  refine returnsInHanded_of_change_sized (C := Try.checked) own started (by kernel_rfl) Try.func5
    (ChangeSpec.witness6 (enc := enc) (C := Try.checked) false ⟨#[], #[.string ⟨#[]⟩, .string ⟨#[]⟩], []⟩ 8 (by kernel_rfl) (by kernel_rfl) (by kernel_rfl) (by kernel_rfl)) ?_
  intro W base args ds gs before hval0 hW _ hsz _
  have hval : ∀ (j : Nat) t v, Try.f5.params[j]? = some t → args[j]? = some v → Value.okWide Try.prog W .any base t v := hval0
  have hW' := hW
  obtain ⟨p, q, hA0, hV, rfl, hfz, hnd⟩ := hW
  have hA : DataW.TrodAll enc Try.prog W 0 (fun _ => true) true Try.f5.params.toList args.toList ds p := hA0
  rw [Try.params5] at hA hval
  obtain ⟨v0, vs0, d0, ds0, p0, q0, hargs, rfl, rfl, h0, r0⟩ := trodAll_cons hA
  obtain ⟨v1, vs1, d1, ds1, p1, q1, rfl, rfl, rfl, h1, r1⟩ := trodAll_cons r0
  obtain ⟨rfl, rfl, rfl⟩ := trodAll_nil r1
  obtain rfl : args = #[v0, v1] := by cases args; simp_all
  obtain ⟨rfl, rfl⟩ := trodVars_none hV
  obtain ⟨a0, rfl, rfl, rfl, w0⟩ := open_string Try.underlying9 (hval 0 9 v0 rfl rfl) h0
  obtain ⟨a1, rfl, rfl, rfl, w1⟩ := open_string Try.underlying9 (hval 1 9 v1 rfl rfl) h1
  clear hA0 hval0
  simp only [List.append_nil] at hW'
  have y0 : a0.size ≤ 140737488351232 := by
    have x1 := sized_string hsz (j := 0) (t := 9) rfl rfl
    have x2 : a0.data.toList.length = a0.size := size_len a0
    have x3 : reachBytes = 140737488351232 := rfl
    omega
  have y1 : a1.size ≤ 140737488351232 := by
    have x1 := sized_string hsz (j := 1) (t := 9) rfl rfl
    have x2 : a1.data.toList.length = a1.size := size_len a1
    have x3 : reachBytes = 140737488351232 := rfl
    omega
  refine (back_walk a0 a1 y0 y1 W).mono fun e W' ⟨he, hg⟩ => ?_
  subst he
  refine ⟨_, rfl, _, _, _, [], [], [], hW', (trodAll_cons_mk (shut_bool Try.underlying4 true) trodAll_mk0), (trodAll_cons_mk (shut_string Try.underlying9 w0) (trodAll_cons_mk (shut_string Try.underlying9 w1) trodAll_mk0)), rfl, hg.frame _, fun h => by cases h⟩
theorem quoteBack_holds : Rows.QuoteBackSaid :=
  OpenClaim.holds_of_wide 5 Try.f5 rfl rfl rfl rfl rfl rfl rfl ⟨rfl, rfl, rfl, rfl, rfl⟩ rfl rfl rfl rfl rfl (by kernel_rfl) Try.func5 (by kernel_rfl)
    (of_decide_eq_true (by kernel_rfl)) (by unfold Func.isWrapper; first | (rw [if_pos (by decide +kernel)]; kernel_rfl) | (rw [if_neg (by decide +kernel)]; exact ⟨rfl, rfl⟩))
    (fun os started H enc _ => quoteBack_lifted os started H enc)
#print axioms quoteBack_holds
end Go.Proofs.Ytiecmkecmdbcaaa
