/- For any text the law QuotePrints returns true: the writing of its first 1500 bytes, and their first MaxCut bytes, are the document's; the argument reads as before.
   Conditions: a string is no longer than the form's own reach; nothing else. -/
import Derived.Test.YtiecmkecmdbcaaaTake
import Derived.Test.YtiecmkecmdbcaaaRPrint
import Derived.Deep.RegionWith
import Derived.SizedLaws
import Derived.ChangeMaps5
namespace Go.Proofs.Ytiecmkecmdbcaaa
open Go.ChangeShapes Go.WideShapes Go.ChangeAt Go.RowKit Go.ChangeMaps
theorem clone_any {B : Nat} (s : ByteArray) (hs : s.size ≤ 10000) (w : World) (hB : B ≤ w.heap.size) : Calls Try.prog 14 #[.string s] w fun e w' => e = .returned (.string s) ∧ Below B w w' := by
  go_enter Try.func14, Try.ntmps14
  go_wp2_with (go_at_call 19; refine (Try.stringslite_Clone s _ (by omega)).mono ?_; rintro e w1 ⟨rfl, hb1⟩)
  go_ret
  exact ⟨rfl, hb1.mono hB⟩
/-- The first bytes, as the walk has them. -/
abbrev cutTo (s : ByteArray) : ByteArray := s.extract 0 (min (s.size : Int) 1000).toNat
theorem cut_any {B : Nat} (s : ByteArray) (hs : s.size ≤ 10000) (w : World) (hB : B ≤ w.heap.size) : Calls Try.prog 8 #[.string s] w fun e w' => e = .returned (.string (cutTo s)) ∧ Below B w w' := by
  have hx : (s.extract 0 (min (s.size : Int) 1000).toNat).size ≤ 10000 := by rw [ByteArray.size_extract]; omega
  go_enter Try.func8, Try.ntmps8
  go_wp2_with (go_at_call 14; refine (clone_any _ hx _ hB).mono ?_; rintro e w1 ⟨rfl, hb1⟩)
  go_ret
  exact ⟨rfl, hb1⟩
section
variable {B : Nat} (s t T : ByteArray)
    (HP : Hid (∀ w, B ≤ w.heap.size → Calls Try.prog 6 #[.string t] w fun x w' => x = .returned (.string T) ∧ Below B w w'))
    (HR : Hid (∀ w, B ≤ w.heap.size → Calls Try.prog 7 #[.string t] w fun x w' => x = .returned (.string T) ∧ Below B w w'))
    (HC : Hid (∀ w, B ≤ w.heap.size → Calls Try.prog 8 #[.string t] w fun x w' => x = .returned (.string (cutTo t)) ∧ Below B w w'))
    (w : World) (hB : B ≤ w.heap.size)
include HP HR HC hB
set_option maxHeartbeats 1000000 in
theorem prints_short (hs : t.size ≤ 1500) : Calls Try.prog 3 #[.string t] w fun e w' => e = .returned (.bool true) ∧ Below B w w' := by
  go_enter Try.func3, Try.ntmps3
  go_wp2_with fail
  go_region_with (first
    | (go_at_call 6; refine (HP.out _ (by exact hB)).mono ?_; rintro e w1 ⟨rfl, hb1⟩; have z1 : B ≤ _ := Nat.le_trans hB hb1.size)
    | (go_at_call 7; refine (HR.out _ (by exact z1)).mono ?_; rintro e w2 ⟨rfl, hb2⟩; have z2 := Nat.le_trans z1 hb2.size)
    | (go_at_call 8; refine (HC.out _ (by exact z2)).mono ?_; rintro e w3 ⟨rfl, hb3⟩; have z3 := Nat.le_trans z2 hb3.size)
    | (go_at_call 9; refine (works_any _ (by exact z3)).mono ?_; rintro e w4 ⟨rfl, hb4⟩))
  all_goals
    go_wp2
    go_ret
    exact ⟨rfl, ((((Below.refl B w).drew.trans hb1).trans hb2).trans hb3).trans hb4⟩
set_option maxHeartbeats 1000000 in
theorem prints_long (hs : 1500 < s.size) (hx : s.extract 0 1500 = t) (ht : t.size ≤ 1500) : Calls Try.prog 3 #[.string s] w fun e w' => e = .returned (.bool true) ∧ Below B w w' := by
  go_enter Try.func3, Try.ntmps3
  go_wp2_with fail
  go_region_with (first
    | (go_at_call 6; refine (HP.out _ (by exact hB)).mono ?_; rintro e w1 ⟨rfl, hb1⟩; have z1 : B ≤ _ := Nat.le_trans hB hb1.size)
    | (go_at_call 7; refine (HR.out _ (by exact z1)).mono ?_; rintro e w2 ⟨rfl, hb2⟩; have z2 := Nat.le_trans z1 hb2.size)
    | (go_at_call 8; refine (HC.out _ (by exact z2)).mono ?_; rintro e w3 ⟨rfl, hb3⟩; have z3 := Nat.le_trans z2 hb3.size)
    | (go_at_call 9; refine (works_any _ (by exact z3)).mono ?_; rintro e w4 ⟨rfl, hb4⟩))
  all_goals
    go_wp2
    go_ret
    exact ⟨rfl, ((((Below.refl B w).drew.trans hb1).trans hb2).trans hb3).trans hb4⟩
end
theorem prints_walk (s : ByteArray) (hs : s.size ≤ 140737488351232) (W : World) : Calls Try.prog 3 #[.string s] W fun e W' => e = .returned (.bool true) ∧ Below W.heap.size W W' := by
  by_cases h : s.size ≤ 1500
  · exact prints_short s _ (Lib.hid fun w hB => print_any s (by omega) w hB) (Lib.hid fun w hB => rprint_any s (by omega) w hB) (Lib.hid fun w hB => cut_any s (by omega) w hB) W (Nat.le_refl _) h
  · obtain ⟨t, hx⟩ : ∃ t, s.extract 0 1500 = t := ⟨_, rfl⟩
    have ht : t.size ≤ 1500 := by rw [← hx, ByteArray.size_extract]; omega
    exact prints_long s t _ (Lib.hid fun w hB => print_any t (by omega) w hB) (Lib.hid fun w hB => rprint_any t (by omega) w hB) (Lib.hid fun w hB => cut_any t (by omega) w hB) W (Nat.le_refl _) (by omega) hx ht
set_option maxRecDepth 100000 in
theorem quotePrints_lifted (os : Os) (started : os.Started) (H : Type) (enc : TypeId × Value → H) :
    ReturnsInHanded {} Try.checked os 3 .any (Rows.quotePrintsSpec.pre6 enc Try.prog Try.f3 Rows.quotePrintsRow.domain false) (Rows.quotePrintsSpec.post enc Try.prog Try.f3 false true false false) := by
  refine returnsInHanded_of_change_sized (C := Try.checked) own started (by kernel_rfl) Try.func3
    (ChangeSpec.witness6 (enc := enc) (C := Try.checked) false ⟨#[], #[.string ⟨#[]⟩], []⟩ 8 (by kernel_rfl) (by kernel_rfl) (by kernel_rfl) (by kernel_rfl)) ?_
  intro W base args ds gs before hval0 hW _ hsz _
  have hval : ∀ (j : Nat) t v, Try.f3.params[j]? = some t → args[j]? = some v → Value.okWide Try.prog W .any base t v := hval0
  have hW' := hW
  obtain ⟨p, q, hA0, hV, rfl, hfz, hnd⟩ := hW
  have hA : DataW.TrodAll enc Try.prog W 0 (fun _ => true) true Try.f3.params.toList args.toList ds p := hA0
  rw [Try.params3] at hA hval
  obtain ⟨v0, vs0, d0, ds0, p0, q0, hargs, rfl, rfl, h0, r0⟩ := trodAll_cons hA
  obtain ⟨rfl, rfl, rfl⟩ := trodAll_nil r0
  obtain rfl : args = #[v0] := by cases args; simp_all
  obtain ⟨rfl, rfl⟩ := trodVars_none hV
  obtain ⟨a0, rfl, rfl, rfl, w0⟩ := open_string Try.underlying9 (hval 0 9 v0 rfl rfl) h0
  clear hA0 hval0
  simp only [List.append_nil] at hW'
  have y0 : a0.size ≤ 140737488351232 := by
    have x1 := sized_string hsz (j := 0) (t := 9) rfl rfl
    have x2 : a0.data.toList.length = a0.size := size_len a0
    have x3 : reachBytes = 140737488351232 := rfl
    omega
  refine (prints_walk a0 y0 W).mono fun e W' ⟨he, hg⟩ => ?_
  subst he
  refine ⟨_, rfl, _, _, _, [], [], [], hW', (trodAll_cons_mk (shut_bool Try.underlying4 true) trodAll_mk0), (trodAll_cons_mk (shut_string Try.underlying9 w0) trodAll_mk0), rfl, hg.frame _, fun h => by cases h⟩
theorem quotePrints_holds : Rows.QuotePrintsSaid :=
  OpenClaim.holds_of_wide 3 Try.f3 rfl rfl rfl rfl rfl rfl rfl ⟨rfl, rfl, rfl, rfl, rfl⟩ rfl rfl rfl rfl rfl (by kernel_rfl) Try.func3 (by kernel_rfl)
    (of_decide_eq_true (by kernel_rfl)) (by unfold Func.isWrapper; first | (rw [if_pos (by decide +kernel)]; kernel_rfl) | (rw [if_neg (by decide +kernel)]; exact ⟨rfl, rfl⟩))
    (fun os started H enc _ => quotePrints_lifted os started H enc)
#print axioms quotePrints_holds
end Go.Proofs.Ytiecmkecmdbcaaa
