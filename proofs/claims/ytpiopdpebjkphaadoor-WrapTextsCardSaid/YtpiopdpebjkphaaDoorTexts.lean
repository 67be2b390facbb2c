/- For any whole number of 64 bits and any text the law WrapTexts returns true: the number's digits, and the number that is read of the text, are the document's, or refused as the document refuses; and each argument reads as before.
   Conditions: the library's three listed tables lie as the program's text lays them (the card ties them); a string is no longer than the form's own reach; nothing else. -/
import Derived.Test.YtpiopdpebjkphaaDoorRParse
import Derived.Test.YtpiopdpebjkphaaDoorRPrint
import Derived.Test.YtpiopdpebjkphaaDoorCards
import Derived.Test.YtpiopdpebjkphaaDoorTie
import Derived.Test.YtpiopdpebjkphaaDoorBounds
import Derived.SizedLaws
import Derived.ChangeMaps5
namespace Go.Proofs.YtpiopdpebjkphaaDoor
open Go.ChangeShapes Go.WideShapes Go.ChangeAt Go.RowKit Go.ChangeMaps

theorem nil_of (t : ByteArray) (h : ¬ 0 < t.size) : t.data.toList = [] := by
  have := size_len t
  exact List.eq_nil_of_length_eq_zero (by omega)
theorem eq48 {c : UInt8} (h : c.toNat = 48) : c = 48 := UInt8.toNat_inj.1 (by rw [h]; rfl)
theorem one_zero (t : ByteArray) (h0 : 0 < t.size) (h1 : t.size ≤ 1) : t.data.toList = [t[0]] := by
  have hh := head_at t h0
  have hl := size_len t
  cases hx : t.data.toList with
  | nil => rw [hx] at hl; simp at hl; omega
  | cons c r =>
    rw [hx] at hh hl
    have : r = [] := List.eq_nil_of_length_eq_zero (by simp at hl; omega)
    subst this
    simpa using hh
theorem rparse_any {B : Nat} (s : ByteArray) (hs : s.size ≤ 140737488351232) (w : World) : Calls Tryd.prog 15 #[.string s] w (Read s B w) := by
  by_cases h0 : 0 < s.size
  · have hh := head_at s h0
    by_cases hT : s[0].toNat = 126
    · have h126 : s.data.toList.head? = some 126 := by rw [hh, show s[0] = (126 : UInt8) from UInt8.toNat_inj.1 (by rw [hT]; rfl)]
      have hT' : ((s[0].toNat : Int) == 126) = true := by simp [hT]
      obtain ⟨t, hx⟩ : ∃ t, s.extract 1 s.size = t := ⟨_, rfl⟩
      have ht : t.data.toList = s.data.toList.tail := by rw [← hx]; exact tail_of s
      have hlen := size_len t
      by_cases hp : 0 < t.size
      · have hth := head_at t hp
        rw [ht] at hth
        by_cases h19 : t.size ≤ 19
        · by_cases h48 : t[0].toNat = 48
          · have HN : Hid (∀ m, InR m → s.data.toList ≠ wtext m) := Lib.hid (no_zero_sign h126 ⟨_, hth, h48⟩)
            by_cases h1 : t.size ≤ 1
            · exact rp_sone s hs h0 hT' t hx hp h1 (by rw [ByteArray.toList_eq, one_zero t hp h1, eq48 h48]; rfl) HN w
            · exact rp_szero s hs h0 hT' t hx h19 (by omega) (by simp [h48]) HN w
          · have hz : ∀ c, s.data.toList.tail.head? = some c → c.toNat ≠ 48 := fun c hc => by rw [hth] at hc; rw [← Option.some.inj hc]; exact h48
            have hne : (t.toList == [48]) = false := by
              rw [ByteArray.toList_eq]
              have hth' := head_at t hp
              cases hl : t.data.toList with
              | nil => rfl
              | cons c r =>
                rw [hl] at hth'
                have hc : c ≠ 48 := by intro e; exact h48 (by rw [← Option.some.inj hth', e]; rfl)
                simp [hc]
            by_cases h1 : t.size ≤ 1
            · exact rp_sgood1 s hs h0 hT' t hx hp h1 hne (Lib.hid h126) (Lib.hid ht) (Lib.hid hz) w
            · exact rp_smore s hs h0 hT' t hx h19 (by omega) (by simpa using (by omega : ¬ (t[0].toNat : Int) = 48)) hne (Lib.hid h126) (Lib.hid ht) (Lib.hid hz) w
        · exact rp_slong s hs h0 hT' t hx (by omega) (Lib.hid (no_long_sign h126 (by rw [← ht, hlen]; omega))) w
      · exact rp_snone s hs h0 hT' t hx (by omega) (Lib.hid (no_none_sign h126 (by rw [← ht]; exact nil_of t hp))) w
    · have h126 : s.data.toList.head? ≠ some 126 := by rw [hh]; intro e; exact hT (by rw [Option.some.inj e]; rfl)
      have hT' : ((s[0].toNat : Int) == 126) = false := by simpa using (by omega : ¬ (s[0].toNat : Int) = 126)
      have hlen := size_len s
      by_cases h1 : s.size ≤ 1
      · exact rp_one s hs h0 hT' h1 (Lib.hid h126) (Lib.hid (Or.inl (by omega))) w
      · by_cases h19 : s.size ≤ 19
        · by_cases h48 : s[0].toNat = 48
          · exact rp_zero s hs h0 hT' h19 (by omega) (by simp [h48]) (Lib.hid (no_zero_plain h126 (by omega) ⟨_, hh, h48⟩)) w
          · exact rp_more s hs h0 hT' h19 (by omega) (by simpa using (by omega : ¬ (s[0].toNat : Int) = 48)) (Lib.hid h126) (Lib.hid (Or.inr fun c hc => by rw [hh] at hc; rw [← Option.some.inj hc]; exact h48)) w
        · exact rp_long s hs h0 hT' (by omega) (Lib.hid (no_long_plain h126 (by omega))) w
  · have e : s = ⟨#[]⟩ := by
      apply ByteArray.ext
      exact Array.eq_empty_of_size_eq_zero (by have : s.data.size = s.size := rfl; omega)
    subst e
    exact rp_empty w
set_option maxHeartbeats 1000000 in
theorem texts_any {B : Nat} (n : Int) (v e : Int) (T s : ByteArray)
    (HP : Hid (∀ w, Pow B w → B ≤ w.heap.size → Calls Tryd.prog 14 #[.string s] w fun x w' => x = .returned (.tuple #[.int .i64 v, .int .i64 e]) ∧ Below B w w'))
    (HR : Hid (∀ w, Calls Tryd.prog 15 #[.string s] w fun x w' => x = .returned (.tuple #[.int .i64 v, .int .i64 e]) ∧ Below B w w'))
    (HW : Hid (∀ w, Pow B w → B ≤ w.heap.size → Calls Tryd.prog 16 #[.int .i64 n] w fun x w' => x = .returned (.string T) ∧ Below B w w'))
    (HQ : Hid (∀ w, B ≤ w.heap.size → Calls Tryd.prog 17 #[.int .i64 n] w fun x w' => x = .returned (.string T) ∧ Below B w w'))
    (w : World) (hp : Pow B w) (hB : B ≤ w.heap.size) :
    Calls Tryd.prog 5 #[.int .i64 n, .string s] w fun x w' => x = .returned (.bool true) ∧ Below B w w' := by
  go_enter Tryd.func5, Tryd.ntmps5
  go_wp2_with (first
    | (go_at_call 14; refine (HP.out _ hp hB).mono ?_; rintro e w1 ⟨rfl, hb1⟩)
    | (go_at_call 15; refine (HR.out _).mono ?_; rintro e w2 ⟨rfl, hb2⟩)
    | (go_at_call 16; refine (HW.out _ (hp.on (hb1.trans hb2)) (by have := hb1.size; have := hb2.size; omega)).mono ?_; rintro e w3 ⟨rfl, hb3⟩)
    | (go_at_call 17; refine (HQ.out _ (by have := hb1.size; have := hb2.size; have := hb3.size; omega)).mono ?_; rintro e w4 ⟨rfl, hb4⟩)
    | (go_at_call 12; refine (works_any _ (hp.on (((hb1.trans hb2).trans hb3).trans hb4)) (by have := hb1.size; have := hb2.size; have := hb3.size; have := hb4.size; omega)).mono ?_; rintro e w5 ⟨rfl, hb5⟩))
  go_ret
  exact ⟨rfl, (((hb1.trans hb2).trans hb3).trans hb4).trans hb5⟩
theorem texts_walk (n : Int) (s : ByteArray) (hn : (Lit.int .i64 n).wf = true) (hs : s.size ≤ 140737488351232) (W : World) (hp : Pow W.heap.size W) :
    Calls Tryd.prog 5 #[.int .i64 n, .string s] W fun e w' => e = .returned (.bool true) ∧ Below W.heap.size W w' := by
  have hN : InR n := i64_bounds hn
  exact texts_any n (pv s.data.toList) (pe s.data.toList) ⟨(wtext n).toArray⟩ s (Lib.hid fun w hp hB => parse_any s hs w hp hB) (Lib.hid fun w => rparse_any s hs w)
    (Lib.hid fun w hp hB => print_any n hN.1 hN.2 w hp hB) (Lib.hid fun w hB => rprint_any n hN w hB) W hp (Nat.le_refl _)
set_option maxRecDepth 100000 in
theorem wrapTexts_lifted (os : Os) (started : os.Started) (H : Type) (enc : TypeId × Value → H) :
    ReturnsInHanded {} Tryd.checked os 5 .any (fun w args => (Rows.wrapTextsSpec.pre enc Tryd.prog Tryd.f5 [] false w args ∧ laidMetH Tryd.prog listed w) ∧ sizedMet enc Tryd.prog Tryd.f5 (OpenSpec.ofChange Rows.wrapTextsSpec) false w args)
      (Rows.wrapTextsSpec.post enc Tryd.prog Tryd.f5 false true false false) := by
  refine returnsInHanded_of_change_and (C := Tryd.checked) (X := fun w _ => laidMetH Tryd.prog listed w) (fun _ _ _ hh h => h.of_heap hh) own started (by kernel_rfl) Tryd.func5
    (ChangeSpec.witness_shaped (enc := enc) (C := Tryd.checked) (os := os) (X := fun w _ => laidMetH Tryd.prog listed w) false (World.doorLaid Tryd.prog 400 os) #[.int .i64 0, .string ⟨#[]⟩] 8 rfl (door_shaped os _) (by kernel_rfl) (by kernel_rfl) (by kernel_rfl) (door_met os _)) ?_
  intro W base args ds gs before hval0 hW _ hsz hL _
  have hval : ∀ (j : Nat) t v, Tryd.f5.params[j]? = some t → args[j]? = some v → Value.okWide Tryd.prog W .any base t v := hval0
  have hW' := hW
  obtain ⟨p, q, hA0, hV, rfl, hfz, hnd⟩ := hW
  have hA : DataW.TrodAll enc Tryd.prog W 0 (fun _ => true) true Tryd.f5.params.toList args.toList ds p := hA0
  rw [Tryd.params5] at hA hval
  obtain ⟨v0, vs0, d0, ds0, p0, q0, hargs, rfl, rfl, h0, r0⟩ := trodAll_cons hA
  obtain ⟨v1, vs1, d1, ds1, p1, q1, rfl, rfl, rfl, h1, r1⟩ := trodAll_cons r0
  obtain ⟨rfl, rfl, rfl⟩ := trodAll_nil r1
  obtain rfl : args = #[v0, v1] := by cases args; simp_all
  obtain ⟨rfl, rfl⟩ := trodVars_none hV
  obtain ⟨a0, rfl, rfl, rfl, w0⟩ := open_int Tryd.underlying2 (hval 0 2 v0 rfl rfl) h0
  obtain ⟨a1, rfl, rfl, rfl, w1⟩ := open_string Tryd.underlying9 (hval 1 9 v1 rfl rfl) h1
  clear hA0 hval0
  simp only [List.append_nil] at hW'
  have hs : a1.size ≤ 140737488351232 := by
    have h1 := sized_string hsz (j := 1) (t := 9) rfl rfl
    have h2 : a1.data.toList.length = a1.size := size_len a1
    have h3 : reachBytes = 140737488351232 := rfl
    omega
  refine (texts_walk a0 a1 w0 hs W (pow_of_laid hL)).mono fun e W' ⟨he, hg⟩ => ?_
  subst he
  refine ⟨_, rfl, _, _, _, [], [], [], hW', (trodAll_cons_mk (shut_bool Tryd.underlying4 true) trodAll_mk0), (trodAll_cons_mk (shut_int Tryd.underlying2 w0) (trodAll_cons_mk (shut_string Tryd.underlying9 w1) trodAll_mk0)), rfl, hg.frame _, fun h => by cases h⟩
theorem wrapTexts_holds : Rows.WrapTextsSaid :=
  OpenClaim.holds_of_wide 5 Tryd.f5 rfl rfl rfl rfl rfl rfl rfl ⟨rfl, rfl, rfl, rfl, rfl⟩ rfl rfl rfl rfl rfl (by kernel_rfl) Tryd.func5 (by kernel_rfl)
    (of_decide_eq_true (by kernel_rfl)) (by unfold Func.isWrapper; first | (rw [if_pos (by decide +kernel)]; kernel_rfl) | (rw [if_neg (by decide +kernel)]; exact ⟨rfl, rfl⟩))
    (fun os started H enc _ => wrapTexts_lifted os started H enc)
theorem wrapTexts_card : Rows.WrapTextsCardSaid :=
  Claim7.holds_tied_plain_at .later [] [.data, .data, .data] true (true, "07c0da3c569cdcee4a152ce3940b77d5f85a9473db36b85cad3b43d8f664771c") false
    wrapTexts_holds (fun _ h => by cases h) (by kernel_rfl) (fun _ h => by cases h) wrapTexts_row_tie rfl ⟨rfl, rfl⟩ (by kernel_rfl) rfl
    (fun f fn hf hfn => by
      obtain rfl : f = 5 := Option.some.inj ((show Tryd.prog.funcNamed "syntagma/syntagmalaw01.WrapTexts" = some 5 by kernel_rfl).symm.trans hf) |>.symm
      obtain rfl : fn = Tryd.f5 := (Option.some.inj (Tryd.func5.symm.trans hfn)).symm
      exact ⟨by kernel_rfl, fun j t ht => by
        rw [Tryd.params5] at ht
        have hm : t ∈ [2, 9] := by simpa using Array.mem_of_getElem? ht
        have hall : ([2, 9].all fun u => !Tryd.prog.wantsStandIn u) = true := by kernel_rfl
        exact (show Tryd.prog.wantsStandIn t = false by simpa using List.all_eq_true.1 hall t hm)⟩)
    (by kernel_rfl)
#print axioms wrapTexts_card
end Go.Proofs.YtpiopdpebjkphaaDoor
