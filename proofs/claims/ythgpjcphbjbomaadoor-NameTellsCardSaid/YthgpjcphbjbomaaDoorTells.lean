/- For any text the law NameTells returns true: whether it is a word, a keyword, a name, a tag, and what the keywords are, is as the document says; the argument reads as before.
   Conditions: the listed variables lie as the program's text lays them (the card ties them); a string is no longer than the form's own reach; nothing else. -/
import Derived.Test.YthgpjcphbjbomaaDoorWorks
import Derived.Test.YthgpjcphbjbomaaDoorCards
import Derived.Test.YthgpjcphbjbomaaDoorTie
import Derived.SizedLaws
import Derived.ChangeMaps5
namespace Go.Proofs.YthgpjcphbjbomaaDoor
open Go.ChangeShapes Go.WideShapes Go.ChangeAt Go.RowKit Go.ChangeMaps

theorem rname_is {s : ByteArray} {b : Bool} (h : nameB s = b) (hs : s.size ≤ 140737488351232) (w : World) :
    Calls Tryd.prog 11 #[.string s] w fun e w' => e = .returned (.bool b) ∧ Below w.heap.size w w' := by subst h; exact rname_any s hs w
theorem rtag_is {s : ByteArray} {b : Bool} (h : tagB s = b) (hs : s.size ≤ 140737488351232) (w : World) :
    Calls Tryd.prog 13 #[.string s] w fun e w' => e = .returned (.bool b) ∧ w = w' := by subst h; exact rtag_any s hs w
theorem same_kw (g g' : Nat) (w : World) (hh : Hid (Holds w g kwl)) (hh' : Hid (Holds w g' kwl)) :
    Calls Tryd.prog 14 #[.slice (some ⟨g, 0, none⟩) 20 20, .slice (some ⟨g', 0, none⟩) 20 20] w fun e w' => e = .returned (.bool true) ∧ ∃ k, w' = w.drewN k :=
  same_any kwl g 20 g' 20 w (by rw [kwl_length]; omega) hh hh'
theorem Kws.drewN {B : Nat} {w : World} (h : Kws B w) (n : Nat) : Kws B (w.drewN n) := h.on (below_drewN (Below.refl _ _) n)
set_option maxHeartbeats 2000000 in
theorem tells_any {B : Nat} (s t : ByteArray) (n : Nat) (a b c : Bool) (hx : s.extract 0 (min (s.size : Int) 200).toNat = t) (ht : t.size ≤ 140737488351232) (hs : s.size ≤ 140737488351232)
    (HN : Hid (wl t = n)) (HA : Hid (kwB t = a)) (HB : Hid (nameB t = b)) (HC : Hid (tagB t = c)) (w : World) (hK : Kws B w) (hB : B ≤ w.heap.size) :
    Calls Tryd.prog 3 #[.string s] w fun e w' => e = .returned (.bool true) ∧ Below B w w' := by
  go_enter Tryd.func3, Tryd.ntmps3
  go_wp2_with (first
    | (go_at_call 6; refine (word_is HN.out ht _).mono ?_; rintro e w' ⟨rfl, rfl⟩)
    | (go_at_call 7; refine (rword_is HN.out ht _).mono ?_; rintro e w' ⟨rfl, rfl⟩)
    | (go_at_call 8; refine (keyword_is HA.out _ hK).mono ?_; rintro e w' ⟨rfl, rfl⟩)
    | (go_at_call 9; refine (rkeyword_is HA.out _).mono ?_; rintro e w1 ⟨rfl, hb1⟩; have x1 := hb1.mono hB; have hK1 := hK.on x1; have z1 := Nat.le_trans hB hb1.size)
    | (go_at_call 10; refine (name_is HB.out ht _ hK1).mono ?_; rintro e w' ⟨rfl, rfl⟩)
    | (go_at_call 11; refine (rname_is HB.out ht _).mono ?_; rintro e w2 ⟨rfl, hb2⟩; have x2 := hb2.mono z1; have hK2 := hK1.on x2; have z2 := Nat.le_trans z1 hb2.size)
    | (go_at_call 12; refine (tag_is HC.out ht _).mono ?_; rintro e w' ⟨rfl, rfl⟩)
    | (go_at_call 13; refine (rtag_is HC.out ht _).mono ?_; rintro e w' ⟨rfl, rfl⟩)
    | (go_at_call 15; refine (keywords_any _ hK2).mono ?_; rintro e w3 ⟨rfl, hb3, hh3, hg3⟩; have HH3 := Lib.hid hh3; clear hh3; have x3 := hb3.mono z2; have hK3 := hK2.on x3; have z3 := Nat.le_trans z2 hb3.size)
    | (go_at_call 16; refine (rkeywords_any _).mono ?_; rintro e w4 ⟨rfl, hb4, hh4, hg4⟩; have HH4 := Lib.hid hh4; clear hh4; have HH5 := Lib.hid (HH3.out.on hg3 hb4); have x4 := hb4.mono z3; have hK4 := hK3.on x4; have z4 := Nat.le_trans z3 hb4.size)
    | (go_at_call 14; refine (same_kw _ _ _ HH5 HH4).mono ?_; rintro e w5 ⟨rfl, k5, rfl⟩; have hK5 := hK4.drewN k5)
    | (go_at_call 17; refine (works_any _ hK5 z4).mono ?_; rintro e w6 ⟨rfl, hb6⟩; have x6 := hb6.mono z4))
  go_ret
  exact ⟨rfl, (((((x1.trans x2).trans x3).trans x4).trans (below_drewN (Below.refl _ _) k5))).trans x6⟩
theorem tells_walk (s : ByteArray) (hs : s.size ≤ 140737488351232) (W : World) (hK : Kws W.heap.size W) :
    Calls Tryd.prog 3 #[.string s] W fun e w' => e = .returned (.bool true) ∧ Below W.heap.size W w' :=
  tells_any s _ _ _ _ _ rfl (by rw [ByteArray.size_extract]; omega) hs (Lib.hid rfl) (Lib.hid rfl) (Lib.hid rfl) (Lib.hid rfl) W hK (Nat.le_refl _)
set_option maxRecDepth 100000 in
theorem nameTells_lifted (os : Os) (started : os.Started) (H : Type) (enc : TypeId × Value → H) :
    ReturnsInHanded {} Tryd.checked os 3 .any (fun w args => (Rows.nameTellsSpec.pre enc Tryd.prog Tryd.f3 [] false w args ∧ laidMetH Tryd.prog listed w) ∧ sizedMet enc Tryd.prog Tryd.f3 (OpenSpec.ofChange Rows.nameTellsSpec) false w args)
      (Rows.nameTellsSpec.post enc Tryd.prog Tryd.f3 false true false false) := by
  refine returnsInHanded_of_change_and (C := Tryd.checked) (X := fun w _ => laidMetH Tryd.prog listed w) (fun _ _ _ hh h => h.of_heap hh) own started (by kernel_rfl) Tryd.func3
    (ChangeSpec.witness_shaped (enc := enc) (C := Tryd.checked) (os := os) (X := fun w _ => laidMetH Tryd.prog listed w) false (World.doorLaid Tryd.prog 400 os) #[.string ⟨#[]⟩] 8 rfl (door_shaped os _) (by kernel_rfl) (by kernel_rfl) (by kernel_rfl) (door_met os _)) ?_
  intro W base args ds gs before hval0 hW _ hsz hL _
  have hval : ∀ (j : Nat) t v, Tryd.f3.params[j]? = some t → args[j]? = some v → Value.okWide Tryd.prog W .any base t v := hval0
  have hW' := hW
  obtain ⟨p, q, hA0, hV, rfl, hfz, hnd⟩ := hW
  have hA : DataW.TrodAll enc Tryd.prog W 0 (fun _ => true) true Tryd.f3.params.toList args.toList ds p := hA0
  rw [Tryd.params3] at hA hval
  have hK := kws_of_laid hL
  obtain ⟨v0, vs0, d0, ds0, p0, q0, hargs, rfl, rfl, h0, r0⟩ := trodAll_cons hA
  obtain ⟨rfl, rfl, rfl⟩ := trodAll_nil r0
  obtain rfl : args = #[v0] := by cases args; simp_all
  obtain ⟨rfl, rfl⟩ := trodVars_none hV
  obtain ⟨a0, rfl, rfl, rfl, w0⟩ := open_string Tryd.underlying9 (hval 0 9 v0 rfl rfl) h0
  have y0 : a0.size ≤ 140737488351232 := by
    have x1 := sized_string hsz (j := 0) (t := 9) rfl rfl
    have x2 : a0.data.toList.length = a0.size := size_len a0
    have x3 : reachBytes = 140737488351232 := rfl
    omega
  clear hA0 hval0
  simp only [List.append_nil] at hW'
  refine (tells_walk a0 y0 W hK).mono fun e W' ⟨he, hg⟩ => ?_
  subst he
  refine ⟨_, rfl, _, _, _, [], [], [], hW', (trodAll_cons_mk (shut_bool Tryd.underlying4 true) trodAll_mk0), (trodAll_cons_mk (shut_string Tryd.underlying9 w0) trodAll_mk0), rfl, hg.frame _, fun h => by cases h⟩
theorem nameTells_holds : Rows.NameTellsSaid :=
  OpenClaim.holds_of_wide 3 Tryd.f3 rfl rfl rfl rfl rfl rfl rfl ⟨rfl, rfl, rfl, rfl, rfl⟩ rfl rfl rfl rfl rfl (by kernel_rfl) Tryd.func3 (by kernel_rfl)
    (of_decide_eq_true (by kernel_rfl)) (by unfold Func.isWrapper; first | (rw [if_pos (by decide +kernel)]; kernel_rfl) | (rw [if_neg (by decide +kernel)]; exact ⟨rfl, rfl⟩))
    (fun os started H enc _ => nameTells_lifted os started H enc)
theorem nameTells_card : Rows.NameTellsCardSaid :=
  Claim7.holds_tied_plain_at .later [] [.data, .data, .data, .data] true (true, "68a8f96efbc508253a733794211a01e5c61819bd03b97bc257cb9b138addb6a3") false
    nameTells_holds (fun _ h => by cases h) (by kernel_rfl) (fun _ h => by cases h) nameTells_row_tie rfl ⟨rfl, rfl⟩ (by kernel_rfl) rfl
    (fun f fn hf hfn => by
      obtain rfl : f = 3 := Option.some.inj ((show Tryd.prog.funcNamed "syntagma/syntagmalaw03.NameTells" = some 3 by kernel_rfl).symm.trans hf) |>.symm
      obtain rfl : fn = Tryd.f3 := (Option.some.inj (Tryd.func3.symm.trans hfn)).symm
      exact ⟨by kernel_rfl, fun j t ht => by
        rw [Tryd.params3] at ht
        have hm : t ∈ [9] := by simpa using Array.mem_of_getElem? ht
        have hall : ([9].all fun u => !Tryd.prog.wantsStandIn u) = true := by kernel_rfl
        exact (show Tryd.prog.wantsStandIn t = false by simpa using List.all_eq_true.1 hall t hm)⟩)
    (by kernel_rfl)
#print axioms nameTells_card
end Go.Proofs.YthgpjcphbjbomaaDoor
