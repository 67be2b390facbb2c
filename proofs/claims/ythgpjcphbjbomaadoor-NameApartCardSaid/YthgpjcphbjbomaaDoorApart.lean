/- For any text and any texts that are used the law NameApart returns true: no name is a tag, or a keyword, and what is fresh is none of what is used; each argument reads as before.
   Conditions: the listed variables lie as the program's text lays them (the card ties them); strings and slices are no longer than the form's own reach; nothing else. -/
import Derived.Test.YthgpjcphbjbomaaDoorShared
namespace Go.Proofs.YthgpjcphbjbomaaDoor
open Go.ChangeShapes Go.WideShapes Go.ChangeAt Go.RowKit Go.ChangeMaps
theorem ne_at {F : ByteArray} {l : List ByteArray} {k : Nat} (h : inB F l = false) (hk : k < l.length) : ((l.getD k ⟨#[]⟩).toList == F.toList) = false := by
  rw [List.getD_eq_getElem?_getD, List.getElem?_eq_getElem hk]
  have := List.any_eq_false.1 h l[k] (List.getElem_mem hk)
  simpa using this
theorem name_parts {t : ByteArray} (h : nameB t = true) : tagB t = false ∧ kwB t = false ∧ wl t = t.size := by
  rw [nameB, Bool.and_eq_true, Bool.and_eq_true] at h
  obtain ⟨h1, h2, h3⟩ := h
  exact ⟨by rw [tagB, begT_not h2, Bool.and_false], by simpa using h3, (whole_parts h1).2⟩
set_option maxHeartbeats 2000000 in
theorem apart_no {B : Nat} (s t F : ByteArray) (v : Value) (l : List ByteArray) (hs : s.size ≤ 140737488351232) (hx : s.extract 0 (min (s.size : Int) 100).toNat = t) (ht : t.size ≤ 140737488351232) (hl : l.length ≤ 30) (W : World) (hK : Kws B W) (hB : B ≤ W.heap.size)
    (HF : Hid (∀ w, Below B W w → Calls Tryd.prog 18 #[v] w (Few B l w))) (H19 : Hid (Both t l F 19)) (HN : Hid (inB F l = false)) (HB : Hid (nameB t = false)) :
    Calls Tryd.prog 5 #[.string s, v] W fun e w' => e = .returned (.bool true) ∧ Below B W w' := by
  go_enter Tryd.func5, Tryd.ntmps5
  go_upto_region 3 with (go_at_call 17; refine (works_any _ hK hB).mono ?_; rintro e w0 ⟨rfl, hb0⟩; have x0 := hb0.mono hB)
  go_cut [0, 1] (fun s0 u0 wx => s0 = .string t ∧ ∃ g c, u0 = .slice (some ⟨g, 0, none⟩) l.length c ∧ Hid (On B W wx g l))
  case first =>
    go_region_with (go_at_call 18; refine (HF.out _ x0.drew).mono ?_; rintro e w1 ⟨g1, c1, rfl, hc1, hB1, hg1, hh1, hb1⟩)
    all_goals
      have hw1 : Below B W w1 := x0.drew.trans hb1
      have hon : Hid (On B W w1 g1 l) := Lib.hid ⟨hw1, Nat.le_trans hB hw1.size, hg1, Lib.hid hh1, hK.on hw1⟩
      clear hh1 hc1
      go_wp2_with fail
      go_meet
      exact ⟨rfl, g1, c1, rfl, hon⟩
  case rest =>
    obtain ⟨rfl, g, c, rfl, S0⟩ := hcut
    go_wp2_with (go_at_call 19; refine (H19.out g c _ S0.out.2.2.1 S0.out.2.2.2.1).mono ?_; rintro e w3 ⟨rfl, hb3⟩; have S3 := Lib.hid (S0.out.next hb3))
    go_loop [6] (fun i => ∃ k : Nat, k ≤ l.length ∧ i = .int .i64 k) (fun i => l.length - (intOf i).toNat)
    case atStart => exact ⟨0, Nat.zero_le _, rfl⟩
    case round =>
      obtain ⟨k, hk, rfl⟩ := hrel
      by_cases hlt : k < l.length
      · have hc := S3.out.2.2.2.1.out k hlt
        have hne := ne_at HN.out hlt
        obtain ⟨x, hx2⟩ : ∃ x, l.getD k ⟨#[]⟩ = x := ⟨_, rfl⟩
        rw [hx2] at hc hne
        clear hx2
        go_wp2_with fail
        go_round
        case rel => exact ⟨k + 1, by omega, by go_num⟩
        case measure => simp [intOf]; omega
      · obtain rfl : k = l.length := by omega
        have hK3 := S3.out.2.2.2.2
        go_wp2_with (go_at_call 10; refine (name_is HB.out ht _ hK3).mono ?_; rintro e w' ⟨rfl, rfl⟩)
        go_ret
        exact ⟨rfl, S3.out.1⟩
set_option maxHeartbeats 2000000 in
theorem apart_yes {B : Nat} (s t F : ByteArray) (v : Value) (l : List ByteArray) (hs : s.size ≤ 140737488351232) (hx : s.extract 0 (min (s.size : Int) 100).toNat = t) (ht : t.size ≤ 140737488351232) (hl : l.length ≤ 30) (W : World) (hK : Kws B W) (hB : B ≤ W.heap.size)
    (HF : Hid (∀ w, Below B W w → Calls Tryd.prog 18 #[v] w (Few B l w))) (H19 : Hid (Both t l F 19)) (HN : Hid (inB F l = false)) (HB : Hid (nameB t = true)) (HT : Hid (tagB t = false)) (HA : Hid (kwB t = false)) (HL : Hid (wl t = t.size)) :
    Calls Tryd.prog 5 #[.string s, v] W fun e w' => e = .returned (.bool true) ∧ Below B W w' := by
  go_enter Tryd.func5, Tryd.ntmps5
  go_upto_region 3 with (go_at_call 17; refine (works_any _ hK hB).mono ?_; rintro e w0 ⟨rfl, hb0⟩; have x0 := hb0.mono hB)
  go_cut [0, 1] (fun s0 u0 wx => s0 = .string t ∧ ∃ g c, u0 = .slice (some ⟨g, 0, none⟩) l.length c ∧ Hid (On B W wx g l))
  case first =>
    go_region_with (go_at_call 18; refine (HF.out _ x0.drew).mono ?_; rintro e w1 ⟨g1, c1, rfl, hc1, hB1, hg1, hh1, hb1⟩)
    all_goals
      have hw1 : Below B W w1 := x0.drew.trans hb1
      have hon : Hid (On B W w1 g1 l) := Lib.hid ⟨hw1, Nat.le_trans hB hw1.size, hg1, Lib.hid hh1, hK.on hw1⟩
      clear hh1 hc1
      go_wp2_with fail
      go_meet
      exact ⟨rfl, g1, c1, rfl, hon⟩
  case rest =>
    obtain ⟨rfl, g, c, rfl, S0⟩ := hcut
    go_wp2_with (go_at_call 19; refine (H19.out g c _ S0.out.2.2.1 S0.out.2.2.2.1).mono ?_; rintro e w3 ⟨rfl, hb3⟩; have S3 := Lib.hid (S0.out.next hb3))
    go_loop [6] (fun i => ∃ k : Nat, k ≤ l.length ∧ i = .int .i64 k) (fun i => l.length - (intOf i).toNat)
    case atStart => exact ⟨0, Nat.zero_le _, rfl⟩
    case round =>
      obtain ⟨k, hk, rfl⟩ := hrel
      by_cases hlt : k < l.length
      · have hc := S3.out.2.2.2.1.out k hlt
        have hne := ne_at HN.out hlt
        obtain ⟨x, hx2⟩ : ∃ x, l.getD k ⟨#[]⟩ = x := ⟨_, rfl⟩
        rw [hx2] at hc hne
        clear hx2
        go_wp2_with fail
        go_round
        case rel => exact ⟨k + 1, by omega, by go_num⟩
        case measure => simp [intOf]; omega
      · obtain rfl : k = l.length := by omega
        have hK3 := S3.out.2.2.2.2
        go_wp2_with (first | (go_at_call 10; refine (name_is HB.out ht _ hK3).mono ?_; rintro e w' ⟨rfl, rfl⟩) | (go_at_call 12; refine (tag_is HT.out ht _).mono ?_; rintro e w' ⟨rfl, rfl⟩) | (go_at_call 8; refine (keyword_is HA.out _ hK3).mono ?_; rintro e w' ⟨rfl, rfl⟩) | (go_at_call 6; refine (word_is HL.out ht _).mono ?_; rintro e w' ⟨rfl, rfl⟩))
        go_ret
        exact ⟨rfl, S3.out.1⟩
theorem apart_walk (s : ByteArray) (hs : s.size ≤ 140737488351232) (v : Value) (l : List ByteArray) (hl : l.length ≤ 30) (hz : Short l) (W : World) (hK : Kws W.heap.size W)
    (HF : Hid (∀ w, Below W.heap.size W w → Calls Tryd.prog 18 #[v] w (Few W.heap.size l w))) :
    Calls Tryd.prog 5 #[.string s, v] W fun e w' => e = .returned (.bool true) ∧ Below W.heap.size W w' := by
  have ht : (s.extract 0 (min (s.size : Int) 100).toNat).size ≤ 100 := by rw [ByteArray.size_extract]; omega
  obtain ⟨F, h1, _, hn⟩ := fresh_both _ l (by omega : (s.extract 0 (min (s.size : Int) 100).toNat).size ≤ 1000) (by omega) hz
  cases hb : nameB (s.extract 0 (min (s.size : Int) 100).toNat) with
  | false => exact apart_no s _ F v l hs rfl (by omega) hl W hK (Nat.le_refl _) HF (Lib.hid h1) (Lib.hid hn) (Lib.hid hb)
  | true => exact apart_yes s _ F v l hs rfl (by omega) hl W hK (Nat.le_refl _) HF (Lib.hid h1) (Lib.hid hn) (Lib.hid hb) (Lib.hid (name_parts hb).1) (Lib.hid (name_parts hb).2.1) (Lib.hid (name_parts hb).2.2)
set_option maxRecDepth 100000 in
theorem nameApart_lifted (os : Os) (started : os.Started) (H : Type) (enc : TypeId × Value → H) :
    ReturnsInHanded {} Tryd.checked os 5 .any (fun w args => (Rows.nameApartSpec.pre enc Tryd.prog Tryd.f5 [] false w args ∧ laidMetH Tryd.prog listed w) ∧ sizedMet enc Tryd.prog Tryd.f5 (OpenSpec.ofChange Rows.nameApartSpec) false w args)
      (Rows.nameApartSpec.post enc Tryd.prog Tryd.f5 false true false false) := by
  refine returnsInHanded_of_change_and (C := Tryd.checked) (X := fun w _ => laidMetH Tryd.prog listed w) (fun _ _ _ hh h => h.of_heap hh) own started (by kernel_rfl) Tryd.func5
    (ChangeSpec.witness_shaped (enc := enc) (C := Tryd.checked) (os := os) (X := fun w _ => laidMetH Tryd.prog listed w) false (World.doorLaid Tryd.prog 400 os) #[.string ⟨#[]⟩, .slice none 0 0] 8 rfl (door_shaped os _) (by kernel_rfl) (by kernel_rfl) (by kernel_rfl) (door_met os _)) ?_
  intro W base args ds gs before hval0 hW _ hsz hL _
  have hval : ∀ (j : Nat) t v, Tryd.f5.params[j]? = some t → args[j]? = some v → Value.okWide Tryd.prog W .any base t v := hval0
  have hW' := hW
  obtain ⟨p, q, hA0, hV, rfl, hfz, hnd⟩ := hW
  have hA : DataW.TrodAll enc Tryd.prog W 0 (fun _ => true) true Tryd.f5.params.toList args.toList ds p := hA0
  rw [Tryd.params5] at hA hval
  have hK := kws_of_laid hL
  obtain ⟨v0, vs0, d0, ds0, p0, q0, hargs, rfl, rfl, h0, r0⟩ := trodAll_cons hA
  obtain ⟨v1, vs1, d1, ds1, p1, q1, rfl, rfl, rfl, h1, r1⟩ := trodAll_cons r0
  obtain ⟨rfl, rfl, rfl⟩ := trodAll_nil r1
  obtain rfl : args = #[v0, v1] := by cases args; simp_all
  obtain ⟨rfl, rfl⟩ := trodVars_none hV
  obtain ⟨a0, rfl, rfl, rfl, w0⟩ := open_string Tryd.underlying9 (hval 0 9 v0 rfl rfl) h0
  have y0 : a0.size ≤ 140737488351232 := by
    have x1 := sized_string hsz (j := 0) (t := 9) rfl rfl
    have x2 : a0.data.toList.length = a0.size := size_len a0
    have x3 : reachBytes = 140737488351232 := rfl
    omega
  obtain ⟨A0, len, cap, rfl⟩ := okWide_slice Tryd.underlying25 (hval 1 25 v1 rfl rfl)
  have h1k := h1
  obtain ⟨fuel, hf⟩ := h1
  clear hA0 hval0
  simp only [List.append_nil, List.nil_append] at hW'
  have hlt : ∀ x ∈ p1, x.block < W.heap.size := fun x hx => by simpa using hW'.lt x hx
  have hargs1 : ∀ (W' : World), Below W.heap.size W W' → DataW.Trod enc Tryd.prog W' 0 (fun b => decide (b < W.heap.size)) true 25 (.slice A0 len cap) d1 p1 :=
    fun W' hn => Below.trod laidOut (by kernel_rfl) (of_decide_eq_true (by kernel_rfl)) h1k hn hlt
  have fin : ∀ e W', (e = Ending.returned (.bool true) ∧ Below W.heap.size W W') →
      ∃ v, e = Ending.returned v ∧ Rows.nameApartSpec.post enc Tryd.checked.prog Tryd.f5 false true false false W #[.string a0, .slice A0 len cap] v W' := by
    rintro e W' ⟨rfl, hg⟩
    exact ⟨_, rfl, _, _, _, [], p1, [], hW', (trodAll_cons_mk (shut_bool Tryd.underlying4 true) trodAll_mk0), (trodAll_two_mk (shut_string Tryd.underlying9 w0) (hargs1 _ hg)), rfl, hg.frame _, fun h => by cases h⟩
  rcases open_strings Tryd.underlying25 Tryd.underlying9 cells9 hf with ⟨hcs, hx⟩ | ⟨a, len', cap', ss, hcs, _, hl, hm, hz, hx, hcell, hws⟩
  · simp [Value.cells] at hcs
    obtain ⟨rfl, rfl, rfl⟩ := hcs
    exact (apart_walk a0 y0 _ [] (by simp) (fun s h => by cases h) W hK (Lib.hid fun w hb => few_none w hb.size)).mono fin
  · simp [Value.cells] at hcs
    obtain ⟨rfl, rfl, rfl⟩ := hcs
    simp only [Prod.mk.injEq] at hx
    obtain ⟨rfl, rfl⟩ := hx
    simp only [if_true] at hz
    have hreach : cap * 16 ≤ 140737488351232 := by
      have this : ((strs (H := H) (ss.take len)).length + (strs (H := H) (ss.drop len)).length) * Tryd.prog.bytesOf 9 ≤ reachBytes := sized_slice hsz (j := 1) (t := 25) (e := 9) rfl rfl Tryd.underlying25
      rw [bytes9] at this
      simp only [strs, List.length_map, List.length_take, List.length_drop, reachBytes] at this
      omega
    by_cases hl0 : len = 0
    · subst hl0
      exact (apart_walk a0 y0 _ [] (by simp) (fun s h => by cases h) W hK (Lib.hid fun w hb => few_zero a cap w hb.size)).mono fin
    · obtain ⟨b, off, spot⟩ := a
      have hspot : spot = none := by simpa [Addr.add] using World.cell?_spot (hcell 0 (by omega))
      subst hspot
      have hbW : b < W.heap.size := hlt (.cell b off) (MemPlace.mem_row.2 ⟨0, by omega, by simp⟩)
      have hlen : (ss.take len).length = len := by rw [List.length_take]; omega
      refine (apart_walk a0 y0 _ ((ss.take len).take 30) (by rw [List.length_take]; omega) (fun s h => hws s (List.mem_of_mem_take (List.mem_of_mem_take h))) W hK (Lib.hid fun w hb => ?_)).mono fin
      have hfew := few_some (B := W.heap.size) (ss.take len) b off cap w hb.size (Nat.lt_of_lt_of_le hbW hb.size) (by omega) (by omega) (Lib.hid fun j hj => by
        rw [hlen] at hj
        have e : (ss.take len).getD j ⟨#[]⟩ = ss.getD j ByteArray.empty := by
          rw [List.getD_eq_getElem?_getD, List.getD_eq_getElem?_getD, List.getElem?_take, if_pos hj]; rfl
        rw [(hb.cell (p := ⟨b, off + j, none⟩) hbW), ← add_plain, hcell j (by omega), e])
      rw [hlen] at hfew
      exact hfew
theorem nameApart_holds : Rows.NameApartSaid :=
  OpenClaim.holds_of_wide 5 Tryd.f5 rfl rfl rfl rfl rfl rfl rfl ⟨rfl, rfl, rfl, rfl, rfl⟩ rfl rfl rfl rfl rfl (by kernel_rfl) Tryd.func5 (by kernel_rfl)
    (of_decide_eq_true (by kernel_rfl)) (by unfold Func.isWrapper; first | (rw [if_pos (by decide +kernel)]; kernel_rfl) | (rw [if_neg (by decide +kernel)]; exact ⟨rfl, rfl⟩))
    (fun os started H enc _ => nameApart_lifted os started H enc)
theorem nameApart_card : Rows.NameApartCardSaid :=
  Claim7.holds_tied_plain_at .later [] [.data, .data, .data, .data] true (true, "68a8f96efbc508253a733794211a01e5c61819bd03b97bc257cb9b138addb6a3") false
    nameApart_holds (fun _ h => by cases h) (by kernel_rfl) (fun _ h => by cases h) nameApart_row_tie rfl ⟨rfl, rfl⟩ (by kernel_rfl) rfl
    (fun f fn hf hfn => by
      obtain rfl : f = 5 := Option.some.inj ((show Tryd.prog.funcNamed "syntagma/syntagmalaw03.NameApart" = some 5 by kernel_rfl).symm.trans hf) |>.symm
      obtain rfl : fn = Tryd.f5 := (Option.some.inj (Tryd.func5.symm.trans hfn)).symm
      exact ⟨by kernel_rfl, fun j t ht => by
        rw [Tryd.params5] at ht
        have hm : t ∈ [9, 25] := by simpa using Array.mem_of_getElem? ht
        have hall : ([9, 25].all fun u => !Tryd.prog.wantsStandIn u) = true := by kernel_rfl
        exact (show Tryd.prog.wantsStandIn t = false by simpa using List.all_eq_true.1 hall t hm)⟩)
    (by kernel_rfl)
#print axioms nameApart_card
end Go.Proofs.YthgpjcphbjbomaaDoor
