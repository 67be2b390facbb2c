/- Joined by program. -/
import Derived.Test.YtjakeidbajkdcaaGreatDoorH03
import Derived.Test.YtjakeidbajkdcaaGreatDoorH07
set_option maxRecDepth 100000
set_option maxHeartbeats 4000000
namespace Go.Proofs.YtjakeidbajkdcaaGreatDoor.T
open Go.RowKit
theorem name_is {s : ByteArray} {b : Bool} (h : M.nameB s = b) (hs : s.size <= 9223372036854775807) {B : Nat} (w : World) (hK : Kws B w) : Calls Tryz.prog 154 #[.string s] w fun e w' => e = .returned (.bool b) /\ w = w' := by subst h; exact M.name_any s hs w hK
theorem tag_is {s : ByteArray} {b : Bool} (h : M.tagB s = b) (hs : s.size <= 9223372036854775807) (w : World) : Calls Tryz.prog 155 #[.string s] w fun e w' => e = .returned (.bool b) /\ w = w' := by subst h; exact M.tag_any s hs w
theorem is11 (nm vr : ByteArray) (pl : Int) (b1 b2 : Bool) (H1 : Hid (M.nameB nm = b1)) (H2 : vr.toList.isEmpty = b2) (hs : nm.size <= 9223372036854775807) {B : Nat} (w : World) (hK : Kws B w) (hB : B <= w.heap.size) :
    Calls Tryz.prog 185 #[.agg #[.string nm, .string vr, .int .i64 pl]] w fun e w' => e = .returned (.bool (b1 && b2)) /\ Below w.heap.size w w' := by
  have HK : Hid (Kws B (w.alloc (.cells #[.string nm, .string vr, .int .i64 pl] 97))) := Lib.hid (hK.on ((Below.refl B w).alloc hB _))
  have hq : (vr.toList == []) = b2 := by rw [<- H2]; cases vr.toList <;> rfl
  cases b1 <;> cases b2
  all_goals
    go_enter Tryz.func185, Tryz.ntmps185
    go_wp2_with (go_at_call 154; refine (name_is H1.out hs _ HK.out).mono ?_; rintro e w1 ⟨rfl, rfl⟩)
    go_ret
    exact ⟨rfl, (Below.refl _ w).alloc (Nat.le_refl _) _⟩
theorem is14 (nm vr : ByteArray) (pl : Int) (b1 b2 : Bool) (H1 : Hid (M.tagB nm = b1)) (H2 : Hid (M.nameB vr = b2)) (hs : nm.size <= 9223372036854775807) (hs2 : vr.size <= 9223372036854775807) {B : Nat} (w : World) (hK : Kws B w) (hB : B <= w.heap.size) :
    Calls Tryz.prog 187 #[.agg #[.string nm, .string vr, .int .i64 pl]] w fun e w' => e = .returned (.bool (b1 && b2)) /\ Below w.heap.size w w' := by
  have HK : Hid (Kws B (w.alloc (.cells #[.string nm, .string vr, .int .i64 pl] 97))) := Lib.hid (hK.on ((Below.refl B w).alloc hB _))
  cases b1 <;> cases b2
  all_goals
    go_enter Tryz.func187, Tryz.ntmps187
    go_wp2_with (first | (go_at_call 155; refine (tag_is H1.out hs _).mono ?_; rintro e w1 ⟨rfl, rfl⟩) | (go_at_call 154; refine (name_is H2.out hs2 _ HK.out).mono ?_; rintro e w1 ⟨rfl, rfl⟩))
    go_ret
    exact ⟨rfl, (Below.refl _ w).alloc (Nat.le_refl _) _⟩
theorem fok_is (k : Int) (m : Nat) (hk : (k = 11 /\ m = 185) ∨ (k = 14 /\ m = 187)) (f : Fld) (b : Bool) (h : fok k f = b) (hs : f.nm.size <= 9223372036854775807 /\ f.vr.size <= 9223372036854775807) {B : Nat} (w : World) (hK : Kws B w) (hB : B <= w.heap.size) :
    Calls Tryz.prog m #[.agg #[.string f.nm, .string f.vr, .int .i64 f.pl]] w fun e w' => e = .returned (.bool b) /\ Below w.heap.size w w' := by
  subst h
  rcases hk with ⟨rfl, rfl⟩ | ⟨rfl, rfl⟩
  · exact is11 f.nm f.vr f.pl _ _ (Lib.hid rfl) rfl hs.1 w hK hB
  · exact is14 f.nm f.vr f.pl _ _ (Lib.hid rfl) (Lib.hid rfl) hs.1 hs.2 w hK hB
open Go.RowKit
theorem set_nil (c : Nat) (w : World) : Calls Tryz.prog 210 #[.slice none 0 c] w fun e w' => e = .returned (.map (some w.heap.size)) /\ w'.ownsMap Tryz.prog 9 unitElem w.heap.size 0 (M.SS []) /\ Below w.heap.size w w' := by
  have hmm := @run_makeMap Tryz.prog
  go_enter Tryz.func210, Tryz.ntmps210
  go_wp2
  go_loopw [5, 9] (fun _ i wr => i = .int .i64 0 /\ wr.ownsMap Tryz.prog 9 (unitElem (H := Unit)) w.heap.size 0 (M.SS []) /\ Below w.heap.size w wr) (fun _ _ _ => 0)
  case atStart => exact ⟨rfl, by have := M.SS_zero []; rw [List.take_nil] at this; rw [this]; exact World.ownsMap_made _ _ _ _, (Below.refl _ _).alloc (Nat.le_refl _) _⟩
  case round =>
    obtain ⟨rfl, hown, hnx⟩ := hrel
    go_wp2
    go_ret
    exact ⟨rfl, hown, hnx⟩
theorem twice_nil (c : Nat) (w : World) : Calls Tryz.prog 202 #[.slice none 0 c] w fun e w' => e = .returned (.bool (M.tw [])) /\ Below w.heap.size w w' := by
  go_enter Tryz.func202, Tryz.ntmps202
  go_wp2_with (first | (go_at_call 210; refine (set_nil c _).mono ?_; rintro e w1 ⟨rfl, hown, hb⟩) | (at_len; refine wpList_len_own _ rfl _ 187 rfl 9 193 Tryz.underlying187 (unitElem (H := Unit)) w.heap.size 0 (M.SS []) rfl hown ?_))
  go_ret
  exact ⟨M.ret_bool (by simp [M.tw]), hb⟩
theorem twice_is {ss : List ByteArray} {b : Bool} {n g c : Nat} (h : M.tw ss = b) (hn : ss.length = n) (hz : M.Short ss) (w : World) (hm : n <= 1000000) (hg : g < w.heap.size) (hh : Hid (M.Holds w g ss)) :
    Calls Tryz.prog 202 #[.slice (some ⟨g, 0, none⟩) n c] w fun e w' => e = .returned (.bool b) /\ Below w.heap.size w w' := by
  subst h hn; exact M.twice_any ss g c w (by omega) hz hg hh
def allB (k : Int) (l : List Fld) : Bool := decide (l.length <= 30) && (l.all (fok k) && !M.tw (l.map Fld.nm))
theorem all_no (k : Int) (l : List Fld) (j : Nat) (f : Fld) (h : l[j]? = some f) (hf : fok k f = false) : allB k l = false := by
  have : l.all (fok k) = false := by
    rw [List.all_eq_false]
    exact ⟨f, List.mem_of_getElem? h, by simp [hf]⟩
  rw [allB, this]; simp
theorem name_small {s : ByteArray} (h : M.nameB s = true) : s.size <= 20 := by
  cases hw : M.wholeB s with
  | true => exact (M.whole_parts hw).1
  | false => simp [M.nameB, hw] at h
theorem tag_small {s : ByteArray} (h : M.tagB s = true) : s.size <= 20 := by
  cases hw : M.wholeB s with
  | true => exact (M.whole_parts hw).1
  | false => simp [M.tagB, hw] at h
theorem fok_small {k : Int} {f : Fld} (h : fok k f = true) : f.nm.size <= 20 := by
  have hn : M.nameB f.nm = true ∨ M.tagB f.nm = true := by
    unfold fok at h
    split at h
    · simp only [Bool.and_eq_true] at h; exact .inl h.1
    · simp only [Bool.and_eq_true] at h; exact .inr h.1
  rcases hn with hn | hn
  · exact name_small hn
  · exact tag_small hn
theorem new_cellsT' (W : World) (t : TypeId) (l : List Value) (j : Nat) (u : Value) (h : l[j]? = some u) : (W.alloc (.cells l.toArray t)).cell? ⟨W.heap.size, j, none⟩ = some u := by
  have := new_cellsT W t l _ rfl j u h
  rw [Addr.add_lit, Nat.zero_add] at this
  exact this
theorem all_11 (l : List Fld) (L cp fb fo : Nat) (HL : Hid (l.length = L)) (hL0 : 0 < L) (hL : L <= 1000000) (w : World) (HK : Hid (Kws w.heap.size w)) (hfb : fb < w.heap.size) (HF : Hid (FldsAt w fb fo l)) (HSZ : Hid (∀ f ∈ l, f.nm.size <= 9223372036854775807 /\ f.vr.size <= 9223372036854775807)) :
    Calls Tryz.prog 186 #[.slice (some ⟨fb, fo, none⟩) L cp, .func (.func 185) #[] #[]] w fun e w' => e = .returned (.bool (allB 11 l)) /\ Below w.heap.size w w' := by
  obtain ⟨i0, hi, hz0, hz1, hz2⟩ := info_parts strInfo
  by_cases h30 : L <= 30
  · go_enter Tryz.func186, Tryz.ntmps186
    go_wp2
    go_loopw [5, 13] (fun v i wr => ∃ q : Nat, i = .int .i64 (q : Int) /\ q <= L /\ Hid (wr.ownsRow w.heap.size 9 1 v q ((l.take q).map (fun f => Value.string f.nm))) /\ Hid ((l.take q).all (fok 11) = true) /\ Hid (Below w.heap.size w wr)) (fun _ i _ => L - (intOf i).toNat)
    case atStart => exact ⟨0, rfl, by omega, Lib.hid (World.ownsRow_nil _ _ _ _), Lib.hid (by simp), Lib.hid (Below.refl _ _)⟩
    case round =>
      obtain ⟨q, rfl, hq, HI, HA, HB⟩ := hrel
      have hsz := HB.out.size
      have hsz2 : fb < wr.heap.size := by omega
      by_cases hlt : q < L
      · obtain ⟨fd, hfd⟩ : ∃ fd, l[q]? = some fd := ⟨_, List.getElem?_eq_getElem (by rw [HL.out]; exact hlt)⟩
        obtain ⟨m0, m1, m2⟩ := (HF.out.below HB.out hfb) q fd hfd
        have HS := Lib.hid (HSZ.out fd (List.mem_of_getElem? hfd))
        have HX := Lib.hid hfd
        have HKW : Hid (Kws w.heap.size (wr.alloc (.cells #[.string fd.nm, .string fd.vr, .int .i64 fd.pl] 97))) := Lib.hid (HK.out.on (HB.out.alloc HB.out.size _))
        clear hfd
        cases hN1 : fok 11 fd with
        | false =>
          have HN1 := Lib.hid hN1
          clear hN1
          go_wp2_with (first | (go_at_call 185; refine (fok_is 11 185 (by decide) fd false HN1.out HS.out _ HKW.out (by simp; omega)).mono ?_; rintro e w1 ⟨rfl, hb⟩; have HBB := Lib.hid hb; clear hb))
          go_ret
          exact ⟨ret_b (all_no 11 l q fd HX.out HN1.out).symm, HB.out.trans ((((Below.refl _ wr).alloc (Nat.le_refl _) _).trans (HBB.out.mono (by simp))).mono HB.out.size)⟩
        | true =>
          have HN1 := Lib.hid hN1
          have HT1 := Lib.hid (nm_take l q fd HX.out)
          have HA1 := Lib.hid (all_take (fok 11) l q fd HX.out HA.out hN1)
          clear hN1
          go_wp2_with (first | (go_at_call 185; refine (fok_is 11 185 (by decide) fd true HN1.out HS.out _ HKW.out (by simp; omega)).mono ?_; rintro e w1 ⟨rfl, hb⟩; have c0 := hb.cell (p := ⟨wr.heap.size, 0, none⟩) (by simp); rw [new_cellsT' wr 97 [.string fd.nm, .string fd.vr, .int .i64 fd.pl] 0 _ rfl] at c0; have hw1 := hb.size; rw [World.size_alloc] at hw1; have HBB := Lib.hid hb; clear hb; have HI1 := Lib.hid (((HI.out.alloc (.cells #[.string fd.nm, .string fd.vr, .int .i64 fd.pl] 97)).kept (grown_belowT HBB.out none) (Decidable.em _)))) | (at_builtin; refine wpList_append_own _ rfl _ _ 73 rfl w.heap.size 9 i0 (.string ⟨#[]⟩) 1 16 Tryz.underlying73 hi hz0 hz1 hz2 rfl (by decide) _ _ _ rfl (HI1.out.alloc _) ⟨w1.heap.size, 0, none⟩ 1 1 [.string fd.nm] rfl rfl (new1 w1 9 _) (fun u hu => by rw [List.mem_singleton.1 hu]; rfl) (by unfold maxLen; omega) (by omega) (by simp; omega) ?_; intro v' w2 hown' hgrow _; obtain ⟨g', cap', rfl⟩ := ownsRow_succ hown'; have HO := Lib.hid hown'; have HG := Lib.hid hgrow; clear hown' hgrow))
          trace_state
          go_roundw
          case rel =>
            refine ⟨q + 1, by go_num, by omega, Lib.hid (by rw [HT1.out]; exact HO.out), HA1, Lib.hid ?_⟩
            exact ((((HB.out.alloc (by omega) _).trans (HBB.out.mono (by simp; omega))).alloc (by omega) _).grown HG.out (by simp; omega) (fun k hk => (HI.out.lt k hk).1))
          case measure => simp [intOf]; omega
      · obtain rfl : q = L := by omega
        have hall : l.all (fok 11) = true := by have := HA.out; rwa [List.take_of_length_le (by have := HL.out; omega)] at this
        have hrow := HI.out
        rw [List.take_of_length_le (by have := HL.out; omega)] at hrow
        obtain ⟨q', hq'⟩ : ∃ q', q = q' + 1 := ⟨q - 1, by omega⟩
        have hrow2 := hrow
        rw [hq'] at hrow2
        obtain ⟨g, c', hv⟩ := ownsRow_succ hrow2
        rw [<- hq'] at hv
        subst hv
        have hgl := (hrow.lt g (by rfl)).2
        have HH := Lib.hid (holds_of hrow)
        have HSH : Hid (M.Short (l.map Fld.nm)) := Lib.hid (fun s hs => by
          obtain ⟨f, hf, rfl⟩ := List.mem_map.1 hs
          have := fok_small (List.all_eq_true.1 hall f hf)
          unfold maxLen; omega)
        obtain ⟨t, htw⟩ : ∃ t, M.tw (l.map Fld.nm) = t := ⟨_, rfl⟩
        have HT := Lib.hid htw
        have HLM : Hid ((l.map Fld.nm).length = q) := Lib.hid (by rw [List.length_map]; exact HL.out)
        have HR : Hid (allB 11 l = !t) := Lib.hid (by rw [allB, hall, htw, HL.out]; simp [h30])
        clear hall htw hrow hrow2 hq'
        cases t
        all_goals
          go_wp2_with (go_at_call 202; refine (twice_is HT.out HLM.out HSH.out _ (by omega) hgl HH).mono ?_; rintro e w1 ⟨rfl, hb⟩; have HBB := Lib.hid hb; clear hb)
          go_ret
          exact ⟨ret_b HR.out.symm, HB.out.trans (HBB.out.mono HB.out.size)⟩
  · have HR : Hid (allB 11 l = false) := Lib.hid (by rw [allB, HL.out]; simp [h30])
    go_enter Tryz.func186, Tryz.ntmps186
    go_wp2
    go_ret
    exact ⟨ret_b HR.out.symm, Below.refl _ _⟩
theorem all_14 (l : List Fld) (L cp fb fo : Nat) (HL : Hid (l.length = L)) (hL0 : 0 < L) (hL : L <= 1000000) (w : World) (HK : Hid (Kws w.heap.size w)) (hfb : fb < w.heap.size) (HF : Hid (FldsAt w fb fo l)) (HSZ : Hid (∀ f ∈ l, f.nm.size <= 9223372036854775807 /\ f.vr.size <= 9223372036854775807)) :
    Calls Tryz.prog 186 #[.slice (some ⟨fb, fo, none⟩) L cp, .func (.func 187) #[] #[]] w fun e w' => e = .returned (.bool (allB 14 l)) /\ Below w.heap.size w w' := by
  obtain ⟨i0, hi, hz0, hz1, hz2⟩ := info_parts strInfo
  by_cases h30 : L <= 30
  · go_enter Tryz.func186, Tryz.ntmps186
    go_wp2
    go_loopw [5, 13] (fun v i wr => ∃ q : Nat, i = .int .i64 (q : Int) /\ q <= L /\ Hid (wr.ownsRow w.heap.size 9 1 v q ((l.take q).map (fun f => Value.string f.nm))) /\ Hid ((l.take q).all (fok 14) = true) /\ Hid (Below w.heap.size w wr)) (fun _ i _ => L - (intOf i).toNat)
    case atStart => exact ⟨0, rfl, by omega, Lib.hid (World.ownsRow_nil _ _ _ _), Lib.hid (by simp), Lib.hid (Below.refl _ _)⟩
    case round =>
      obtain ⟨q, rfl, hq, HI, HA, HB⟩ := hrel
      have hsz := HB.out.size
      have hsz2 : fb < wr.heap.size := by omega
      by_cases hlt : q < L
      · obtain ⟨fd, hfd⟩ : ∃ fd, l[q]? = some fd := ⟨_, List.getElem?_eq_getElem (by rw [HL.out]; exact hlt)⟩
        obtain ⟨m0, m1, m2⟩ := (HF.out.below HB.out hfb) q fd hfd
        have HS := Lib.hid (HSZ.out fd (List.mem_of_getElem? hfd))
        have HX := Lib.hid hfd
        have HKW : Hid (Kws w.heap.size (wr.alloc (.cells #[.string fd.nm, .string fd.vr, .int .i64 fd.pl] 97))) := Lib.hid (HK.out.on (HB.out.alloc HB.out.size _))
        clear hfd
        cases hN1 : fok 14 fd with
        | false =>
          have HN1 := Lib.hid hN1
          clear hN1
          go_wp2_with (first | (go_at_call 187; refine (fok_is 14 187 (by decide) fd false HN1.out HS.out _ HKW.out (by simp; omega)).mono ?_; rintro e w1 ⟨rfl, hb⟩; have HBB := Lib.hid hb; clear hb))
          go_ret
          exact ⟨ret_b (all_no 14 l q fd HX.out HN1.out).symm, HB.out.trans ((((Below.refl _ wr).alloc (Nat.le_refl _) _).trans (HBB.out.mono (by simp))).mono HB.out.size)⟩
        | true =>
          have HN1 := Lib.hid hN1
          have HT1 := Lib.hid (nm_take l q fd HX.out)
          have HA1 := Lib.hid (all_take (fok 14) l q fd HX.out HA.out hN1)
          clear hN1
          go_wp2_with (first | (go_at_call 187; refine (fok_is 14 187 (by decide) fd true HN1.out HS.out _ HKW.out (by simp; omega)).mono ?_; rintro e w1 ⟨rfl, hb⟩; have c0 := hb.cell (p := ⟨wr.heap.size, 0, none⟩) (by simp); rw [new_cellsT' wr 97 [.string fd.nm, .string fd.vr, .int .i64 fd.pl] 0 _ rfl] at c0; have hw1 := hb.size; rw [World.size_alloc] at hw1; have HBB := Lib.hid hb; clear hb; have HI1 := Lib.hid (((HI.out.alloc (.cells #[.string fd.nm, .string fd.vr, .int .i64 fd.pl] 97)).kept (grown_belowT HBB.out none) (Decidable.em _)))) | (at_builtin; refine wpList_append_own _ rfl _ _ 73 rfl w.heap.size 9 i0 (.string ⟨#[]⟩) 1 16 Tryz.underlying73 hi hz0 hz1 hz2 rfl (by decide) _ _ _ rfl (HI1.out.alloc _) ⟨w1.heap.size, 0, none⟩ 1 1 [.string fd.nm] rfl rfl (new1 w1 9 _) (fun u hu => by rw [List.mem_singleton.1 hu]; rfl) (by unfold maxLen; omega) (by omega) (by simp; omega) ?_; intro v' w2 hown' hgrow _; obtain ⟨g', cap', rfl⟩ := ownsRow_succ hown'; have HO := Lib.hid hown'; have HG := Lib.hid hgrow; clear hown' hgrow))
          trace_state
          go_roundw
          case rel =>
            refine ⟨q + 1, by go_num, by omega, Lib.hid (by rw [HT1.out]; exact HO.out), HA1, Lib.hid ?_⟩
            exact ((((HB.out.alloc (by omega) _).trans (HBB.out.mono (by simp; omega))).alloc (by omega) _).grown HG.out (by simp; omega) (fun k hk => (HI.out.lt k hk).1))
          case measure => simp [intOf]; omega
      · obtain rfl : q = L := by omega
        have hall : l.all (fok 14) = true := by have := HA.out; rwa [List.take_of_length_le (by have := HL.out; omega)] at this
        have hrow := HI.out
        rw [List.take_of_length_le (by have := HL.out; omega)] at hrow
        obtain ⟨q', hq'⟩ : ∃ q', q = q' + 1 := ⟨q - 1, by omega⟩
        have hrow2 := hrow
        rw [hq'] at hrow2
        obtain ⟨g, c', hv⟩ := ownsRow_succ hrow2
        rw [<- hq'] at hv
        subst hv
        have hgl := (hrow.lt g (by rfl)).2
        have HH := Lib.hid (holds_of hrow)
        have HSH : Hid (M.Short (l.map Fld.nm)) := Lib.hid (fun s hs => by
          obtain ⟨f, hf, rfl⟩ := List.mem_map.1 hs
          have := fok_small (List.all_eq_true.1 hall f hf)
          unfold maxLen; omega)
        obtain ⟨t, htw⟩ : ∃ t, M.tw (l.map Fld.nm) = t := ⟨_, rfl⟩
        have HT := Lib.hid htw
        have HLM : Hid ((l.map Fld.nm).length = q) := Lib.hid (by rw [List.length_map]; exact HL.out)
        have HR : Hid (allB 14 l = !t) := Lib.hid (by rw [allB, hall, htw, HL.out]; simp [h30])
        clear hall htw hrow hrow2 hq'
        cases t
        all_goals
          go_wp2_with (go_at_call 202; refine (twice_is HT.out HLM.out HSH.out _ (by omega) hgl HH).mono ?_; rintro e w1 ⟨rfl, hb⟩; have HBB := Lib.hid hb; clear hb)
          go_ret
          exact ⟨ret_b HR.out.symm, HB.out.trans (HBB.out.mono HB.out.size)⟩
  · have HR : Hid (allB 14 l = false) := Lib.hid (by rw [allB, HL.out]; simp [h30])
    go_enter Tryz.func186, Tryz.ntmps186
    go_wp2
    go_ret
    exact ⟨ret_b HR.out.symm, Below.refl _ _⟩
theorem all_nil (k : Int) (fn : Value) (A : Option Addr) (cp : Nat) (w : World) : Calls Tryz.prog 186 #[.slice A 0 cp, fn] w fun e w' => e = .returned (.bool (allB k [])) /\ Below w.heap.size w w' := by
  go_enter Tryz.func186, Tryz.ntmps186
  go_wp2
  go_loop [5, 13] (fun v i => v = .slice none 0 0 /\ i = .int .i64 0) (fun _ _ => 0)
  case atStart => exact ⟨rfl, rfl⟩
  case round =>
    obtain ⟨rfl, rfl⟩ := hrel
    go_wp2_with (go_at_call 202; refine (twice_nil 0 _).mono ?_; rintro e w1 ⟨rfl, hb⟩; have HBB := Lib.hid hb; clear hb)
    go_ret
    exact ⟨rfl, HBB.out⟩
theorem parts_any (l : List Fld) (v : Value) (w : World) (hK : Kws w.heap.size w) (hv : Flds w.heap.size w v l) (hL : l.length <= 1000000) (HSZ : ∀ f ∈ l, f.nm.size <= 9223372036854775807 /\ f.vr.size <= 9223372036854775807) :
    Calls Tryz.prog 164 #[v] w fun e w' => e = .returned (.bool (allB 11 l)) /\ Below w.heap.size w w' := by
  have HC : Hid (Calls Tryz.prog 186 #[v, .func (.func 185) #[] #[]] w fun e w' => e = .returned (.bool (allB 11 l)) /\ Below w.heap.size w w') := by
    obtain ⟨A, cp, rfl, _, _, hq⟩ := hv
    by_cases h0 : 0 < l.length
    · obtain ⟨fb, fo, rfl, hlt, hf⟩ := hq h0
      exact Lib.hid (all_11 l _ cp fb fo (Lib.hid rfl) h0 hL w (Lib.hid hK) hlt (Lib.hid hf) (Lib.hid HSZ))
    · obtain rfl : l = [] := List.eq_nil_of_length_eq_zero (by omega)
      exact Lib.hid (all_nil 11 _ A cp w)
  clear hv
  go_enter Tryz.func164, Tryz.ntmps164
  go_wp2_with (go_at_call 186; refine HC.out.mono ?_; rintro e w1 ⟨rfl, hb⟩)
  go_ret
  exact ⟨rfl, hb⟩
theorem branches_any (l : List Fld) (v : Value) (w : World) (hK : Kws w.heap.size w) (hv : Flds w.heap.size w v l) (hL : l.length <= 1000000) (HSZ : ∀ f ∈ l, f.nm.size <= 9223372036854775807 /\ f.vr.size <= 9223372036854775807) :
    Calls Tryz.prog 165 #[v] w fun e w' => e = .returned (.bool (decide (0 < l.length) && allB 14 l)) /\ Below w.heap.size w w' := by
  obtain ⟨A, cp, rfl, _, _, hq⟩ := hv
  by_cases h0 : 0 < l.length
  · obtain ⟨fb, fo, rfl, hlt, hf⟩ := hq h0
    have HC := Lib.hid (all_14 l _ cp fb fo (Lib.hid rfl) h0 hL w (Lib.hid hK) hlt (Lib.hid hf) (Lib.hid HSZ))
    have HE : Hid ((decide (0 < l.length) && allB 14 l) = allB 14 l) := Lib.hid (by simp [h0])
    rw [HE.out]
    have hq0 : decide ((0 : Int) < (l.length : Int)) = true := by simpa using h0
    clear hq hf
    go_enter Tryz.func165, Tryz.ntmps165
    go_wp2_with (go_at_call 186; refine HC.out.mono ?_; rintro e w1 ⟨rfl, hb⟩)
    go_ret
    exact ⟨rfl, hb⟩
  · obtain rfl : l = [] := List.eq_nil_of_length_eq_zero (by omega)
    go_enter Tryz.func165, Tryz.ntmps165
    go_wp2
    go_ret
    exact ⟨rfl, Below.refl _ _⟩
open Go.RowKit
def zeros (l : List Int) : Bool := l.all (fun z => z == 0)
def emptyB (m : Nat) (a b c : Int) (b1 b2 b3 b4 : Bool) : Bool := zeros ([a, b, c].drop m) && (b1 && (b2 && (b3 && b4)))
theorem zeros_take (l : List Int) (k : Nat) (z : Int) (h : l[k]? = some z) (ha : zeros (l.take k) = true) (hf : z = 0) : zeros (l.take (k + 1)) = true := by
  have hk : k < l.length := (List.getElem?_eq_some_iff.1 h).1
  unfold zeros at ha ⊢
  rw [List.take_succ_eq_append_getElem hk, List.all_append, ha]
  have : l[k] = z := (List.getElem?_eq_some_iff.1 h).2
  simp [this, hf]
theorem zeros_no (l : List Int) (k : Nat) (z : Int) (h : l[k]? = some z) (hf : ¬ z = 0) : zeros l = false := by
  unfold zeros
  rw [List.all_eq_false]
  exact ⟨z, List.mem_of_getElem? h, by simpa using hf⟩
theorem strEq {s : ByteArray} {b : Bool} (h : s.toList.isEmpty = b) : (s.toList == []) = b := by rw [<- h]; cases s.toList <;> rfl
theorem empty_0 (k a b c n pos : Int) (nm s : ByteArray) (A : Option Addr) (L cp : Nat) (HO : Hid (ownN k = 0)) (b1 b2 b3 b4 : Bool) (h1 : (n == 0) = b1) (h2 : nm.toList.isEmpty = b2) (h3 : s.toList.isEmpty = b3) (h4 : (L == 0) = b4) (w : World) :
    Calls Tryz.prog 139 #[.agg #[.int .i64 k, .int .i64 a, .int .i64 b, .int .i64 c, .int .i64 n, .string nm, .string s, .slice A L cp, .int .i64 pos]] w fun e w' => e = .returned (.bool (emptyB 0 a b c b1 b2 b3 b4)) /\ Below w.heap.size w w' := by
  have h2' := strEq h2
  have h3' := strEq h3
  have h4' : ((L : Int) == 0) = b4 := by rw [<- h4]; rcases Nat.eq_zero_or_pos L with rfl | h; rfl; rw [show (L == 0) = false by simpa using (by omega : ¬ L = 0)]; simpa using (by omega : ¬ L = 0)
  go_enter Tryz.func139, Tryz.ntmps139
  go_wp2_with (go_at_call 103; refine (ownKids_is HO.out _).mono ?_; rintro e w1 ⟨rfl, rfl⟩)
  obtain ⟨w1, hw1⟩ : ∃ w1, w.alloc (.cells #[.int .i64 k, .int .i64 a, .int .i64 b, .int .i64 c, .int .i64 n, .string nm, .string s, .slice A L cp, .int .i64 pos] 37) = w1 := ⟨_, rfl⟩
  have hs1 : w1.heap.size = w.heap.size + 1 := by rw [<- hw1, World.size_alloc]
  have HC : Hid (∀ (q : Nat) (z : Int), ([a, b, c].drop 0)[q]? = some z -> ((w.alloc (.cells #[.int .i64 k, .int .i64 a, .int .i64 b, .int .i64 c, .int .i64 n, .string nm, .string s, .slice A L cp, .int .i64 pos] 37)).alloc (.cells #[.int .i64 a, .int .i64 b, .int .i64 c] 115)).cell? ⟨w.heap.size + 1, q, none⟩ = some (.int .i64 z)) := Lib.hid (fun q z hz => by
    rw [List.getElem?_drop] at hz
    rw [hw1, <- hs1]
    have h := new_cellsT' w1 115 (([a, b, c] : List Int).map (Value.int .i64)) (0 + q) (.int .i64 z) (by rw [List.getElem?_map, hz]; rfl)
    simpa using h)
  have HBL : Hid (Below w.heap.size w ((w.alloc (.cells #[.int .i64 k, .int .i64 a, .int .i64 b, .int .i64 c, .int .i64 n, .string nm, .string s, .slice A L cp, .int .i64 pos] 37)).alloc (.cells #[.int .i64 a, .int .i64 b, .int .i64 c] 115))) := Lib.hid (((Below.refl _ w).alloc (Nat.le_refl _) _).alloc (by simp) _)
  clear hw1 hs1
  go_loop [18] (fun i => ∃ q : Nat, i = .int .i64 (q : Int) /\ q <= 3 /\ Hid (zeros (([a, b, c].drop 0).take q) = true)) (fun i => 3 - (intOf i).toNat)
  case atStart => exact ⟨0, rfl, by omega, Lib.hid rfl⟩
  case round =>
    obtain ⟨q, rfl, hq, HA⟩ := hrel
    by_cases hlt : q < 3
    · obtain ⟨z, hz⟩ : ∃ z, ([a, b, c].drop 0)[q]? = some z := ⟨_, List.getElem?_eq_getElem (by simp; omega)⟩
      have hcz := HC.out q z hz
      have HZZ := Lib.hid hz
      clear hz
      by_cases hz0 : z = 0
      · have HN := Lib.hid (zeros_take _ q z HZZ.out HA.out hz0)
        subst hz0
        go_wp2
        go_round
        case rel => exact ⟨q + 1, by go_num, by omega, HN⟩
        case measure => simp [intOf]; omega
      · have HN := Lib.hid (zeros_no _ q z HZZ.out hz0)
        have hzb : (z == 0) = false := by simpa using hz0
        go_wp2
        go_ret
        exact ⟨ret_b (by rw [emptyB, HN.out]; rfl), HBL.out⟩
    · obtain rfl : q = 3 := by omega
      have HZ : Hid (zeros ([a, b, c].drop 0) = true) := Lib.hid (by have := HA.out; rwa [List.take_of_length_le (by simp)] at this)
      cases b1 with
      | false =>
        go_wp2
        go_ret
        exact ⟨ret_b (by rw [emptyB, HZ.out]; simp), HBL.out⟩
      | true =>
          cases b2 with
          | false =>
            go_wp2
            go_ret
            exact ⟨ret_b (by rw [emptyB, HZ.out]; simp), HBL.out⟩
          | true =>
              cases b3 with
              | false =>
                go_wp2
                go_ret
                exact ⟨ret_b (by rw [emptyB, HZ.out]; simp), HBL.out⟩
              | true =>
                  cases b4 with
                  | false =>
                    go_wp2
                    go_ret
                    exact ⟨ret_b (by rw [emptyB, HZ.out]; simp), HBL.out⟩
                  | true =>
                      go_wp2
                      go_ret
                      exact ⟨ret_b (by rw [emptyB, HZ.out]; rfl), HBL.out⟩
theorem empty_1 (k a b c n pos : Int) (nm s : ByteArray) (A : Option Addr) (L cp : Nat) (HO : Hid (ownN k = 1)) (b1 b2 b3 b4 : Bool) (h1 : (n == 0) = b1) (h2 : nm.toList.isEmpty = b2) (h3 : s.toList.isEmpty = b3) (h4 : (L == 0) = b4) (w : World) :
    Calls Tryz.prog 139 #[.agg #[.int .i64 k, .int .i64 a, .int .i64 b, .int .i64 c, .int .i64 n, .string nm, .string s, .slice A L cp, .int .i64 pos]] w fun e w' => e = .returned (.bool (emptyB 1 a b c b1 b2 b3 b4)) /\ Below w.heap.size w w' := by
  have h2' := strEq h2
  have h3' := strEq h3
  have h4' : ((L : Int) == 0) = b4 := by rw [<- h4]; rcases Nat.eq_zero_or_pos L with rfl | h; rfl; rw [show (L == 0) = false by simpa using (by omega : ¬ L = 0)]; simpa using (by omega : ¬ L = 0)
  go_enter Tryz.func139, Tryz.ntmps139
  go_wp2_with (go_at_call 103; refine (ownKids_is HO.out _).mono ?_; rintro e w1 ⟨rfl, rfl⟩)
  obtain ⟨w1, hw1⟩ : ∃ w1, w.alloc (.cells #[.int .i64 k, .int .i64 a, .int .i64 b, .int .i64 c, .int .i64 n, .string nm, .string s, .slice A L cp, .int .i64 pos] 37) = w1 := ⟨_, rfl⟩
  have hs1 : w1.heap.size = w.heap.size + 1 := by rw [<- hw1, World.size_alloc]
  have HC : Hid (∀ (q : Nat) (z : Int), ([a, b, c].drop 1)[q]? = some z -> ((w.alloc (.cells #[.int .i64 k, .int .i64 a, .int .i64 b, .int .i64 c, .int .i64 n, .string nm, .string s, .slice A L cp, .int .i64 pos] 37)).alloc (.cells #[.int .i64 a, .int .i64 b, .int .i64 c] 115)).cell? ⟨w.heap.size + 1, 1 + q, none⟩ = some (.int .i64 z)) := Lib.hid (fun q z hz => by
    rw [List.getElem?_drop] at hz
    rw [hw1, <- hs1]
    have h := new_cellsT' w1 115 (([a, b, c] : List Int).map (Value.int .i64)) (1 + q) (.int .i64 z) (by rw [List.getElem?_map, hz]; rfl)
    simpa using h)
  have HBL : Hid (Below w.heap.size w ((w.alloc (.cells #[.int .i64 k, .int .i64 a, .int .i64 b, .int .i64 c, .int .i64 n, .string nm, .string s, .slice A L cp, .int .i64 pos] 37)).alloc (.cells #[.int .i64 a, .int .i64 b, .int .i64 c] 115))) := Lib.hid (((Below.refl _ w).alloc (Nat.le_refl _) _).alloc (by simp) _)
  clear hw1 hs1
  go_loop [18] (fun i => ∃ q : Nat, i = .int .i64 (q : Int) /\ q <= 2 /\ Hid (zeros (([a, b, c].drop 1).take q) = true)) (fun i => 2 - (intOf i).toNat)
  case atStart => exact ⟨0, rfl, by omega, Lib.hid rfl⟩
  case round =>
    obtain ⟨q, rfl, hq, HA⟩ := hrel
    by_cases hlt : q < 2
    · obtain ⟨z, hz⟩ : ∃ z, ([a, b, c].drop 1)[q]? = some z := ⟨_, List.getElem?_eq_getElem (by simp; omega)⟩
      have hcz := HC.out q z hz
      have HZZ := Lib.hid hz
      clear hz
      by_cases hz0 : z = 0
      · have HN := Lib.hid (zeros_take _ q z HZZ.out HA.out hz0)
        subst hz0
        go_wp2
        go_round
        case rel => exact ⟨q + 1, by go_num, by omega, HN⟩
        case measure => simp [intOf]; omega
      · have HN := Lib.hid (zeros_no _ q z HZZ.out hz0)
        have hzb : (z == 0) = false := by simpa using hz0
        go_wp2
        go_ret
        exact ⟨ret_b (by rw [emptyB, HN.out]; rfl), HBL.out⟩
    · obtain rfl : q = 2 := by omega
      have HZ : Hid (zeros ([a, b, c].drop 1) = true) := Lib.hid (by have := HA.out; rwa [List.take_of_length_le (by simp)] at this)
      cases b1 with
      | false =>
        go_wp2
        go_ret
        exact ⟨ret_b (by rw [emptyB, HZ.out]; simp), HBL.out⟩
      | true =>
          cases b2 with
          | false =>
            go_wp2
            go_ret
            exact ⟨ret_b (by rw [emptyB, HZ.out]; simp), HBL.out⟩
          | true =>
              cases b3 with
              | false =>
                go_wp2
                go_ret
                exact ⟨ret_b (by rw [emptyB, HZ.out]; simp), HBL.out⟩
              | true =>
                  cases b4 with
                  | false =>
                    go_wp2
                    go_ret
                    exact ⟨ret_b (by rw [emptyB, HZ.out]; simp), HBL.out⟩
                  | true =>
                      go_wp2
                      go_ret
                      exact ⟨ret_b (by rw [emptyB, HZ.out]; rfl), HBL.out⟩
theorem empty_2 (k a b c n pos : Int) (nm s : ByteArray) (A : Option Addr) (L cp : Nat) (HO : Hid (ownN k = 2)) (b1 b2 b3 b4 : Bool) (h1 : (n == 0) = b1) (h2 : nm.toList.isEmpty = b2) (h3 : s.toList.isEmpty = b3) (h4 : (L == 0) = b4) (w : World) :
    Calls Tryz.prog 139 #[.agg #[.int .i64 k, .int .i64 a, .int .i64 b, .int .i64 c, .int .i64 n, .string nm, .string s, .slice A L cp, .int .i64 pos]] w fun e w' => e = .returned (.bool (emptyB 2 a b c b1 b2 b3 b4)) /\ Below w.heap.size w w' := by
  have h2' := strEq h2
  have h3' := strEq h3
  have h4' : ((L : Int) == 0) = b4 := by rw [<- h4]; rcases Nat.eq_zero_or_pos L with rfl | h; rfl; rw [show (L == 0) = false by simpa using (by omega : ¬ L = 0)]; simpa using (by omega : ¬ L = 0)
  go_enter Tryz.func139, Tryz.ntmps139
  go_wp2_with (go_at_call 103; refine (ownKids_is HO.out _).mono ?_; rintro e w1 ⟨rfl, rfl⟩)
  obtain ⟨w1, hw1⟩ : ∃ w1, w.alloc (.cells #[.int .i64 k, .int .i64 a, .int .i64 b, .int .i64 c, .int .i64 n, .string nm, .string s, .slice A L cp, .int .i64 pos] 37) = w1 := ⟨_, rfl⟩
  have hs1 : w1.heap.size = w.heap.size + 1 := by rw [<- hw1, World.size_alloc]
  have HC : Hid (∀ (q : Nat) (z : Int), ([a, b, c].drop 2)[q]? = some z -> ((w.alloc (.cells #[.int .i64 k, .int .i64 a, .int .i64 b, .int .i64 c, .int .i64 n, .string nm, .string s, .slice A L cp, .int .i64 pos] 37)).alloc (.cells #[.int .i64 a, .int .i64 b, .int .i64 c] 115)).cell? ⟨w.heap.size + 1, 2 + q, none⟩ = some (.int .i64 z)) := Lib.hid (fun q z hz => by
    rw [List.getElem?_drop] at hz
    rw [hw1, <- hs1]
    have h := new_cellsT' w1 115 (([a, b, c] : List Int).map (Value.int .i64)) (2 + q) (.int .i64 z) (by rw [List.getElem?_map, hz]; rfl)
    simpa using h)
  have HBL : Hid (Below w.heap.size w ((w.alloc (.cells #[.int .i64 k, .int .i64 a, .int .i64 b, .int .i64 c, .int .i64 n, .string nm, .string s, .slice A L cp, .int .i64 pos] 37)).alloc (.cells #[.int .i64 a, .int .i64 b, .int .i64 c] 115))) := Lib.hid (((Below.refl _ w).alloc (Nat.le_refl _) _).alloc (by simp) _)
  clear hw1 hs1
  go_loop [18] (fun i => ∃ q : Nat, i = .int .i64 (q : Int) /\ q <= 1 /\ Hid (zeros (([a, b, c].drop 2).take q) = true)) (fun i => 1 - (intOf i).toNat)
  case atStart => exact ⟨0, rfl, by omega, Lib.hid rfl⟩
  case round =>
    obtain ⟨q, rfl, hq, HA⟩ := hrel
    by_cases hlt : q < 1
    · obtain ⟨z, hz⟩ : ∃ z, ([a, b, c].drop 2)[q]? = some z := ⟨_, List.getElem?_eq_getElem (by simp; omega)⟩
      have hcz := HC.out q z hz
      have HZZ := Lib.hid hz
      clear hz
      by_cases hz0 : z = 0
      · have HN := Lib.hid (zeros_take _ q z HZZ.out HA.out hz0)
        subst hz0
        go_wp2
        go_round
        case rel => exact ⟨q + 1, by go_num, by omega, HN⟩
        case measure => simp [intOf]; omega
      · have HN := Lib.hid (zeros_no _ q z HZZ.out hz0)
        have hzb : (z == 0) = false := by simpa using hz0
        go_wp2
        go_ret
        exact ⟨ret_b (by rw [emptyB, HN.out]; rfl), HBL.out⟩
    · obtain rfl : q = 1 := by omega
      have HZ : Hid (zeros ([a, b, c].drop 2) = true) := Lib.hid (by have := HA.out; rwa [List.take_of_length_le (by simp)] at this)
      cases b1 with
      | false =>
        go_wp2
        go_ret
        exact ⟨ret_b (by rw [emptyB, HZ.out]; simp), HBL.out⟩
      | true =>
          cases b2 with
          | false =>
            go_wp2
            go_ret
            exact ⟨ret_b (by rw [emptyB, HZ.out]; simp), HBL.out⟩
          | true =>
              cases b3 with
              | false =>
                go_wp2
                go_ret
                exact ⟨ret_b (by rw [emptyB, HZ.out]; simp), HBL.out⟩
              | true =>
                  cases b4 with
                  | false =>
                    go_wp2
                    go_ret
                    exact ⟨ret_b (by rw [emptyB, HZ.out]; simp), HBL.out⟩
                  | true =>
                      go_wp2
                      go_ret
                      exact ⟨ret_b (by rw [emptyB, HZ.out]; rfl), HBL.out⟩
theorem empty_3 (k a b c n pos : Int) (nm s : ByteArray) (A : Option Addr) (L cp : Nat) (HO : Hid (ownN k = 3)) (b1 b2 b3 b4 : Bool) (h1 : (n == 0) = b1) (h2 : nm.toList.isEmpty = b2) (h3 : s.toList.isEmpty = b3) (h4 : (L == 0) = b4) (w : World) :
    Calls Tryz.prog 139 #[.agg #[.int .i64 k, .int .i64 a, .int .i64 b, .int .i64 c, .int .i64 n, .string nm, .string s, .slice A L cp, .int .i64 pos]] w fun e w' => e = .returned (.bool (emptyB 3 a b c b1 b2 b3 b4)) /\ Below w.heap.size w w' := by
  have h2' := strEq h2
  have h3' := strEq h3
  have h4' : ((L : Int) == 0) = b4 := by rw [<- h4]; rcases Nat.eq_zero_or_pos L with rfl | h; rfl; rw [show (L == 0) = false by simpa using (by omega : ¬ L = 0)]; simpa using (by omega : ¬ L = 0)
  go_enter Tryz.func139, Tryz.ntmps139
  go_wp2_with (go_at_call 103; refine (ownKids_is HO.out _).mono ?_; rintro e w1 ⟨rfl, rfl⟩)
  obtain ⟨w1, hw1⟩ : ∃ w1, w.alloc (.cells #[.int .i64 k, .int .i64 a, .int .i64 b, .int .i64 c, .int .i64 n, .string nm, .string s, .slice A L cp, .int .i64 pos] 37) = w1 := ⟨_, rfl⟩
  have hs1 : w1.heap.size = w.heap.size + 1 := by rw [<- hw1, World.size_alloc]
  have HC : Hid (∀ (q : Nat) (z : Int), ([a, b, c].drop 3)[q]? = some z -> ((w.alloc (.cells #[.int .i64 k, .int .i64 a, .int .i64 b, .int .i64 c, .int .i64 n, .string nm, .string s, .slice A L cp, .int .i64 pos] 37)).alloc (.cells #[.int .i64 a, .int .i64 b, .int .i64 c] 115)).cell? ⟨w.heap.size + 1, 3 + q, none⟩ = some (.int .i64 z)) := Lib.hid (fun q z hz => by
    rw [List.getElem?_drop] at hz
    rw [hw1, <- hs1]
    have h := new_cellsT' w1 115 (([a, b, c] : List Int).map (Value.int .i64)) (3 + q) (.int .i64 z) (by rw [List.getElem?_map, hz]; rfl)
    simp at h)
  have HBL : Hid (Below w.heap.size w ((w.alloc (.cells #[.int .i64 k, .int .i64 a, .int .i64 b, .int .i64 c, .int .i64 n, .string nm, .string s, .slice A L cp, .int .i64 pos] 37)).alloc (.cells #[.int .i64 a, .int .i64 b, .int .i64 c] 115))) := Lib.hid (((Below.refl _ w).alloc (Nat.le_refl _) _).alloc (by simp) _)
  clear hw1 hs1
  go_loop [18] (fun i => ∃ q : Nat, i = .int .i64 (q : Int) /\ q <= 0 /\ Hid (zeros (([a, b, c].drop 3).take q) = true)) (fun i => 0 - (intOf i).toNat)
  case atStart => exact ⟨0, rfl, by omega, Lib.hid rfl⟩
  case round =>
    obtain ⟨q, rfl, hq, HA⟩ := hrel
    by_cases hlt : q < 0
    · exact absurd hlt (by omega)
    · obtain rfl : q = 0 := by omega
      have HZ : Hid (zeros ([a, b, c].drop 3) = true) := Lib.hid (by have := HA.out; rwa [List.take_of_length_le (by simp)] at this)
      cases b1 with
      | false =>
        go_wp2
        go_ret
        exact ⟨ret_b (by rw [emptyB, HZ.out]; simp), HBL.out⟩
      | true =>
          cases b2 with
          | false =>
            go_wp2
            go_ret
            exact ⟨ret_b (by rw [emptyB, HZ.out]; simp), HBL.out⟩
          | true =>
              cases b3 with
              | false =>
                go_wp2
                go_ret
                exact ⟨ret_b (by rw [emptyB, HZ.out]; simp), HBL.out⟩
              | true =>
                  cases b4 with
                  | false =>
                    go_wp2
                    go_ret
                    exact ⟨ret_b (by rw [emptyB, HZ.out]; simp), HBL.out⟩
                  | true =>
                      go_wp2
                      go_ret
                      exact ⟨ret_b (by rw [emptyB, HZ.out]; rfl), HBL.out⟩
theorem empty_any (x : Nd) (vl : Value) (w : World) (hv : Flds w.heap.size w vl x.l) :
    Calls Tryz.prog 139 #[.agg (ndArr x vl)] w fun e w' => e = .returned (.bool (emptyB (ownN x.kind) x.a x.b x.c (x.n == 0) x.nm.toList.isEmpty x.s.toList.isEmpty (x.l.length == 0))) /\ Below w.heap.size w w' := by
  obtain ⟨A, cp, rfl, _⟩ := hv
  obtain ⟨k, a, b, c, n, nm, s, l, pos⟩ := x
  unfold ndArr
  have hle := ownN_le k
  simp only
  match hm : ownN k, hle with
  | 0, _ => exact empty_0 k a b c n pos nm s A l.length cp (Lib.hid hm) _ _ _ _ rfl rfl rfl rfl w
  | 1, _ => exact empty_1 k a b c n pos nm s A l.length cp (Lib.hid hm) _ _ _ _ rfl rfl rfl rfl w
  | 2, _ => exact empty_2 k a b c n pos nm s A l.length cp (Lib.hid hm) _ _ _ _ rfl rfl rfl rfl w
  | 3, _ => exact empty_3 k a b c n pos nm s A l.length cp (Lib.hid hm) _ _ _ _ rfl rfl rfl rfl w
  | m + 4, h => omega
open Go.RowKit
theorem blk_put {W : World} {b j t : Nat} {cs : Array Value} {v : Value} (h : W.heap[b]? = some (.cells cs t (0, 0))) : (W.setCell ⟨b, j, none⟩ v).heap[b]? = some (.cells (cs.setIfInBounds j v) t (0, 0)) := by
  obtain ⟨hlt, hk⟩ := Array.getElem?_eq_some_iff.1 h
  show (W.heap.modify b _)[b]? = _
  rw [Array.getElem?_eq_getElem (by rw [Array.size_modify]; exact hlt), Array.getElem_modify_self, hk]
  rfl
theorem chain9 {W : World} {b : Nat} {u v0 v1 v2 v3 v4 v5 v6 v7 v8 c0 c1 c2 c3 c4 c5 c6 c7 c8 : Value} (h : W.heap[b]? = some (.cells #[c0, c1, c2, c3, c4, c5, c6, c7, c8] 37 (0, 0))) :
    ((((((((((W.setCell ⟨b, 7, none⟩ u).setCell ⟨b, 0, none⟩ v0).setCell ⟨b, 1, none⟩ v1).setCell ⟨b, 2, none⟩ v2).setCell ⟨b, 3, none⟩ v3).setCell ⟨b, 4, none⟩ v4).setCell ⟨b, 5, none⟩ v5).setCell ⟨b, 6, none⟩ v6).setCell ⟨b, 7, none⟩ v7).setCell ⟨b, 8, none⟩ v8).heap[b]? = some (.cells #[v0, v1, v2, v3, v4, v5, v6, v7, v8] 37 (0, 0)) := by
  have h1 := blk_put (j := 7) (v := u) h
  have h2 := blk_put (j := 0) (v := v0) h1
  have h3 := blk_put (j := 1) (v := v1) h2
  have h4 := blk_put (j := 2) (v := v2) h3
  have h5 := blk_put (j := 3) (v := v3) h4
  have h6 := blk_put (j := 4) (v := v4) h5
  have h7 := blk_put (j := 5) (v := v5) h6
  have h8 := blk_put (j := 6) (v := v6) h7
  have h9 := blk_put (j := 7) (v := v7) h8
  have h10 := blk_put (j := 8) (v := v8) h9
  rw [h10]
  simp
theorem res64 (tmps : Array Value) (W : World) (p : Nat) (b : Bool) (v0 v1 v2 v3 v4 v5 v6 v7 v8 : Value) (h2 : tmps[2]?.getD undef = .pointer (some ⟨p, 0, none⟩)) (h3 : tmps[3]?.getD undef = .bool b) (hb : W.heap[p]? = some (.cells #[v0, v1, v2, v3, v4, v5, v6, v7, v8] 37 (0, 0))) :
    Sem.run Tryz.prog (results Tryz.f138 tmps) W = .ok (.tuple #[.agg #[v0, v1, v2, v3, v4, v5, v6, v7, v8], .bool b]) W := by
  have c0 := Blk_cell hb 0
  have c1 := Blk_cell hb 1
  have c2 := Blk_cell hb 2
  have c3 := Blk_cell hb 3
  have c4 := Blk_cell hb 4
  have c5 := Blk_cell hb 5
  have c6 := Blk_cell hb 6
  have c7 := Blk_cell hb 7
  have c8 := Blk_cell hb 8
  simp [results, Tryz.results138, go_sem, h2, h3, c0, c1, c2, c3, c4, c5, c6, c7, c8]
theorem below9 {B : Nat} {w W : World} {b : Nat} (h : Below B w W) (hb : B <= b) {u v0 v1 v2 v3 v4 v5 v6 v7 v8 : Value} :
    Below B w ((((((((((W.setCell ⟨b, 7, none⟩ u).setCell ⟨b, 0, none⟩ v0).setCell ⟨b, 1, none⟩ v1).setCell ⟨b, 2, none⟩ v2).setCell ⟨b, 3, none⟩ v3).setCell ⟨b, 4, none⟩ v4).setCell ⟨b, 5, none⟩ v5).setCell ⟨b, 6, none⟩ v6).setCell ⟨b, 7, none⟩ v7).setCell ⟨b, 8, none⟩ v8) :=
  (((((((((h.setCell (p := ⟨b, 7, none⟩) hb u).setCell (p := ⟨b, 0, none⟩) hb v0).setCell (p := ⟨b, 1, none⟩) hb v1).setCell (p := ⟨b, 2, none⟩) hb v2).setCell (p := ⟨b, 3, none⟩) hb v3).setCell (p := ⟨b, 4, none⟩) hb v4).setCell (p := ⟨b, 5, none⟩) hb v5).setCell (p := ⟨b, 6, none⟩) hb v6).setCell (p := ⟨b, 7, none⟩) hb v7).setCell (p := ⟨b, 8, none⟩) hb v8
theorem blk_second {w w1 : World} {o1 : Obj} {cs : Array Value} (hb : Below ((w.alloc o1).alloc (.cells cs 37)).heap.size ((w.alloc o1).alloc (.cells cs 37)) w1) : w1.heap[w.heap.size + 1]? = some (.cells cs 37) := by
  rw [hb.block (w.heap.size + 1) (by simp)]
  exact heap_new _ _ _ (by simp)
def UPost (cs : Array Value) (b : Bool) (w : World) (e : Ending) (w' : World) : Prop := e = .returned (.tuple #[.agg cs, .bool b]) /\ Below w.heap.size w w'
theorem unc_k (w : World) (k : Int) (a b c n pos : Int) (nm s : ByteArray) (A : Option Addr) (L cp : Nat) (q1 : (k == 1) = false) (q2 : (k == 2) = false) (q3 : (k == 3) = false) (q4 : (k == 4) = false) (q5 : (k == 5) = false) (q6 : (k == 6) = false) (q7 : (k == 7) = false) (q8 : (k == 8) = false) (q9 : (k == 9) = false) (q10 : (k == 10) = false) (q11 : (k == 11) = false) (q12 : (k == 12) = false) (q13 : (k == 13) = false) (q14 : (k == 14) = false) :
    Calls Tryz.prog 138 #[.agg #[.int .i64 k, .int .i64 a, .int .i64 b, .int .i64 c, .int .i64 n, .string nm, .string s, .slice A L cp, .int .i64 pos]] w (UPost #[.int .i64 k, .int .i64 a, .int .i64 b, .int .i64 c, .int .i64 n, .string nm, .string s, .slice A L cp, .int .i64 pos] false w) := by
  all_goals
    go_enter Tryz.func138, Tryz.ntmps138
    go_wp2
    all_goals exact bodyPost_ret (v := .tuple #[.agg #[.int .i64 k, .int .i64 a, .int .i64 b, .int .i64 c, .int .i64 n, .string nm, .string s, .slice A L cp, .int .i64 pos], .bool _]) (by simp [results, Tryz.results138, go_sem]) rfl ⟨rfl, (((Below.refl _ w).alloc (Nat.le_refl _) _).alloc (by simp) _)⟩
theorem unc_1 (w : World) (a b c n pos : Int) (nm s : ByteArray) (A : Option Addr) (L cp : Nat) :
    Calls Tryz.prog 138 #[.agg #[.int .i64 1, .int .i64 a, .int .i64 b, .int .i64 c, .int .i64 n, .string nm, .string s, .slice A L cp, .int .i64 pos]] w (UPost #[.int .i64 1, .int .i64 a, .int .i64 b, .int .i64 c, .int .i64 0, .string nm, .string s, .slice A L cp, .int .i64 pos] true w) := by
  all_goals
    go_enter Tryz.func138, Tryz.ntmps138
    go_wp2
    all_goals exact bodyPost_ret (v := .tuple #[.agg #[.int .i64 1, .int .i64 a, .int .i64 b, .int .i64 c, .int .i64 0, .string nm, .string s, .slice A L cp, .int .i64 pos], .bool _]) (by simp [results, Tryz.results138, go_sem]) rfl ⟨rfl, (((Below.refl _ w).alloc (Nat.le_refl _) _).alloc (by simp) _)⟩
theorem unc_2 (w : World) (a b c n pos : Int) (nm s : ByteArray) (A : Option Addr) (L cp : Nat) (b1 b2 : Bool) (h1 : (n == 0) = b1) (h2 : (n == 1) = b2) :
    Calls Tryz.prog 138 #[.agg #[.int .i64 2, .int .i64 a, .int .i64 b, .int .i64 c, .int .i64 n, .string nm, .string s, .slice A L cp, .int .i64 pos]] w (UPost #[.int .i64 2, .int .i64 a, .int .i64 b, .int .i64 c, .int .i64 0, .string nm, .string s, .slice A L cp, .int .i64 pos] (b1 || b2) w) := by
  cases b1 <;> cases b2
  all_goals
    go_enter Tryz.func138, Tryz.ntmps138
    go_wp2
    go_region
    all_goals go_wp2
    all_goals exact bodyPost_ret (v := .tuple #[.agg #[.int .i64 2, .int .i64 a, .int .i64 b, .int .i64 c, .int .i64 0, .string nm, .string s, .slice A L cp, .int .i64 pos], .bool _]) (by simp [results, Tryz.results138, go_sem]) rfl ⟨rfl, (((Below.refl _ w).alloc (Nat.le_refl _) _).alloc (by simp) _).drew⟩
theorem unc_3 (w : World) (a b c n pos : Int) (nm s : ByteArray) (A : Option Addr) (L cp : Nat) (b1 : Bool) (_hss : s.size <= 9223372036854775807) (h1 : decide ((s.size : Int) <= 200) = b1) :
    Calls Tryz.prog 138 #[.agg #[.int .i64 3, .int .i64 a, .int .i64 b, .int .i64 c, .int .i64 n, .string nm, .string s, .slice A L cp, .int .i64 pos]] w (UPost #[.int .i64 3, .int .i64 a, .int .i64 b, .int .i64 c, .int .i64 n, .string nm, .string ⟨#[]⟩, .slice A L cp, .int .i64 pos] b1 w) := by
  cases b1
  all_goals
    go_enter Tryz.func138, Tryz.ntmps138
    go_wp2
    go_region
    all_goals go_wp2
    all_goals exact bodyPost_ret (v := .tuple #[.agg #[.int .i64 3, .int .i64 a, .int .i64 b, .int .i64 c, .int .i64 n, .string nm, .string ⟨#[]⟩, .slice A L cp, .int .i64 pos], .bool _]) (by simp [results, Tryz.results138, go_sem]) rfl ⟨rfl, (((Below.refl _ w).alloc (Nat.le_refl _) _).alloc (by simp) _).drew⟩
theorem unc_4 (w : World) (a b c n pos : Int) (nm s : ByteArray) (A : Option Addr) (L cp : Nat) (b1 : Bool) (hs : nm.size <= 9223372036854775807) (H1 : Hid (M.nameB nm = b1)) {B : Nat} (hB : B <= w.heap.size) (hK : Kws B w) :
    Calls Tryz.prog 138 #[.agg #[.int .i64 4, .int .i64 a, .int .i64 b, .int .i64 c, .int .i64 n, .string nm, .string s, .slice A L cp, .int .i64 pos]] w (UPost #[.int .i64 4, .int .i64 a, .int .i64 b, .int .i64 c, .int .i64 n, .string ⟨#[]⟩, .string s, .slice A L cp, .int .i64 pos] b1 w) := by
  have HK : Hid (∀ w1, Below w.heap.size w w1 -> Kws B w1) := Lib.hid fun w1 h => hK.on (h.mono hB)
  all_goals
    go_enter Tryz.func138, Tryz.ntmps138
    go_wp2_with (go_at_call 154; refine (name_is H1.out hs _ (HK.out _ (((Below.refl _ w).alloc (Nat.le_refl _) _).alloc (by simp) _))).mono ?_; rintro e w1 ⟨rfl, rfl⟩)
    all_goals exact bodyPost_ret (v := .tuple #[.agg #[.int .i64 4, .int .i64 a, .int .i64 b, .int .i64 c, .int .i64 n, .string ⟨#[]⟩, .string s, .slice A L cp, .int .i64 pos], .bool _]) (by simp [results, Tryz.results138, go_sem]) rfl ⟨rfl, (((Below.refl _ w).alloc (Nat.le_refl _) _).alloc (by simp) _)⟩
theorem unc_5 (w : World) (a b c n pos : Int) (nm s : ByteArray) (A : Option Addr) (L cp : Nat) (b1 : Bool) (hs : nm.size <= 9223372036854775807) (H1 : Hid (M.nameB nm = b1)) {B : Nat} (hB : B <= w.heap.size) (hK : Kws B w) :
    Calls Tryz.prog 138 #[.agg #[.int .i64 5, .int .i64 a, .int .i64 b, .int .i64 c, .int .i64 n, .string nm, .string s, .slice A L cp, .int .i64 pos]] w (UPost #[.int .i64 5, .int .i64 a, .int .i64 b, .int .i64 c, .int .i64 n, .string ⟨#[]⟩, .string s, .slice A L cp, .int .i64 pos] b1 w) := by
  have HK : Hid (∀ w1, Below w.heap.size w w1 -> Kws B w1) := Lib.hid fun w1 h => hK.on (h.mono hB)
  all_goals
    go_enter Tryz.func138, Tryz.ntmps138
    go_wp2_with (go_at_call 154; refine (name_is H1.out hs _ (HK.out _ (((Below.refl _ w).alloc (Nat.le_refl _) _).alloc (by simp) _))).mono ?_; rintro e w1 ⟨rfl, rfl⟩)
    all_goals exact bodyPost_ret (v := .tuple #[.agg #[.int .i64 5, .int .i64 a, .int .i64 b, .int .i64 c, .int .i64 n, .string ⟨#[]⟩, .string s, .slice A L cp, .int .i64 pos], .bool _]) (by simp [results, Tryz.results138, go_sem]) rfl ⟨rfl, (((Below.refl _ w).alloc (Nat.le_refl _) _).alloc (by simp) _)⟩
theorem unc_6 (w : World) (a b c n pos : Int) (nm s : ByteArray) (A : Option Addr) (L cp : Nat) :
    Calls Tryz.prog 138 #[.agg #[.int .i64 6, .int .i64 a, .int .i64 b, .int .i64 c, .int .i64 n, .string nm, .string s, .slice A L cp, .int .i64 pos]] w (UPost #[.int .i64 6, .int .i64 a, .int .i64 b, .int .i64 c, .int .i64 n, .string nm, .string s, .slice A L cp, .int .i64 pos] true w) := by
  all_goals
    go_enter Tryz.func138, Tryz.ntmps138
    go_wp2
    all_goals exact bodyPost_ret (v := .tuple #[.agg #[.int .i64 6, .int .i64 a, .int .i64 b, .int .i64 c, .int .i64 n, .string nm, .string s, .slice A L cp, .int .i64 pos], .bool _]) (by simp [results, Tryz.results138, go_sem]) rfl ⟨rfl, (((Below.refl _ w).alloc (Nat.le_refl _) _).alloc (by simp) _)⟩
theorem unc_7 (w : World) (a b c n pos : Int) (nm s : ByteArray) (A : Option Addr) (L cp : Nat) (b1 : Bool) (hs : nm.size <= 9223372036854775807) (H1 : Hid (M.nameB nm = b1)) {B : Nat} (hB : B <= w.heap.size) (hK : Kws B w) :
    Calls Tryz.prog 138 #[.agg #[.int .i64 7, .int .i64 a, .int .i64 b, .int .i64 c, .int .i64 n, .string nm, .string s, .slice A L cp, .int .i64 pos]] w (UPost #[.int .i64 7, .int .i64 a, .int .i64 b, .int .i64 c, .int .i64 n, .string ⟨#[]⟩, .string s, .slice A L cp, .int .i64 pos] b1 w) := by
  have HK : Hid (∀ w1, Below w.heap.size w w1 -> Kws B w1) := Lib.hid fun w1 h => hK.on (h.mono hB)
  all_goals
    go_enter Tryz.func138, Tryz.ntmps138
    go_wp2_with (go_at_call 154; refine (name_is H1.out hs _ (HK.out _ (((Below.refl _ w).alloc (Nat.le_refl _) _).alloc (by simp) _))).mono ?_; rintro e w1 ⟨rfl, rfl⟩)
    all_goals exact bodyPost_ret (v := .tuple #[.agg #[.int .i64 7, .int .i64 a, .int .i64 b, .int .i64 c, .int .i64 n, .string ⟨#[]⟩, .string s, .slice A L cp, .int .i64 pos], .bool _]) (by simp [results, Tryz.results138, go_sem]) rfl ⟨rfl, (((Below.refl _ w).alloc (Nat.le_refl _) _).alloc (by simp) _)⟩
theorem unc_8 (w : World) (a b c n pos : Int) (nm s : ByteArray) (A : Option Addr) (L cp : Nat) (b1 : Bool) (hs : nm.size <= 9223372036854775807) (H1 : Hid (M.nameB nm = b1)) {B : Nat} (hB : B <= w.heap.size) (hK : Kws B w) :
    Calls Tryz.prog 138 #[.agg #[.int .i64 8, .int .i64 a, .int .i64 b, .int .i64 c, .int .i64 n, .string nm, .string s, .slice A L cp, .int .i64 pos]] w (UPost #[.int .i64 8, .int .i64 a, .int .i64 b, .int .i64 c, .int .i64 n, .string ⟨#[]⟩, .string s, .slice A L cp, .int .i64 pos] b1 w) := by
  have HK : Hid (∀ w1, Below w.heap.size w w1 -> Kws B w1) := Lib.hid fun w1 h => hK.on (h.mono hB)
  all_goals
    go_enter Tryz.func138, Tryz.ntmps138
    go_wp2_with (go_at_call 154; refine (name_is H1.out hs _ (HK.out _ (((Below.refl _ w).alloc (Nat.le_refl _) _).alloc (by simp) _))).mono ?_; rintro e w1 ⟨rfl, rfl⟩)
    all_goals exact bodyPost_ret (v := .tuple #[.agg #[.int .i64 8, .int .i64 a, .int .i64 b, .int .i64 c, .int .i64 n, .string ⟨#[]⟩, .string s, .slice A L cp, .int .i64 pos], .bool _]) (by simp [results, Tryz.results138, go_sem]) rfl ⟨rfl, (((Below.refl _ w).alloc (Nat.le_refl _) _).alloc (by simp) _)⟩
theorem unc_9 (w : World) (a b c n pos : Int) (nm s : ByteArray) (A : Option Addr) (L cp : Nat) :
    Calls Tryz.prog 138 #[.agg #[.int .i64 9, .int .i64 a, .int .i64 b, .int .i64 c, .int .i64 n, .string nm, .string s, .slice A L cp, .int .i64 pos]] w (UPost #[.int .i64 9, .int .i64 a, .int .i64 b, .int .i64 c, .int .i64 n, .string nm, .string s, .slice A L cp, .int .i64 pos] true w) := by
  all_goals
    go_enter Tryz.func138, Tryz.ntmps138
    go_wp2
    all_goals exact bodyPost_ret (v := .tuple #[.agg #[.int .i64 9, .int .i64 a, .int .i64 b, .int .i64 c, .int .i64 n, .string nm, .string s, .slice A L cp, .int .i64 pos], .bool _]) (by simp [results, Tryz.results138, go_sem]) rfl ⟨rfl, (((Below.refl _ w).alloc (Nat.le_refl _) _).alloc (by simp) _)⟩
theorem unc_10 (w : World) (a b c n pos : Int) (nm s : ByteArray) (A : Option Addr) (L cp : Nat) (b1 b2 : Bool) (h1 : decide (1 <= n) = b1) (h2 : decide (n <= 7) = b2) :
    Calls Tryz.prog 138 #[.agg #[.int .i64 10, .int .i64 a, .int .i64 b, .int .i64 c, .int .i64 n, .string nm, .string s, .slice A L cp, .int .i64 pos]] w (UPost #[.int .i64 10, .int .i64 a, .int .i64 b, .int .i64 c, .int .i64 0, .string nm, .string s, .slice A L cp, .int .i64 pos] (b1 && b2) w) := by
  cases b1 <;> cases b2
  all_goals
    go_enter Tryz.func138, Tryz.ntmps138
    go_wp2
    go_region
    all_goals go_wp2
    all_goals exact bodyPost_ret (v := .tuple #[.agg #[.int .i64 10, .int .i64 a, .int .i64 b, .int .i64 c, .int .i64 0, .string nm, .string s, .slice A L cp, .int .i64 pos], .bool _]) (by simp [results, Tryz.results138, go_sem]) rfl ⟨rfl, (((Below.refl _ w).alloc (Nat.le_refl _) _).alloc (by simp) _).drew⟩
theorem unc_11 (w : World) (a b c n pos : Int) (nm s : ByteArray) (A : Option Addr) (L cp : Nat) (b1 : Bool) (HC : Hid (∀ w1, Below w.heap.size w w1 -> Calls Tryz.prog 164 #[.slice A L cp] w1 fun e w2 => e = .returned (.bool b1) /\ Below w1.heap.size w1 w2)) :
    Calls Tryz.prog 138 #[.agg #[.int .i64 11, .int .i64 a, .int .i64 b, .int .i64 c, .int .i64 n, .string nm, .string s, .slice A L cp, .int .i64 pos]] w (UPost #[.int .i64 11, .int .i64 a, .int .i64 b, .int .i64 c, .int .i64 n, .string nm, .string s, .slice none 0 0, .int .i64 pos] b1 w) := by
  all_goals
    go_enter Tryz.func138, Tryz.ntmps138
    go_wp2_with (go_at_call 164; refine (HC.out _ (((Below.refl _ w).alloc (Nat.le_refl _) _).alloc (by simp) _)).mono ?_; rintro e w1 ⟨rfl, hb⟩; obtain ⟨hc, hf⟩ := bcellT hb; have HBB := Lib.hid hb; clear hb)
    exact bodyPost_ret (v := .tuple #[.agg #[.int .i64 11, .int .i64 a, .int .i64 b, .int .i64 c, .int .i64 n, .string nm, .string s, .slice none 0 0, .int .i64 pos], .bool b1]) (res64 _ _ (w.heap.size + 1) b1 _ _ _ _ _ _ _ _ _ (by simp) (by simp) (chain9 (blk_second HBB.out))) rfl ⟨rfl, below9 ((((Below.refl _ w).alloc (Nat.le_refl _) _).alloc (by simp) _).trans (HBB.out.mono (by simp; omega))) (by omega)⟩
theorem unc_12 (w : World) (a b c n pos : Int) (nm s : ByteArray) (A : Option Addr) (L cp : Nat) (b1 : Bool) (hs : nm.size <= 9223372036854775807) (H1 : Hid (M.nameB nm = b1)) {B : Nat} (hB : B <= w.heap.size) (hK : Kws B w) :
    Calls Tryz.prog 138 #[.agg #[.int .i64 12, .int .i64 a, .int .i64 b, .int .i64 c, .int .i64 n, .string nm, .string s, .slice A L cp, .int .i64 pos]] w (UPost #[.int .i64 12, .int .i64 a, .int .i64 b, .int .i64 c, .int .i64 n, .string ⟨#[]⟩, .string s, .slice A L cp, .int .i64 pos] b1 w) := by
  have HK : Hid (∀ w1, Below w.heap.size w w1 -> Kws B w1) := Lib.hid fun w1 h => hK.on (h.mono hB)
  all_goals
    go_enter Tryz.func138, Tryz.ntmps138
    go_wp2_with (go_at_call 154; refine (name_is H1.out hs _ (HK.out _ (((Below.refl _ w).alloc (Nat.le_refl _) _).alloc (by simp) _))).mono ?_; rintro e w1 ⟨rfl, rfl⟩)
    all_goals exact bodyPost_ret (v := .tuple #[.agg #[.int .i64 12, .int .i64 a, .int .i64 b, .int .i64 c, .int .i64 n, .string ⟨#[]⟩, .string s, .slice A L cp, .int .i64 pos], .bool _]) (by simp [results, Tryz.results138, go_sem]) rfl ⟨rfl, (((Below.refl _ w).alloc (Nat.le_refl _) _).alloc (by simp) _)⟩
theorem unc_13 (w : World) (a b c n pos : Int) (nm s : ByteArray) (A : Option Addr) (L cp : Nat) (b1 : Bool) (hs : nm.size <= 9223372036854775807) (H1 : Hid (M.tagB nm = b1)) :
    Calls Tryz.prog 138 #[.agg #[.int .i64 13, .int .i64 a, .int .i64 b, .int .i64 c, .int .i64 n, .string nm, .string s, .slice A L cp, .int .i64 pos]] w (UPost #[.int .i64 13, .int .i64 a, .int .i64 b, .int .i64 c, .int .i64 n, .string ⟨#[]⟩, .string s, .slice A L cp, .int .i64 pos] b1 w) := by
  all_goals
    go_enter Tryz.func138, Tryz.ntmps138
    go_wp2_with (go_at_call 155; refine (tag_is H1.out hs _).mono ?_; rintro e w1 ⟨rfl, rfl⟩)
    all_goals exact bodyPost_ret (v := .tuple #[.agg #[.int .i64 13, .int .i64 a, .int .i64 b, .int .i64 c, .int .i64 n, .string ⟨#[]⟩, .string s, .slice A L cp, .int .i64 pos], .bool _]) (by simp [results, Tryz.results138, go_sem]) rfl ⟨rfl, (((Below.refl _ w).alloc (Nat.le_refl _) _).alloc (by simp) _)⟩
theorem unc_14 (w : World) (a b c n pos : Int) (nm s : ByteArray) (A : Option Addr) (L cp : Nat) (b1 : Bool) (HC : Hid (∀ w1, Below w.heap.size w w1 -> Calls Tryz.prog 165 #[.slice A L cp] w1 fun e w2 => e = .returned (.bool b1) /\ Below w1.heap.size w1 w2)) :
    Calls Tryz.prog 138 #[.agg #[.int .i64 14, .int .i64 a, .int .i64 b, .int .i64 c, .int .i64 n, .string nm, .string s, .slice A L cp, .int .i64 pos]] w (UPost #[.int .i64 14, .int .i64 a, .int .i64 b, .int .i64 c, .int .i64 n, .string nm, .string s, .slice none 0 0, .int .i64 pos] b1 w) := by
  all_goals
    go_enter Tryz.func138, Tryz.ntmps138
    go_wp2_with (go_at_call 165; refine (HC.out _ (((Below.refl _ w).alloc (Nat.le_refl _) _).alloc (by simp) _)).mono ?_; rintro e w1 ⟨rfl, hb⟩; obtain ⟨hc, hf⟩ := bcellT hb; have HBB := Lib.hid hb; clear hb)
    exact bodyPost_ret (v := .tuple #[.agg #[.int .i64 14, .int .i64 a, .int .i64 b, .int .i64 c, .int .i64 n, .string nm, .string s, .slice none 0 0, .int .i64 pos], .bool b1]) (res64 _ _ (w.heap.size + 1) b1 _ _ _ _ _ _ _ _ _ (by simp) (by simp) (chain9 (blk_second HBB.out))) rfl ⟨rfl, below9 ((((Below.refl _ w).alloc (Nat.le_refl _) _).alloc (by simp) _).trans (HBB.out.mono (by simp; omega))) (by omega)⟩
end Go.Proofs.YtjakeidbajkdcaaGreatDoor.T
