/- Joined by program: TLab. -/
import Derived.Test.YteikpeaakmbihaaDoorG01
import Derived.Test.YteikpeaakmbihaaDoorG12
import Derived.Test.YteikpeaakmbihaaDoorG13
import Derived.RangeFuncBox
/- labels, the document's: may a record's, or a case's, parts be? -/
namespace Go.Proofs.YteikpeaakmbihaaDoor.T
open Go.RowKit
/-- May a part be, of a record (11), of a case (14)? -/
def fok (k : Int) (f : Fld) : Bool := if k = 11 then M.nameB f.nm && f.vr.toList.isEmpty else M.tagB f.nm && M.nameB f.vr
def labB (k : Int) (l : List Fld) : Bool := l.all (fok k) && (decide (l.length ≤ 30) && (decide (k = 11) || decide (0 < l.length)) && !M.tw (l.map Fld.nm))
theorem strInfo : (Tryd.prog.info? 9).map (fun i => (i.zero, i.size, i.bytes)) = some (some (.string ⟨#[]⟩), 1, 16) := by kernel_rfl
theorem bcellT {W w1 : World} (hb : Below W.heap.size W w1) : (∀ b o, b < W.heap.size → w1.cell? ⟨b, o, none⟩ = W.cell? ⟨b, o, none⟩) ∧ (∀ b o, b < W.heap.size → w1.frozen? ⟨b, o, none⟩ = W.frozen? ⟨b, o, none⟩) :=
  ⟨fun b o h => hb.cell (p := ⟨b, o, none⟩) h, fun b o h => hb.frozen (p := ⟨b, o, none⟩) h⟩
theorem nm_take (l : List Fld) (k : Nat) (f : Fld) (h : l[k]? = some f) : (l.take (k + 1)).map (fun f => Value.string f.nm) = (l.take k).map (fun f => Value.string f.nm) ++ [.string f.nm] := by
  have hk : k < l.length := (List.getElem?_eq_some_iff.1 h).1
  rw [List.take_succ_eq_append_getElem hk, List.map_append]
  have : l[k] = f := (List.getElem?_eq_some_iff.1 h).2
  simp [this]
theorem all_take (p : Fld → Bool) (l : List Fld) (k : Nat) (f : Fld) (h : l[k]? = some f) (ha : (l.take k).all p = true) (hf : p f = true) : (l.take (k + 1)).all p = true := by
  have hk : k < l.length := (List.getElem?_eq_some_iff.1 h).1
  rw [List.take_succ_eq_append_getElem hk, List.all_append, ha]
  have : l[k] = f := (List.getElem?_eq_some_iff.1 h).2
  simp [this, hf]
theorem lab_no (k : Int) (l : List Fld) (j : Nat) (f : Fld) (h : l[j]? = some f) (hf : fok k f = false) : labB k l = false := by
  have : l.all (fok k) = false := by
    rw [List.all_eq_false]
    exact ⟨f, List.mem_of_getElem? h, by simp [hf]⟩
  rw [labB, this]; rfl
theorem rname_is {s : ByteArray} {b : Bool} (h : M.nameB s = b) (hs : s.size ≤ 9223372036854775807) (w : World) : Calls Tryd.prog 66 #[.string s] w fun e w' => e = .returned (.bool b) ∧ Below w.heap.size w w' := by subst h; exact M.rname_any s hs w
theorem rtag_is {s : ByteArray} {b : Bool} (h : M.tagB s = b) (hs : s.size ≤ 9223372036854775807) (w : World) : Calls Tryd.prog 67 #[.string s] w fun e w' => e = .returned (.bool b) ∧ w = w' := by subst h; exact M.rtag_any s hs w
theorem rtwice_is {ss : List ByteArray} {b : Bool} {n g c : Nat} (h : M.tw ss = b) (hn : ss.length = n) (w : World) (hcap : n ≤ c) (hm : n ≤ 140737488351232) (hh : Hid (M.Holds w g ss)) :
    Calls Tryd.prog 83 #[.slice (some ⟨g, 0, none⟩) n c] w fun e w' => e = .returned (.bool b) ∧ Below w.heap.size w w' := by
  subst h hn; exact M.rtwice_any ss g c w hcap hm hh
theorem holds_of {W : World} {B g n c : Nat} {l : List Fld} (h : W.ownsRow B 9 1 (.slice (some ⟨g, 0, none⟩) n c) n (l.map (fun f => Value.string f.nm))) : M.Holds W g (l.map Fld.nm) := fun j hj => by
  rw [List.length_map] at hj
  have := World.ownsRow.cells h (g := g) rfl j (.string (l[j]).nm) (by simp [hj])
  rw [Addr.add_lit, Nat.zero_add] at this
  rw [this]; simp [List.getD_eq_getElem?_getD, hj]
theorem new1s (W : World) (t : TypeId) (v : Value) (p : Nat) (hp : p = W.heap.size) (j : Nat) (u : Value) (h : [v][j]? = some u) : (W.alloc (.cells #[v] t)).cell? ((⟨p, 0, none⟩ : Addr).add j) = some u := by
  subst hp; exact new1 W t v j u h
theorem ret_b {a b : Bool} (h : a = b) : Ending.returned (.bool a) = .returned (.bool b) := by rw [h]
theorem grown_belowT {w w' : World} (h : Below w.heap.size w w') (row : Option Nat) : w.grownBy w' row := ⟨h.os, h.tape, h.output, h.size, fun k hk _ => h.block k hk⟩
set_option maxRecDepth 100000 in
set_option maxHeartbeats 4000000 in
theorem lab_11 (a b c n pos : Int) (nm s : ByteArray) (l : List Fld) (L cp fb fo : Nat) (HL : Hid (l.length = L)) (hL0 : 0 < L) (hL : L ≤ 1000000) (w : World) (hfb : fb < w.heap.size) (HF : Hid (FldsAt w fb fo l)) (HSZ : Hid (∀ f ∈ l, f.nm.size ≤ 9223372036854775807 ∧ f.vr.size ≤ 9223372036854775807)) :
    Calls Tryd.prog 68 #[.agg #[.int .i64 11, .int .i64 a, .int .i64 b, .int .i64 c, .int .i64 n, .string nm, .string s, .slice (some ⟨fb, fo, none⟩) L cp, .int .i64 pos]] w fun e w' => e = .returned (.bool (labB 11 l)) ∧ Below w.heap.size w w' := by
  obtain ⟨i0, hi, hz0, hz1, hz2⟩ := info_parts strInfo
  go_enter Tryd.func68, Tryd.ntmps68
  go_wp2
  go_loopw [3, 4] (fun v i wr => ∃ q g c' : Nat, v = .slice (some ⟨g, 0, none⟩) q c' ∧ i = .int .i64 (q : Int) ∧ q ≤ L ∧ Hid (wr.ownsRow (w.heap.size + 1) 9 1 (.slice (some ⟨g, 0, none⟩) q c') q ((l.take q).map (fun f => Value.string f.nm))) ∧ Hid ((l.take q).all (fok 11) = true) ∧ Hid (Below (w.heap.size + 1) (w.alloc (.cells #[.int .i64 11, .int .i64 a, .int .i64 b, .int .i64 c, .int .i64 n, .string nm, .string s, .slice (some ⟨fb, fo, none⟩) L cp, .int .i64 pos] 27)) wr)) (fun _ i _ => L - (intOf i).toNat)
  case atStart => exact ⟨0, _, _, rfl, rfl, by omega, Lib.hid (by
    have := World.ownsRow_made (base := w.heap.size + 1) (e := 9) (size := 1) (w.alloc (.cells #[.int .i64 11, .int .i64 a, .int .i64 b, .int .i64 c, .int .i64 n, .string nm, .string s, .slice (some ⟨fb, fo, none⟩) L cp, .int .i64 pos] 27)) #[] 0 (by simp) (by decide) rfl
    rw [World.size_alloc] at this; rw [List.take_zero]; exact this), Lib.hid (by simp), Lib.hid ((Below.refl _ _).alloc (by simp) _)⟩
  case round =>
    obtain ⟨q, g, c', rfl, rfl, hq, HI, HA, HB⟩ := hrel
    have hcb : wr.cell? ⟨w.heap.size, 7, none⟩ = some (.slice (some ⟨fb, fo, none⟩) L cp) := by
      rw [HB.out.cell (p := ⟨w.heap.size, 7, none⟩) (by simp), World.cell?, heap_alloc_new]
      rfl
    have hck : wr.cell? ⟨w.heap.size, 0, none⟩ = some (.int .i64 11) := by
      rw [HB.out.cell (p := ⟨w.heap.size, 0, none⟩) (by simp), World.cell?, heap_alloc_new]
      rfl
    have hsz := HB.out.size
    rw [World.size_alloc] at hsz
    have hsz1 : w.heap.size < wr.heap.size := by omega
    have hsz2 : fb < wr.heap.size := by omega
    by_cases hlt : q < L
    · obtain ⟨fd, hfd⟩ : ∃ fd, l[q]? = some fd := ⟨_, List.getElem?_eq_getElem (by rw [HL.out]; exact hlt)⟩
      obtain ⟨m0, m1, m2⟩ := HF.out q fd hfd
      have e3 : ∀ k, wr.cell? ⟨fb, k, none⟩ = w.cell? ⟨fb, k, none⟩ := fun k => by
        rw [HB.out.cell (p := ⟨fb, _, none⟩) (by show fb < w.heap.size + 1; omega), ((Below.refl w.heap.size w).alloc (Nat.le_refl _) _).cell (p := ⟨fb, _, none⟩) hfb]
      rw [← e3] at m0 m1 m2
      have HS1 : Hid (fd.nm.size ≤ 9223372036854775807) := Lib.hid (HSZ.out fd (List.mem_of_getElem? hfd)).1
      have HS2 : Hid (fd.vr.size ≤ 9223372036854775807) := Lib.hid (HSZ.out fd (List.mem_of_getElem? hfd)).2
      have HX := Lib.hid hfd
      clear e3 hfd
      cases hN1 : M.nameB fd.nm with
      | false =>
        have HN1 := Lib.hid hN1
        have HBAD : Hid (fok 11 fd = false) := Lib.hid (by simp [fok, hN1])
        clear hN1
        go_wp2_with (first
          | (go_at_call 66; (with_reducible refine (rname_is HN1.out HS1.out _).mono ?_); rintro e w1 ⟨rfl, hb⟩; obtain ⟨hc, hf⟩ := bcellT hb; have HBB := Lib.hid hb; clear hb))
        go_ret
        exact ⟨ret_b (lab_no 11 l q fd HX.out HBAD.out).symm, (((Below.refl _ w).alloc (Nat.le_refl _) _).trans (HB.out.mono (by omega))).trans ((((Below.refl _ wr).alloc (Nat.le_refl _) _).trans (HBB.out.mono (by simp))).mono (by omega))⟩
      | true =>
        cases hV : fd.vr.toList.isEmpty with
        | false =>
          have HN1 := Lib.hid hN1
          have HBAD : Hid (fok 11 fd = false) := Lib.hid (by simp [fok, hV])
          have hV2 : fd.vr.toList ≠ [] := by intro e; rw [e] at hV; simp at hV
          have hV3 : (!fd.vr.toList.isEmpty) = true := by rw [hV]; rfl
          clear hN1
          go_wp2_with (first
            | (go_at_call 66; (with_reducible refine (rname_is HN1.out HS1.out _).mono ?_); rintro e w1 ⟨rfl, hb⟩; obtain ⟨hc, hf⟩ := bcellT hb; have HBB := Lib.hid hb; clear hb))
          go_ret
          exact ⟨ret_b (lab_no 11 l q fd HX.out HBAD.out).symm, (((Below.refl _ w).alloc (Nat.le_refl _) _).trans (HB.out.mono (by omega))).trans ((((Below.refl _ wr).alloc (Nat.le_refl _) _).trans (HBB.out.mono (by simp))).mono (by omega))⟩
        | true =>
          have HN1 := Lib.hid hN1
          have HOK : Hid (fok 11 fd = true) := Lib.hid (by simp [fok, hN1, hV])
          have hV2 : fd.vr.toList = [] := List.isEmpty_iff.1 hV
          have hV3 : (!fd.vr.toList.isEmpty) = false := by rw [hV]; rfl
          clear hN1
          go_wp2_with (first
            | (go_at_call 66; (with_reducible refine (rname_is HN1.out HS1.out _).mono ?_); rintro e w1 ⟨rfl, hb⟩; obtain ⟨hc, hf⟩ := bcellT hb; have HBB := Lib.hid hb; have HRW := Lib.hid ((HI.out.alloc (.cells #[.string fd.nm, .string fd.vr, .int .i64 fd.pl] 75)).kept (grown_belowT hb none) (.inr (by simp [Value.ownBlock]))); have hzw := hb.size; simp at hzw; clear hb)
            | (at_builtin; refine wpList_append_own _ rfl _ _ 62 rfl (w.heap.size + 1) 9 i0 (.string ⟨#[]⟩) 1 16 Tryd.underlying62 hi hz0 hz1 hz2 rfl (by decide) _ _ _ rfl (HRW.out.alloc _) ⟨_, 0, none⟩ 1 1 [.string fd.nm] rfl rfl (new1s w1 9 _ _ (by rfl)) (fun u hu => by rw [List.mem_singleton.1 hu]; rfl) (by unfold maxLen; omega) (by omega) (by simp; omega) ?_; intro v' w2 hown' hgrow _; obtain ⟨g', cap', rfl⟩ := ownsRow_succ hown'; have HO := Lib.hid hown'; have HG := Lib.hid hgrow; clear hown' hgrow))
          go_roundw
          case rel =>
            refine ⟨q + 1, g', cap', rfl, by go_num, by omega, Lib.hid ?_, Lib.hid (all_take _ l q fd HX.out HA.out HOK.out), Lib.hid ((HB.out.trans ((((Below.refl _ wr).alloc (Nat.le_refl _) _).trans (HBB.out.mono (by simp))).mono (by omega))).trans (((Below.refl _ w1).alloc (by omega) _).grown HG.out (by simp; omega) (fun k hk => (HRW.out.lt k hk).1)))⟩
            rw [nm_take l q fd HX.out]; exact HO.out
          case measure => simp [intOf]; omega
    · obtain rfl : q = L := by omega
      have hall : l.all (fok 11) = true := by have := HA.out; rwa [List.take_of_length_le (by have := HL.out; omega)] at this
      have hrow := HI.out
      rw [List.take_of_length_le (by have := HL.out; omega)] at hrow
      have HH := Lib.hid (holds_of hrow)
      have hcp : q ≤ c' := by
        rcases hrow.2 with ⟨e, _⟩ | ⟨g', cap', cur, e, _, _, hle, _⟩
        · cases e
        · cases e; exact hle
      obtain ⟨t, htw⟩ : ∃ t, M.tw (l.map Fld.nm) = t := ⟨_, rfl⟩
      have HT := Lib.hid htw
      have HLM : Hid ((l.map Fld.nm).length = q) := Lib.hid (by rw [List.length_map]; exact HL.out)
      by_cases h30 : q ≤ 30
      · have HR : Hid (labB 11 l = !t) := Lib.hid (by rw [labB, hall, htw, HL.out]; simp [h30, hL0])
        clear hall htw hrow
        cases t
        all_goals
          go_wp2_with (go_at_call 83; refine (rtwice_is HT.out HLM.out _ hcp (by omega) HH).mono ?_; rintro e w1 ⟨rfl, hb⟩; have HBB := Lib.hid hb; clear hb)
          go_ret
          exact ⟨ret_b HR.out.symm, (((Below.refl _ w).alloc (Nat.le_refl _) _).trans (HB.out.mono (by omega))).trans (HBB.out.mono (by omega))⟩
      · have HR : Hid (labB 11 l = false) := Lib.hid (by rw [labB, HL.out]; simp [h30])
        clear hall htw hrow
        go_wp2
        go_ret
        exact ⟨ret_b HR.out.symm, ((Below.refl _ w).alloc (Nat.le_refl _) _).trans (HB.out.mono (by omega))⟩
set_option maxRecDepth 100000 in
set_option maxHeartbeats 4000000 in
theorem lab_14 (a b c n pos : Int) (nm s : ByteArray) (l : List Fld) (L cp fb fo : Nat) (HL : Hid (l.length = L)) (hL0 : 0 < L) (hL : L ≤ 1000000) (w : World) (hfb : fb < w.heap.size) (HF : Hid (FldsAt w fb fo l)) (HSZ : Hid (∀ f ∈ l, f.nm.size ≤ 9223372036854775807 ∧ f.vr.size ≤ 9223372036854775807)) :
    Calls Tryd.prog 68 #[.agg #[.int .i64 14, .int .i64 a, .int .i64 b, .int .i64 c, .int .i64 n, .string nm, .string s, .slice (some ⟨fb, fo, none⟩) L cp, .int .i64 pos]] w fun e w' => e = .returned (.bool (labB 14 l)) ∧ Below w.heap.size w w' := by
  obtain ⟨i0, hi, hz0, hz1, hz2⟩ := info_parts strInfo
  go_enter Tryd.func68, Tryd.ntmps68
  go_wp2
  go_loopw [3, 4] (fun v i wr => ∃ q g c' : Nat, v = .slice (some ⟨g, 0, none⟩) q c' ∧ i = .int .i64 (q : Int) ∧ q ≤ L ∧ Hid (wr.ownsRow (w.heap.size + 1) 9 1 (.slice (some ⟨g, 0, none⟩) q c') q ((l.take q).map (fun f => Value.string f.nm))) ∧ Hid ((l.take q).all (fok 14) = true) ∧ Hid (Below (w.heap.size + 1) (w.alloc (.cells #[.int .i64 14, .int .i64 a, .int .i64 b, .int .i64 c, .int .i64 n, .string nm, .string s, .slice (some ⟨fb, fo, none⟩) L cp, .int .i64 pos] 27)) wr)) (fun _ i _ => L - (intOf i).toNat)
  case atStart => exact ⟨0, _, _, rfl, rfl, by omega, Lib.hid (by
    have := World.ownsRow_made (base := w.heap.size + 1) (e := 9) (size := 1) (w.alloc (.cells #[.int .i64 14, .int .i64 a, .int .i64 b, .int .i64 c, .int .i64 n, .string nm, .string s, .slice (some ⟨fb, fo, none⟩) L cp, .int .i64 pos] 27)) #[] 0 (by simp) (by decide) rfl
    rw [World.size_alloc] at this; rw [List.take_zero]; exact this), Lib.hid (by simp), Lib.hid ((Below.refl _ _).alloc (by simp) _)⟩
  case round =>
    obtain ⟨q, g, c', rfl, rfl, hq, HI, HA, HB⟩ := hrel
    have hcb : wr.cell? ⟨w.heap.size, 7, none⟩ = some (.slice (some ⟨fb, fo, none⟩) L cp) := by
      rw [HB.out.cell (p := ⟨w.heap.size, 7, none⟩) (by simp), World.cell?, heap_alloc_new]
      rfl
    have hck : wr.cell? ⟨w.heap.size, 0, none⟩ = some (.int .i64 14) := by
      rw [HB.out.cell (p := ⟨w.heap.size, 0, none⟩) (by simp), World.cell?, heap_alloc_new]
      rfl
    have hsz := HB.out.size
    rw [World.size_alloc] at hsz
    have hsz1 : w.heap.size < wr.heap.size := by omega
    have hsz2 : fb < wr.heap.size := by omega
    by_cases hlt : q < L
    · obtain ⟨fd, hfd⟩ : ∃ fd, l[q]? = some fd := ⟨_, List.getElem?_eq_getElem (by rw [HL.out]; exact hlt)⟩
      obtain ⟨m0, m1, m2⟩ := HF.out q fd hfd
      have e3 : ∀ k, wr.cell? ⟨fb, k, none⟩ = w.cell? ⟨fb, k, none⟩ := fun k => by
        rw [HB.out.cell (p := ⟨fb, _, none⟩) (by show fb < w.heap.size + 1; omega), ((Below.refl w.heap.size w).alloc (Nat.le_refl _) _).cell (p := ⟨fb, _, none⟩) hfb]
      rw [← e3] at m0 m1 m2
      have HS1 : Hid (fd.nm.size ≤ 9223372036854775807) := Lib.hid (HSZ.out fd (List.mem_of_getElem? hfd)).1
      have HS2 : Hid (fd.vr.size ≤ 9223372036854775807) := Lib.hid (HSZ.out fd (List.mem_of_getElem? hfd)).2
      have HX := Lib.hid hfd
      clear e3 hfd
      cases hN1 : M.tagB fd.nm with
      | false =>
        have HN1 := Lib.hid hN1
        have HBAD : Hid (fok 14 fd = false) := Lib.hid (by simp [fok, hN1])
        clear hN1
        go_wp2_with (first
          | (go_at_call 67; (with_reducible refine (rtag_is HN1.out HS1.out _).mono ?_); rintro e w' ⟨rfl, rfl⟩))
        go_ret
        exact ⟨ret_b (lab_no 14 l q fd HX.out HBAD.out).symm, (((Below.refl _ w).alloc (Nat.le_refl _) _).trans (HB.out.mono (by omega))).trans (((Below.refl _ wr).alloc (Nat.le_refl _) _).mono (by omega))⟩
      | true =>
        cases hN2 : M.nameB fd.vr with
        | false =>
          have HN1 := Lib.hid hN1
          have HN2 := Lib.hid hN2
          have HBAD : Hid (fok 14 fd = false) := Lib.hid (by simp [fok, hN2])
          clear hN1 hN2
          go_wp2_with (first
            | (go_at_call 67; (with_reducible refine (rtag_is HN1.out HS1.out _).mono ?_); rintro e w' ⟨rfl, rfl⟩)
            | (go_at_call 66; (with_reducible refine (rname_is HN2.out HS2.out _).mono ?_); rintro e w1 ⟨rfl, hb⟩; obtain ⟨hc, hf⟩ := bcellT hb; have HBB := Lib.hid hb; clear hb))
          go_ret
          exact ⟨ret_b (lab_no 14 l q fd HX.out HBAD.out).symm, (((Below.refl _ w).alloc (Nat.le_refl _) _).trans (HB.out.mono (by omega))).trans ((((Below.refl _ wr).alloc (Nat.le_refl _) _).trans (HBB.out.mono (by simp))).mono (by omega))⟩
        | true =>
          have HN1 := Lib.hid hN1
          have HN2 := Lib.hid hN2
          have HOK : Hid (fok 14 fd = true) := Lib.hid (by simp [fok, hN1, hN2])
          clear hN1 hN2
          go_wp2_with (first
            | (go_at_call 67; (with_reducible refine (rtag_is HN1.out HS1.out _).mono ?_); rintro e w' ⟨rfl, rfl⟩)
            | (go_at_call 66; (with_reducible refine (rname_is HN2.out HS2.out _).mono ?_); rintro e w1 ⟨rfl, hb⟩; obtain ⟨hc, hf⟩ := bcellT hb; have HBB := Lib.hid hb; have HRW := Lib.hid ((HI.out.alloc (.cells #[.string fd.nm, .string fd.vr, .int .i64 fd.pl] 75)).kept (grown_belowT hb none) (.inr (by simp [Value.ownBlock]))); have hzw := hb.size; simp at hzw; clear hb)
            | (at_builtin; refine wpList_append_own _ rfl _ _ 62 rfl (w.heap.size + 1) 9 i0 (.string ⟨#[]⟩) 1 16 Tryd.underlying62 hi hz0 hz1 hz2 rfl (by decide) _ _ _ rfl (HRW.out.alloc _) ⟨_, 0, none⟩ 1 1 [.string fd.nm] rfl rfl (new1s w1 9 _ _ (by rfl)) (fun u hu => by rw [List.mem_singleton.1 hu]; rfl) (by unfold maxLen; omega) (by omega) (by simp; omega) ?_; intro v' w2 hown' hgrow _; obtain ⟨g', cap', rfl⟩ := ownsRow_succ hown'; have HO := Lib.hid hown'; have HG := Lib.hid hgrow; clear hown' hgrow))
          go_roundw
          case rel =>
            refine ⟨q + 1, g', cap', rfl, by go_num, by omega, Lib.hid ?_, Lib.hid (all_take _ l q fd HX.out HA.out HOK.out), Lib.hid ((HB.out.trans ((((Below.refl _ wr).alloc (Nat.le_refl _) _).trans (HBB.out.mono (by simp))).mono (by omega))).trans (((Below.refl _ w1).alloc (by omega) _).grown HG.out (by simp; omega) (fun k hk => (HRW.out.lt k hk).1)))⟩
            rw [nm_take l q fd HX.out]; exact HO.out
          case measure => simp [intOf]; omega
    · obtain rfl : q = L := by omega
      have hall : l.all (fok 14) = true := by have := HA.out; rwa [List.take_of_length_le (by have := HL.out; omega)] at this
      have hrow := HI.out
      rw [List.take_of_length_le (by have := HL.out; omega)] at hrow
      have HH := Lib.hid (holds_of hrow)
      have hcp : q ≤ c' := by
        rcases hrow.2 with ⟨e, _⟩ | ⟨g', cap', cur, e, _, _, hle, _⟩
        · cases e
        · cases e; exact hle
      obtain ⟨t, htw⟩ : ∃ t, M.tw (l.map Fld.nm) = t := ⟨_, rfl⟩
      have HT := Lib.hid htw
      have HLM : Hid ((l.map Fld.nm).length = q) := Lib.hid (by rw [List.length_map]; exact HL.out)
      by_cases h30 : q ≤ 30
      · have HR : Hid (labB 14 l = !t) := Lib.hid (by rw [labB, hall, htw, HL.out]; simp [h30, hL0])
        clear hall htw hrow
        cases t
        all_goals
          go_wp2_with (go_at_call 83; refine (rtwice_is HT.out HLM.out _ hcp (by omega) HH).mono ?_; rintro e w1 ⟨rfl, hb⟩; have HBB := Lib.hid hb; clear hb)
          go_ret
          exact ⟨ret_b HR.out.symm, (((Below.refl _ w).alloc (Nat.le_refl _) _).trans (HB.out.mono (by omega))).trans (HBB.out.mono (by omega))⟩
      · have HR : Hid (labB 14 l = false) := Lib.hid (by rw [labB, HL.out]; simp [h30])
        clear hall htw hrow
        go_wp2
        go_ret
        exact ⟨ret_b HR.out.symm, ((Below.refl _ w).alloc (Nat.le_refl _) _).trans (HB.out.mono (by omega))⟩
set_option maxRecDepth 100000 in
set_option maxHeartbeats 2000000 in
theorem lab_11z (a b c n pos : Int) (nm s : ByteArray) (A : Option Addr) (cp : Nat) (w : World) :
    Calls Tryd.prog 68 #[.agg #[.int .i64 11, .int .i64 a, .int .i64 b, .int .i64 c, .int .i64 n, .string nm, .string s, .slice A 0 cp, .int .i64 pos]] w fun e w' => e = .returned (.bool (labB 11 [])) ∧ Below w.heap.size w w' := by
  have HC := fun w1 => Lib.hid (rtwice_is (ss := []) (b := false) (n := 0) (g := w.heap.size + 1) (c := 0) (by decide) rfl w1 (Nat.le_refl _) (by omega) (Lib.hid (fun j hj => by simp at hj)))
  go_enter Tryd.func68, Tryd.ntmps68
  go_wp2
  go_loop [3, 4] (fun v i => v = .slice (some ⟨w.heap.size + 1, 0, none⟩) 0 0 ∧ i = .int .i64 0) (fun _ _ => 0)
  case atStart => exact ⟨rfl, rfl⟩
  case round =>
    obtain ⟨rfl, rfl⟩ := hrel
    go_wp2_with (go_at_call 83; refine (HC _).out.mono ?_; rintro e w1 ⟨rfl, hb⟩; have HBB := Lib.hid hb; clear hb)
    go_ret
    exact ⟨ret_b (by decide), (((Below.refl _ w).alloc (Nat.le_refl _) _).alloc (by simp) _).trans (HBB.out.mono (by simp; omega))⟩
set_option maxRecDepth 100000 in
set_option maxHeartbeats 2000000 in
theorem lab_14z (a b c n pos : Int) (nm s : ByteArray) (A : Option Addr) (cp : Nat) (w : World) :
    Calls Tryd.prog 68 #[.agg #[.int .i64 14, .int .i64 a, .int .i64 b, .int .i64 c, .int .i64 n, .string nm, .string s, .slice A 0 cp, .int .i64 pos]] w fun e w' => e = .returned (.bool (labB 14 [])) ∧ Below w.heap.size w w' := by
  go_enter Tryd.func68, Tryd.ntmps68
  go_wp2
  go_loop [3, 4] (fun v i => v = .slice (some ⟨w.heap.size + 1, 0, none⟩) 0 0 ∧ i = .int .i64 0) (fun _ _ => 0)
  case atStart => exact ⟨rfl, rfl⟩
  case round =>
    obtain ⟨rfl, rfl⟩ := hrel
    go_wp2
    go_ret
    exact ⟨ret_b (by decide), ((Below.refl _ w).alloc (Nat.le_refl _) _).alloc (by simp) _⟩
theorem lab_any (x : Nd) (vl : Value) (hk : x.kind = 11 ∨ x.kind = 14) (w : World) (hv : Flds w.heap.size w vl x.l) (hL : x.l.length ≤ 1000000) (HSZ : ∀ f ∈ x.l, f.nm.size ≤ 9223372036854775807 ∧ f.vr.size ≤ 9223372036854775807) :
    Calls Tryd.prog 68 #[.agg (ndArr x vl)] w fun e w' => e = .returned (.bool (labB x.kind x.l)) ∧ Below w.heap.size w w' := by
  obtain ⟨k, a, b, c, n, nm, s, l, pos⟩ := x
  unfold ndArr
  simp only at hk hv hL HSZ ⊢
  obtain ⟨A, cp, rfl, _, _, hq⟩ := hv
  by_cases h0 : 0 < l.length
  · obtain ⟨fb, fo, rfl, hlt, hf⟩ := hq h0
    rcases hk with rfl | rfl
    · exact lab_11 a b c n pos nm s l _ cp fb fo (Lib.hid rfl) h0 hL w hlt (Lib.hid hf) (Lib.hid HSZ)
    · exact lab_14 a b c n pos nm s l _ cp fb fo (Lib.hid rfl) h0 hL w hlt (Lib.hid hf) (Lib.hid HSZ)
  · obtain rfl : l = [] := List.eq_nil_of_length_eq_zero (by omega)
    rcases hk with rfl | rfl
    · exact lab_11z a b c n pos nm s _ _ w
    · exact lab_14z a b c n pos nm s _ _ w
end Go.Proofs.YteikpeaakmbihaaDoor.T
