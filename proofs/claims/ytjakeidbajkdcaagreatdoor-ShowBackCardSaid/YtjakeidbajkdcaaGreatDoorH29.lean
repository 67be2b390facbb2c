/- Joined by program. -/
import Derived.Test.YtjakeidbajkdcaaGreatDoorH25
import Derived.Test.YtjakeidbajkdcaaGreatDoorH26
import Derived.Test.YtjakeidbajkdcaaGreatDoorH28
import Derived.Deep.RegionHeld3
import Derived.Laws.Concat
set_option maxRecDepth 100000
set_option maxHeartbeats 16000000
namespace Go.Proofs.YtjakeidbajkdcaaGreatDoor.S
open T Go.RowKit Go.Shelf
theorem nine {W : World} {g t : Nat} {v0 v1 v2 v3 v4 v5 v6 v7 v8 : Value} (h : W.heap[g]? = some (.cells #[v0, v1, v2, v3, v4, v5, v6, v7, v8] t (0, 0))) :
    W.cell? ⟨g, 0, none⟩ = some v0 /\ W.cell? ⟨g, 1, none⟩ = some v1 /\ W.cell? ⟨g, 2, none⟩ = some v2 /\ W.cell? ⟨g, 3, none⟩ = some v3 /\ W.cell? ⟨g, 4, none⟩ = some v4 /\ W.cell? ⟨g, 5, none⟩ = some v5 /\ W.cell? ⟨g, 6, none⟩ = some v6 /\ W.cell? ⟨g, 7, none⟩ = some v7 /\ W.cell? ⟨g, 8, none⟩ = some v8 :=
  ⟨Blk_cell h 0, Blk_cell h 1, Blk_cell h 2, Blk_cell h 3, Blk_cell h 4, Blk_cell h 5, Blk_cell h 6, Blk_cell h 7, Blk_cell h 8⟩
section
variable (a b c n pos : Int) (nm s : ByteArray) (v : Value) (p1 p5 : Nat) (w : World)
theorem text_1 (h0 : -9223372036854775808 <= n) (h1 : n <= 9223372036854775807) (hO : L.On w.heap.size w) : Calls Tryz.prog 37 #[.agg #[.int .i64 1, .int .i64 a, .int .i64 b, .int .i64 c, .int .i64 n, .string nm, .string s, v, .int .i64 pos], .func (.func 36) #[] #[.pointer (some ⟨p1, 0, none⟩), .pointer (some ⟨p5, 0, none⟩)]] w (SPost ⟨(W.wtext n).toArray⟩ w) := by
  have hb : Below w.heap.size w (w.alloc (.cells #[.int .i64 1, .int .i64 a, .int .i64 b, .int .i64 c, .int .i64 n, .string nm, .string s, v, .int .i64 pos] 37)) := (Below.refl _ w).alloc (Nat.le_refl _) _
  have HB := Lib.hid hb
  have HP := Lib.hid (W.print_any n h0 h1 _ ((hO.on hb).up hb.size).2 (Nat.le_refl _))
  clear hb hO
  go_enter Tryz.func37, Tryz.ntmps37
  go_wp2_with (go_at_call 64; refine HP.out.mono ?_; rintro e w1 ⟨rfl, hb1⟩; have H1 := Lib.hid (HB.out.trans (hb1.mono HB.out.size)); clear hb1)
  go_ret
  exact ⟨rfl, H1.out⟩
theorem truth_is (n : Int) (w : World) : Calls Tryz.prog 65 #[.int .i64 n] w fun e w' => e = .returned (.string (if n = 0 then ⟨#[102, 97, 108, 115, 101]⟩ else ⟨#[116, 114, 117, 101]⟩)) /\ w = w' := by
  by_cases h : n = 0
  · subst h
    go_enter Tryz.func65, Tryz.ntmps65
    go_wp2
    go_ret
    exact ⟨rfl, rfl⟩
  · have e := eqf h
    rw [if_neg h]
    clear h
    go_enter Tryz.func65, Tryz.ntmps65
    go_wp2
    go_ret
    exact ⟨rfl, rfl⟩
theorem text_2 : Calls Tryz.prog 37 #[.agg #[.int .i64 2, .int .i64 a, .int .i64 b, .int .i64 c, .int .i64 n, .string nm, .string s, v, .int .i64 pos], .func (.func 36) #[] #[.pointer (some ⟨p1, 0, none⟩), .pointer (some ⟨p5, 0, none⟩)]] w (SPost (if n = 0 then ⟨#[102, 97, 108, 115, 101]⟩ else ⟨#[116, 114, 117, 101]⟩) w) := by
  obtain ⟨t, ht⟩ : ∃ t : ByteArray, (if n = 0 then ⟨#[102, 97, 108, 115, 101]⟩ else ⟨#[116, 114, 117, 101]⟩) = t := ⟨_, rfl⟩
  have HT := Lib.hid (truth_is n)
  rw [ht] at HT ⊢
  clear ht
  have HB := Lib.hid ((Below.refl _ w).alloc (Nat.le_refl _) (.cells #[.int .i64 2, .int .i64 a, .int .i64 b, .int .i64 c, .int .i64 n, .string nm, .string s, v, .int .i64 pos] 37))
  go_enter Tryz.func37, Tryz.ntmps37
  go_wp2_with (go_at_call 65; refine (HT.out _).mono ?_; rintro e w' ⟨rfl, rfl⟩)
  go_ret
  exact ⟨rfl, HB.out⟩
theorem text_3 (hs : s.size <= 10000) : Calls Tryz.prog 37 #[.agg #[.int .i64 3, .int .i64 a, .int .i64 b, .int .i64 c, .int .i64 n, .string nm, .string s, v, .int .i64 pos], .func (.func 36) #[] #[.pointer (some ⟨p1, 0, none⟩), .pointer (some ⟨p5, 0, none⟩)]] w (SPost ⟨(Q.qtext s.data.toList).toArray⟩ w) := by
  have hb : Below w.heap.size w (w.alloc (.cells #[.int .i64 3, .int .i64 a, .int .i64 b, .int .i64 c, .int .i64 n, .string nm, .string s, v, .int .i64 pos] 37)) := (Below.refl _ w).alloc (Nat.le_refl _) _
  have HB := Lib.hid hb
  have HP := Lib.hid (Q.print_any s hs (w.alloc (.cells #[.int .i64 3, .int .i64 a, .int .i64 b, .int .i64 c, .int .i64 n, .string nm, .string s, v, .int .i64 pos] 37)) (Nat.le_refl _))
  clear hb hs
  go_enter Tryz.func37, Tryz.ntmps37
  go_wp2_with (go_at_call 66; refine HP.out.mono ?_; rintro e w1 ⟨rfl, hb1⟩; have H1 := Lib.hid (HB.out.trans (hb1.mono HB.out.size)); clear hb1)
  go_ret
  exact ⟨rfl, H1.out⟩
theorem text_4 : Calls Tryz.prog 37 #[.agg #[.int .i64 4, .int .i64 a, .int .i64 b, .int .i64 c, .int .i64 n, .string nm, .string s, v, .int .i64 pos], .func (.func 36) #[] #[.pointer (some ⟨p1, 0, none⟩), .pointer (some ⟨p5, 0, none⟩)]] w (SPost nm w) := by
  have HB := Lib.hid ((Below.refl _ w).alloc (Nat.le_refl _) (.cells #[.int .i64 4, .int .i64 a, .int .i64 b, .int .i64 c, .int .i64 n, .string nm, .string s, v, .int .i64 pos] 37))
  go_enter Tryz.func37, Tryz.ntmps37
  go_wp2
  go_ret
  exact ⟨rfl, HB.out⟩
theorem prim_is (sa sb sg : ByteArray) (t f : Int) (ht : tight 10 n = t) (hf : fst1 n = f) (hg : sgn n = sg) (hgz : sg.size <= 2) (ha : sa.size <= 1000000000) (hb : sb.size <= 1000000000)
    (HA : Hid (∀ W, Below w.heap.size w W -> Calls Tryz.prog 36 #[.int .i64 a, .int .i64 f, .pointer (some ⟨p1, 0, none⟩), .pointer (some ⟨p5, 0, none⟩)] W (SPost sa W)))
    (HBB : Hid (∀ W, Below w.heap.size w W -> Calls Tryz.prog 36 #[.int .i64 b, .int .i64 (t + 1), .pointer (some ⟨p1, 0, none⟩), .pointer (some ⟨p5, 0, none⟩)] W (SPost sb W))) :
    Calls Tryz.prog 67 #[.agg #[.int .i64 10, .int .i64 a, .int .i64 b, .int .i64 c, .int .i64 n, .string nm, .string s, v, .int .i64 pos], .func (.func 36) #[] #[.pointer (some ⟨p1, 0, none⟩), .pointer (some ⟨p5, 0, none⟩)]] w (SPost ((((sa ++ ⟨#[32]⟩) ++ sg) ++ ⟨#[32]⟩) ++ sb) w) := by
  have HB := Lib.hid ((Below.refl _ w).alloc (Nat.le_refl _) (.cells #[.int .i64 10, .int .i64 a, .int .i64 b, .int .i64 c, .int .i64 n, .string nm, .string s, v, .int .i64 pos] 37))
  have HN := Lib.hid (World.alloc_heap_new w (.cells #[.int .i64 10, .int .i64 a, .int .i64 b, .int .i64 c, .int .i64 n, .string nm, .string s, v, .int .i64 pos] 37))
  have HTI := Lib.hid (tight_is 10 a b c n pos nm s v t ht)
  have HSG := Lib.hid (sign_is n sg hg)
  have z0 : ∀ W : World, (Op.stringOp .add sa ⟨#[32]⟩).run Tryz.prog W = .ok (.string (sa ++ ⟨#[32]⟩)) W := fun W => run_string_add_sum W _ _ (Nat.le_trans (Nat.add_le_add ha (Nat.le_refl 1)) (by decide))
  have z1 : ∀ W : World, (Op.stringOp .add (sa ++ ⟨#[32]⟩) sg).run Tryz.prog W = .ok (.string ((sa ++ ⟨#[32]⟩) ++ sg)) W := fun W => run_string_add_sum W _ _ (Nat.le_trans (Nat.add_le_add (cat_le ha (Nat.le_refl 1)) hgz) (by decide))
  have z2 : ∀ W : World, (Op.stringOp .add ((sa ++ ⟨#[32]⟩) ++ sg) ⟨#[32]⟩).run Tryz.prog W = .ok (.string (((sa ++ ⟨#[32]⟩) ++ sg) ++ ⟨#[32]⟩)) W := fun W => run_string_add_sum W _ _ (Nat.le_trans (Nat.add_le_add (cat_le (cat_le ha (Nat.le_refl 1)) hgz) (Nat.le_refl 1)) (by decide))
  have z3 : ∀ W : World, (Op.stringOp .add (((sa ++ ⟨#[32]⟩) ++ sg) ++ ⟨#[32]⟩) sb).run Tryz.prog W = .ok (.string ((((sa ++ ⟨#[32]⟩) ++ sg) ++ ⟨#[32]⟩) ++ sb)) W := fun W => run_string_add_sum W _ _ (Nat.le_trans (Nat.add_le_add (cat_le (cat_le (cat_le ha (Nat.le_refl 1)) hgz) (Nat.le_refl 1)) hb) (by decide))
  have htb : 1 <= t /\ t <= 3 := by
    have e : (if n = 5 ∨ n = 6 then 1 else if n = 3 ∨ n = 4 then 3 else 2 : Int) = t := ht
    split at e
    · omega
    · split at e <;> omega
  clear hg
  have hff : (n = 5 ∨ n = 6 -> f = t + 1) /\ (¬ (n = 5 ∨ n = 6) -> f = t) := by
    unfold fst1 at hf
    have e : (if n = 5 ∨ n = 6 then 1 else if n = 3 ∨ n = 4 then 3 else 2 : Int) = t := ht
    refine ⟨fun h => ?_, fun h => ?_⟩
    · rw [if_pos h] at hf e; omega
    · rw [if_neg h] at hf; omega
  clear ht hf
  by_cases h5 : n = 5
  · obtain rfl := hff.1 (.inl h5)
    subst h5
    clear hff
    go_enter Tryz.func67, Tryz.ntmps67
    go_wp2_with (first | (go_at_call 17; have hh := H1.out; refine (HTI.out w1).mono ?_; rintro e w2 ⟨rfl, hb2⟩; have H2 := Lib.hid (H1.out.trans (hb2.mono H1.out.size)); have g := (hb2.block w.heap.size (Array.getElem?_eq_some_iff.1 G1.out).1).trans G1.out; have u1 := Blk_cell g 1; have u2 := Blk_cell g 2; have u4 := Blk_cell g 4; have G2 := Lib.hid g; clear hb2 g hh) | (go_at_call 17; refine (HTI.out _).mono ?_; rintro e w1 ⟨rfl, hb1⟩; have H1 := Lib.hid (HB.out.trans (hb1.mono HB.out.size)); have g := (hb1.block w.heap.size (Array.getElem?_eq_some_iff.1 HN.out).1).trans HN.out; obtain ⟨q0, q1, q2, q3, q4, q5, q6, q7, q8⟩ := nine g; have G1 := Lib.hid g; clear hb1 g))
    have HD := Lib.hid H2.out.drew
    go_region_held3 (fun W => W.cell? ⟨w.heap.size, 1, none⟩ = some (.int .i64 a) /\ W.cell? ⟨w.heap.size, 2, none⟩ = some (.int .i64 b) /\ W.cell? ⟨w.heap.size, 4, none⟩ = some (.int .i64 5)) (first | exact ⟨u1, u2, u4⟩ | exact ⟨x1, x2, x4⟩ | exact ⟨v1, v2, v4⟩ | exact ⟨y1, y2, y4⟩) (first | (go_at_call 36; (with_reducible refine (HBB.out _ H4.out).mono ?_); rintro e w5 ⟨rfl, hb⟩; have H5 := Lib.hid (H4.out.trans (hb.mono H4.out.size)); have g := (hb.block w.heap.size (Array.getElem?_eq_some_iff.1 G4.out).1).trans G4.out; have y1 := Blk_cell g 1; have y2 := Blk_cell g 2; have y4 := Blk_cell g 4; clear hb g) | (go_at_call 19; (with_reducible refine (HSG.out _).mono ?_); rintro e w4 ⟨rfl, hb⟩; have H4 := Lib.hid (H3.out.trans (hb.mono H3.out.size)); have g := (hb.block w.heap.size (Array.getElem?_eq_some_iff.1 G3.out).1).trans G3.out; have v1 := Blk_cell g 1; have v2 := Blk_cell g 2; have v4 := Blk_cell g 4; have G4 := Lib.hid g; clear hb g) | (go_at_call 36; (with_reducible refine (HA.out _ HD.out).mono ?_); rintro e w3 ⟨rfl, hb⟩; have H3 := Lib.hid (HD.out.trans (hb.mono HD.out.size)); have g := (hb.block w.heap.size (Array.getElem?_eq_some_iff.1 G2.out).1).trans G2.out; have x1 := Blk_cell g 1; have x2 := Blk_cell g 2; have x4 := Blk_cell g 4; have G3 := Lib.hid g; clear hb g))
    all_goals
      go_wp2
      go_ret
      exact ⟨rfl, H5.out⟩
  by_cases h6 : n = 6
  · obtain rfl := hff.1 (.inr h6)
    subst h6
    clear hff h5
    go_enter Tryz.func67, Tryz.ntmps67
    go_wp2_with (first | (go_at_call 17; have hh := H1.out; refine (HTI.out w1).mono ?_; rintro e w2 ⟨rfl, hb2⟩; have H2 := Lib.hid (H1.out.trans (hb2.mono H1.out.size)); have g := (hb2.block w.heap.size (Array.getElem?_eq_some_iff.1 G1.out).1).trans G1.out; have u1 := Blk_cell g 1; have u2 := Blk_cell g 2; have u4 := Blk_cell g 4; have G2 := Lib.hid g; clear hb2 g hh) | (go_at_call 17; refine (HTI.out _).mono ?_; rintro e w1 ⟨rfl, hb1⟩; have H1 := Lib.hid (HB.out.trans (hb1.mono HB.out.size)); have g := (hb1.block w.heap.size (Array.getElem?_eq_some_iff.1 HN.out).1).trans HN.out; obtain ⟨q0, q1, q2, q3, q4, q5, q6, q7, q8⟩ := nine g; have G1 := Lib.hid g; clear hb1 g))
    have HD := Lib.hid H2.out.drew
    go_region_held3 (fun W => W.cell? ⟨w.heap.size, 1, none⟩ = some (.int .i64 a) /\ W.cell? ⟨w.heap.size, 2, none⟩ = some (.int .i64 b) /\ W.cell? ⟨w.heap.size, 4, none⟩ = some (.int .i64 6)) (first | exact ⟨u1, u2, u4⟩ | exact ⟨x1, x2, x4⟩ | exact ⟨v1, v2, v4⟩ | exact ⟨y1, y2, y4⟩) (first | (go_at_call 36; (with_reducible refine (HBB.out _ H4.out).mono ?_); rintro e w5 ⟨rfl, hb⟩; have H5 := Lib.hid (H4.out.trans (hb.mono H4.out.size)); have g := (hb.block w.heap.size (Array.getElem?_eq_some_iff.1 G4.out).1).trans G4.out; have y1 := Blk_cell g 1; have y2 := Blk_cell g 2; have y4 := Blk_cell g 4; clear hb g) | (go_at_call 19; (with_reducible refine (HSG.out _).mono ?_); rintro e w4 ⟨rfl, hb⟩; have H4 := Lib.hid (H3.out.trans (hb.mono H3.out.size)); have g := (hb.block w.heap.size (Array.getElem?_eq_some_iff.1 G3.out).1).trans G3.out; have v1 := Blk_cell g 1; have v2 := Blk_cell g 2; have v4 := Blk_cell g 4; have G4 := Lib.hid g; clear hb g) | (go_at_call 36; (with_reducible refine (HA.out _ HD.out).mono ?_); rintro e w3 ⟨rfl, hb⟩; have H3 := Lib.hid (HD.out.trans (hb.mono HD.out.size)); have g := (hb.block w.heap.size (Array.getElem?_eq_some_iff.1 G2.out).1).trans G2.out; have x1 := Blk_cell g 1; have x2 := Blk_cell g 2; have x4 := Blk_cell g 4; have G3 := Lib.hid g; clear hb g))
    all_goals
      go_wp2
      go_ret
      exact ⟨rfl, H5.out⟩
  obtain rfl := hff.2 (by omega)
  have e5 := eqf h5
  have e6 := eqf h6
  clear hff h5 h6
  go_enter Tryz.func67, Tryz.ntmps67
  go_wp2_with (first | (go_at_call 17; have hh := H1.out; refine (HTI.out w1).mono ?_; rintro e w2 ⟨rfl, hb2⟩; have H2 := Lib.hid (H1.out.trans (hb2.mono H1.out.size)); have g := (hb2.block w.heap.size (Array.getElem?_eq_some_iff.1 G1.out).1).trans G1.out; have u1 := Blk_cell g 1; have u2 := Blk_cell g 2; have u4 := Blk_cell g 4; have G2 := Lib.hid g; clear hb2 g hh) | (go_at_call 17; refine (HTI.out _).mono ?_; rintro e w1 ⟨rfl, hb1⟩; have H1 := Lib.hid (HB.out.trans (hb1.mono HB.out.size)); have g := (hb1.block w.heap.size (Array.getElem?_eq_some_iff.1 HN.out).1).trans HN.out; obtain ⟨q0, q1, q2, q3, q4, q5, q6, q7, q8⟩ := nine g; have G1 := Lib.hid g; clear hb1 g))
  have HD := Lib.hid H2.out.drew
  go_region_held3 (fun W => W.cell? ⟨w.heap.size, 1, none⟩ = some (.int .i64 a) /\ W.cell? ⟨w.heap.size, 2, none⟩ = some (.int .i64 b) /\ W.cell? ⟨w.heap.size, 4, none⟩ = some (.int .i64 n)) (first | exact ⟨u1, u2, u4⟩ | exact ⟨x1, x2, x4⟩ | exact ⟨v1, v2, v4⟩ | exact ⟨y1, y2, y4⟩) (first | (go_at_call 36; (with_reducible refine (HBB.out _ H4.out).mono ?_); rintro e w5 ⟨rfl, hb⟩; have H5 := Lib.hid (H4.out.trans (hb.mono H4.out.size)); have g := (hb.block w.heap.size (Array.getElem?_eq_some_iff.1 G4.out).1).trans G4.out; have y1 := Blk_cell g 1; have y2 := Blk_cell g 2; have y4 := Blk_cell g 4; clear hb g) | (go_at_call 19; (with_reducible refine (HSG.out _).mono ?_); rintro e w4 ⟨rfl, hb⟩; have H4 := Lib.hid (H3.out.trans (hb.mono H3.out.size)); have g := (hb.block w.heap.size (Array.getElem?_eq_some_iff.1 G3.out).1).trans G3.out; have v1 := Blk_cell g 1; have v2 := Blk_cell g 2; have v4 := Blk_cell g 4; have G4 := Lib.hid g; clear hb g) | (go_at_call 36; (with_reducible refine (HA.out _ HD.out).mono ?_); rintro e w3 ⟨rfl, hb⟩; have H3 := Lib.hid (HD.out.trans (hb.mono HD.out.size)); have g := (hb.block w.heap.size (Array.getElem?_eq_some_iff.1 G2.out).1).trans G2.out; have x1 := Blk_cell g 1; have x2 := Blk_cell g 2; have x4 := Blk_cell g 4; have G3 := Lib.hid g; clear hb g))
  all_goals
    go_wp2
    go_ret
    exact ⟨rfl, H5.out⟩
end
end Go.Proofs.YtjakeidbajkdcaaGreatDoor.S
