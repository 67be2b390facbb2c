/- Joined by program: PWithB, PWithC, PWithD, PWithAny. -/
import Derived.Test.YtjakeidbajkdcaaGreatDoorG17
/- withKids, the program's, of a node with so many own children. -/
namespace Go.Proofs.YtjakeidbajkdcaaGreatDoor.T
open Go.RowKit
set_option maxRecDepth 100000 in
set_option maxHeartbeats 8000000 in
theorem wk_1 (k a b c n pos : Int) (nm s : ByteArray) (FA : Option Addr) (FL fc : Nat) (k0 : Int) (KL gk ck : Nat) (rl : List Fld) (HO : Hid (ownN k = 1)) (hKL : 1 ≤ KL) (hck : KL ≤ ck) (hS : nm.size ≤ 281474976710656 ∧ s.size ≤ 281474976710656) (w : World) (hgk : gk < w.heap.size) (HR : Hid (∀ (j : Nat) (z : Int), ([k0] : List Int)[j]? = some z → w.cell? ⟨gk, j, none⟩ = some (.int .i64 z)))
    (HPL : Hid (∀ (A : Option Addr) (w1 : World), Below w.heap.size w w1 → (1 < ck → A = some ⟨gk, 1, none⟩) → Calls Tryz.prog 105 #[.agg #[.int .i64 k, .int .i64 k0, .int .i64 0, .int .i64 0, .int .i64 n, .string nm, .string s, .slice FA FL fc, .int .i64 pos], .slice A (KL - 1) (ck - 1)] w1 (PlPost rl w1))) :
    Calls Tryz.prog 62 #[.agg #[.int .i64 k, .int .i64 a, .int .i64 b, .int .i64 c, .int .i64 n, .string nm, .string s, .slice FA FL fc, .int .i64 pos], .slice (some ⟨gk, 0, none⟩) KL ck] w (WPost (fun v => #[.int .i64 k, .int .i64 k0, .int .i64 0, .int .i64 0, .int .i64 n, .string nm, .string s, v, .int .i64 pos]) rl w) := by
  obtain ⟨w1, hw1⟩ : ∃ w1, ((w.alloc (.cells #[.int .i64 k, .int .i64 a, .int .i64 b, .int .i64 c, .int .i64 n, .string nm, .string s, .slice FA FL fc, .int .i64 pos] 37)).alloc (.cells #[.int .i64 0, .int .i64 0, .int .i64 0, .int .i64 0, .int .i64 0, .string ⟨#[]⟩, .string ⟨#[]⟩, .slice none 0 0, .int .i64 0] 37)).alloc (.cells #[.int .i64 0, .int .i64 0, .int .i64 0] 115) = w1 := ⟨_, rfl⟩
  have hs1 : w1.heap.size = w.heap.size + 3 := by rw [← hw1]; simp
  have hB1 : Below w.heap.size w w1 := by rw [← hw1]; exact below3 (Nat.le_refl _) _ _ _
  have hg1 : w1.heap[w.heap.size + 2]? = some (.cells #[.int .i64 0, .int .i64 0, .int .i64 0] 115) := by rw [← hw1]; exact heap_new _ _ _ (by simp)
  have hr1 : w1.heap[w.heap.size + 1]? = some (.cells #[.int .i64 0, .int .i64 0, .int .i64 0, .int .i64 0, .int .i64 0, .string ⟨#[]⟩, .string ⟨#[]⟩, .slice none 0 0, .int .i64 0] 37) := by
    rw [← hw1, ((Below.refl (w.heap.size + 2) ((w.alloc (.cells #[.int .i64 k, .int .i64 a, .int .i64 b, .int .i64 c, .int .i64 n, .string nm, .string s, .slice FA FL fc, .int .i64 pos] 37)).alloc (.cells #[.int .i64 0, .int .i64 0, .int .i64 0, .int .i64 0, .int .i64 0, .string ⟨#[]⟩, .string ⟨#[]⟩, .slice none 0 0, .int .i64 0] 37))).alloc (by simp) (.cells #[.int .i64 0, .int .i64 0, .int .i64 0] 115)).block _ (by omega)]
    exact heap_new _ _ _ (by simp)
  have hx1 : w1.heap[w.heap.size]? = some (.cells #[.int .i64 k, .int .i64 a, .int .i64 b, .int .i64 c, .int .i64 n, .string nm, .string s, .slice FA FL fc, .int .i64 pos] 37) := by
    rw [← hw1, ((Below.refl (w.heap.size + 2) ((w.alloc (.cells #[.int .i64 k, .int .i64 a, .int .i64 b, .int .i64 c, .int .i64 n, .string nm, .string s, .slice FA FL fc, .int .i64 pos] 37)).alloc (.cells #[.int .i64 0, .int .i64 0, .int .i64 0, .int .i64 0, .int .i64 0, .string ⟨#[]⟩, .string ⟨#[]⟩, .slice none 0 0, .int .i64 0] 37))).alloc (by simp) (.cells #[.int .i64 0, .int .i64 0, .int .i64 0] 115)).block _ (by omega), ((Below.refl (w.heap.size + 1) (w.alloc (.cells #[.int .i64 k, .int .i64 a, .int .i64 b, .int .i64 c, .int .i64 n, .string nm, .string s, .slice FA FL fc, .int .i64 pos] 37))).alloc (by simp) (.cells #[.int .i64 0, .int .i64 0, .int .i64 0, .int .i64 0, .int .i64 0, .string ⟨#[]⟩, .string ⟨#[]⟩, .slice none 0 0, .int .i64 0] 37)).block _ (by omega)]
    exact heap_new _ _ _ rfl
  obtain ⟨W4, hcp, hg4, hb4, hot⟩ := copy_at w1 (w.heap.size + 2) 1 3 ⟨gk, 0, none⟩ KL ck [.int .i64 0, .int .i64 0, .int .i64 0] (([k0] : List Int).map (Value.int .i64)) 115 hg1 (by show 1 = min KL 1; omega) (fun j v hv => by
    rw [List.getElem?_map, Option.map_eq_some_iff] at hv
    obtain ⟨z, hz, rfl⟩ := hv
    rw [Addr.add_lit, Nat.zero_add, hB1.cell (p := ⟨gk, j, none⟩) hgk]
    exact HR.out j z hz) (by simp) oneInt
  have hg4' : W4.heap[w.heap.size + 2]? = some (.cells #[.int .i64 k0, .int .i64 0, .int .i64 0] 115) := by rw [hg4]; rfl
  have hr4 := (hot (w.heap.size + 1) (by omega)).trans hr1
  have hx4 := (hot w.heap.size (by omega)).trans hx1
  have HB4 := Lib.hid (hB1.trans (hb4.mono (by omega)))
  have HX4 := Lib.hid hx4
  have HR4 := Lib.hid hr4
  have hs4 := hb4.size
  rw [← hw1] at hcp
  have o0 := Blk_cell hg4' 0
  have o1 := Blk_cell hg4' 1
  have o2 := Blk_cell hg4' 2
  have b0 := Blk_cell hx4 0
  have f1 := Blk_frozen hx4 1
  have f2 := Blk_frozen hx4 2
  have f3 := Blk_frozen hx4 3
  have b1 := Blk_cell hx4 1
  have b2 := Blk_cell hx4 2
  have b3 := Blk_cell hx4 3
  simp only [List.getElem?_toArray, List.getElem?_cons_zero, List.getElem?_cons_succ] at o0 o1 o2 b0 b1 b2 b3
  clear hg1 hr1 hx1 hot hg4 hg4' hr4 hx4 hb4 hw1 hB1
  by_cases hcm : 1 < ck
  · go_enter Tryz.func62, Tryz.ntmps62
    go_wp2_with (go_at_call 103; refine (ownKids_is HO.out _).mono ?_; rintro e w1 ⟨rfl, rfl⟩)
    go_region
    obtain ⟨W5, hW5⟩ : ∃ W5, (((W4.setCell ⟨w.heap.size, 1, none⟩ (.int .i64 k0)).setCell ⟨w.heap.size, 2, none⟩ (.int .i64 0)).setCell ⟨w.heap.size, 3, none⟩ (.int .i64 0)).drew = W5 := ⟨_, rfl⟩
    rw [hW5]
    have HX5 : Hid (W5.heap[w.heap.size]? = some (.cells #[.int .i64 k, .int .i64 k0, .int .i64 0, .int .i64 0, .int .i64 n, .string nm, .string s, .slice FA FL fc, .int .i64 pos] 37)) := Lib.hid (by
      rw [← hW5]
      exact (blk_put (j := 3) (blk_put (j := 2) (blk_put (j := 1) HX4.out))))
    have HR5 : Hid (W5.heap[w.heap.size + 1]? = some (.cells #[.int .i64 0, .int .i64 0, .int .i64 0, .int .i64 0, .int .i64 0, .string ⟨#[]⟩, .string ⟨#[]⟩, .slice none 0 0, .int .i64 0] 37)) := Lib.hid (by
      rw [← hW5]
      exact (set_far _ _ _ _ _ (by omega)).trans ((set_far _ _ _ _ _ (by omega)).trans ((set_far _ _ _ _ _ (by omega)).trans HR4.out)))
    have HB5 : Hid (Below w.heap.size w W5) := Lib.hid (by
      rw [← hW5]
      exact (((HB4.out.setCell (p := ⟨w.heap.size, 1, none⟩) (Nat.le_refl _) _).setCell (p := ⟨w.heap.size, 2, none⟩) (Nat.le_refl _) _).setCell (p := ⟨w.heap.size, 3, none⟩) (Nat.le_refl _) _).drew)
    have b5 : W5.cell? ⟨w.heap.size, 5, none⟩ = some (.string nm) := (Blk_cell HX5.out 5).trans rfl
    have b6 : W5.cell? ⟨w.heap.size, 6, none⟩ = some (.string s) := (Blk_cell HX5.out 6).trans rfl
    have f5 := Blk_frozen HX5.out 5
    have f6 := Blk_frozen HX5.out 6
    have hx5 : w.heap.size < W5.heap.size := (Array.getElem?_eq_some_iff.1 HX5.out).1
    have hy5 : w.heap.size + 1 < W5.heap.size := (Array.getElem?_eq_some_iff.1 HR5.out).1
    clear hW5 o0 o1 o2 b0 b1 b2 b3 f1 f2 f3
    have HC0 : Hid (Below W5.heap.size W5 W5.drew) := Lib.hid (Below.refl _ _).drew
    go_wp2_with fail
    go_region_with (go_at_call 38; refine (clone_any _ (by first | exact hS.1 | exact hS.2) _).mono ?_; rintro e w2 ⟨rfl, hb2⟩; have HC0 := Lib.hid (HC0.out.trans (hb2.mono HC0.out.size)); have d5 := (HC0.out.cell (p := ⟨w.heap.size, 5, none⟩) hx5).trans b5; have d6 := (HC0.out.cell (p := ⟨w.heap.size, 6, none⟩) hx5).trans b6; have g5 := (HC0.out.frozen (p := ⟨w.heap.size, 5, none⟩) hx5).trans f5; have g6 := (HC0.out.frozen (p := ⟨w.heap.size, 6, none⟩) hx5).trans f6; clear hb2)
    all_goals
      obtain ⟨W6, hW6⟩ : ∃ W6, (w2.setCell ⟨w.heap.size, 5, none⟩ (.string nm)).setCell ⟨w.heap.size, 6, none⟩ (.string s) = W6 := ⟨_, rfl⟩
      rw [hW6]
      have HX6 : Hid (W6.heap[w.heap.size]? = some (.cells #[.int .i64 k, .int .i64 k0, .int .i64 0, .int .i64 0, .int .i64 n, .string nm, .string s, .slice FA FL fc, .int .i64 pos] 37)) := Lib.hid (by rw [← hW6]; exact blk_put (j := 6) (blk_put (j := 5) ((HC0.out.block w.heap.size hx5).trans HX5.out)))
      have HR6 : Hid (W6.heap[w.heap.size + 1]? = some (.cells #[.int .i64 0, .int .i64 0, .int .i64 0, .int .i64 0, .int .i64 0, .string ⟨#[]⟩, .string ⟨#[]⟩, .slice none 0 0, .int .i64 0] 37)) := Lib.hid (by rw [← hW6]; exact (set_far _ _ _ _ _ (by omega)).trans ((set_far _ _ _ _ _ (by omega)).trans ((HC0.out.block (w.heap.size + 1) hy5).trans HR5.out)))
      have HB6 : Hid (Below w.heap.size w W6) := Lib.hid (by rw [← hW6]; exact ((HB5.out.trans (HC0.out.mono HB5.out.size)).setCell (p := ⟨w.heap.size, 5, none⟩) (Nat.le_refl _) _).setCell (p := ⟨w.heap.size, 6, none⟩) (Nat.le_refl _) _)
      have hz6 : w.heap.size + 1 < W6.heap.size := (Array.getElem?_eq_some_iff.1 HR6.out).1
      obtain ⟨x0, x1, x2, x3, x4, x5, x6, x7, x8, xf⟩ := cells9 HX6.out
      clear hW6 b5 b6 f5 f6 d5 d6 g5 g6
      go_wp2_with (go_at_call 105; refine (HPL.out _ _ HB6.out (fun _ => rfl)).mono ?_; rintro e w7 ⟨A7, c7, rfl, hown7, hb7⟩; have HX7 := Lib.hid ((hb7.block w.heap.size (by omega)).trans HX6.out); have HR7 := Lib.hid ((hb7.block (w.heap.size + 1) hz6).trans HR6.out); obtain ⟨y0, y1, y2, y3, y4, y5, y6, y7, y8, yf⟩ := cells9 HX7.out; obtain ⟨r0, r1, r2, r3, r4, r5, r6, r7, r8, rf⟩ := cells9 HR7.out; have HO7 := Lib.hid hown7; have HB7 := Lib.hid (HB6.out.trans (hb7.mono (by omega))); clear hown7 hb7)
      exact bodyPost_ret (v := .agg #[.int .i64 k, .int .i64 k0, .int .i64 0, .int .i64 0, .int .i64 n, .string nm, .string s, (.slice A7 rl.length c7), .int .i64 pos]) (res33 _ _ (w.heap.size + 1) _ _ _ _ _ _ _ _ _ (by simp) (store9 ((set_far _ _ _ _ _ (by omega)).trans HR7.out))) rfl ⟨A7, c7, rfl, row_mono (ownF_set9 (ownF_set HO7.out (by omega)) (by omega)) (by omega), (HB7.out.setCell (p := ⟨w.heap.size, 7, none⟩) (Nat.le_refl _) _).trans (grow9 (by omega))⟩
  · (obtain rfl : ck = 1 := by omega)
    obtain rfl : KL = 1 := by omega
    go_enter Tryz.func62, Tryz.ntmps62
    go_wp2_with (go_at_call 103; refine (ownKids_is HO.out _).mono ?_; rintro e w1 ⟨rfl, rfl⟩)
    go_region
    obtain ⟨W5, hW5⟩ : ∃ W5, (((W4.setCell ⟨w.heap.size, 1, none⟩ (.int .i64 k0)).setCell ⟨w.heap.size, 2, none⟩ (.int .i64 0)).setCell ⟨w.heap.size, 3, none⟩ (.int .i64 0)).drew = W5 := ⟨_, rfl⟩
    rw [hW5]
    have HX5 : Hid (W5.heap[w.heap.size]? = some (.cells #[.int .i64 k, .int .i64 k0, .int .i64 0, .int .i64 0, .int .i64 n, .string nm, .string s, .slice FA FL fc, .int .i64 pos] 37)) := Lib.hid (by
      rw [← hW5]
      exact (blk_put (j := 3) (blk_put (j := 2) (blk_put (j := 1) HX4.out))))
    have HR5 : Hid (W5.heap[w.heap.size + 1]? = some (.cells #[.int .i64 0, .int .i64 0, .int .i64 0, .int .i64 0, .int .i64 0, .string ⟨#[]⟩, .string ⟨#[]⟩, .slice none 0 0, .int .i64 0] 37)) := Lib.hid (by
      rw [← hW5]
      exact (set_far _ _ _ _ _ (by omega)).trans ((set_far _ _ _ _ _ (by omega)).trans ((set_far _ _ _ _ _ (by omega)).trans HR4.out)))
    have HB5 : Hid (Below w.heap.size w W5) := Lib.hid (by
      rw [← hW5]
      exact (((HB4.out.setCell (p := ⟨w.heap.size, 1, none⟩) (Nat.le_refl _) _).setCell (p := ⟨w.heap.size, 2, none⟩) (Nat.le_refl _) _).setCell (p := ⟨w.heap.size, 3, none⟩) (Nat.le_refl _) _).drew)
    have b5 : W5.cell? ⟨w.heap.size, 5, none⟩ = some (.string nm) := (Blk_cell HX5.out 5).trans rfl
    have b6 : W5.cell? ⟨w.heap.size, 6, none⟩ = some (.string s) := (Blk_cell HX5.out 6).trans rfl
    have f5 := Blk_frozen HX5.out 5
    have f6 := Blk_frozen HX5.out 6
    have hx5 : w.heap.size < W5.heap.size := (Array.getElem?_eq_some_iff.1 HX5.out).1
    have hy5 : w.heap.size + 1 < W5.heap.size := (Array.getElem?_eq_some_iff.1 HR5.out).1
    clear hW5 o0 o1 o2 b0 b1 b2 b3 f1 f2 f3
    have HC0 : Hid (Below W5.heap.size W5 W5.drew) := Lib.hid (Below.refl _ _).drew
    go_wp2_with fail
    go_region_with (go_at_call 38; refine (clone_any _ (by first | exact hS.1 | exact hS.2) _).mono ?_; rintro e w2 ⟨rfl, hb2⟩; have HC0 := Lib.hid (HC0.out.trans (hb2.mono HC0.out.size)); have d5 := (HC0.out.cell (p := ⟨w.heap.size, 5, none⟩) hx5).trans b5; have d6 := (HC0.out.cell (p := ⟨w.heap.size, 6, none⟩) hx5).trans b6; have g5 := (HC0.out.frozen (p := ⟨w.heap.size, 5, none⟩) hx5).trans f5; have g6 := (HC0.out.frozen (p := ⟨w.heap.size, 6, none⟩) hx5).trans f6; clear hb2)
    all_goals
      obtain ⟨W6, hW6⟩ : ∃ W6, (w2.setCell ⟨w.heap.size, 5, none⟩ (.string nm)).setCell ⟨w.heap.size, 6, none⟩ (.string s) = W6 := ⟨_, rfl⟩
      rw [hW6]
      have HX6 : Hid (W6.heap[w.heap.size]? = some (.cells #[.int .i64 k, .int .i64 k0, .int .i64 0, .int .i64 0, .int .i64 n, .string nm, .string s, .slice FA FL fc, .int .i64 pos] 37)) := Lib.hid (by rw [← hW6]; exact blk_put (j := 6) (blk_put (j := 5) ((HC0.out.block w.heap.size hx5).trans HX5.out)))
      have HR6 : Hid (W6.heap[w.heap.size + 1]? = some (.cells #[.int .i64 0, .int .i64 0, .int .i64 0, .int .i64 0, .int .i64 0, .string ⟨#[]⟩, .string ⟨#[]⟩, .slice none 0 0, .int .i64 0] 37)) := Lib.hid (by rw [← hW6]; exact (set_far _ _ _ _ _ (by omega)).trans ((set_far _ _ _ _ _ (by omega)).trans ((HC0.out.block (w.heap.size + 1) hy5).trans HR5.out)))
      have HB6 : Hid (Below w.heap.size w W6) := Lib.hid (by rw [← hW6]; exact ((HB5.out.trans (HC0.out.mono HB5.out.size)).setCell (p := ⟨w.heap.size, 5, none⟩) (Nat.le_refl _) _).setCell (p := ⟨w.heap.size, 6, none⟩) (Nat.le_refl _) _)
      have hz6 : w.heap.size + 1 < W6.heap.size := (Array.getElem?_eq_some_iff.1 HR6.out).1
      obtain ⟨x0, x1, x2, x3, x4, x5, x6, x7, x8, xf⟩ := cells9 HX6.out
      clear hW6 b5 b6 f5 f6 d5 d6 g5 g6
      go_wp2_with (go_at_call 105; refine (HPL.out _ _ HB6.out (fun h => absurd h (by omega))).mono ?_; rintro e w7 ⟨A7, c7, rfl, hown7, hb7⟩; have HX7 := Lib.hid ((hb7.block w.heap.size (by omega)).trans HX6.out); have HR7 := Lib.hid ((hb7.block (w.heap.size + 1) hz6).trans HR6.out); obtain ⟨y0, y1, y2, y3, y4, y5, y6, y7, y8, yf⟩ := cells9 HX7.out; obtain ⟨r0, r1, r2, r3, r4, r5, r6, r7, r8, rf⟩ := cells9 HR7.out; have HO7 := Lib.hid hown7; have HB7 := Lib.hid (HB6.out.trans (hb7.mono (by omega))); clear hown7 hb7)
      exact bodyPost_ret (v := .agg #[.int .i64 k, .int .i64 k0, .int .i64 0, .int .i64 0, .int .i64 n, .string nm, .string s, (.slice A7 rl.length c7), .int .i64 pos]) (res33 _ _ (w.heap.size + 1) _ _ _ _ _ _ _ _ _ (by simp) (store9 ((set_far _ _ _ _ _ (by omega)).trans HR7.out))) rfl ⟨A7, c7, rfl, row_mono (ownF_set9 (ownF_set HO7.out (by omega)) (by omega)) (by omega), (HB7.out.setCell (p := ⟨w.heap.size, 7, none⟩) (Nat.le_refl _) _).trans (grow9 (by omega))⟩
end Go.Proofs.YtjakeidbajkdcaaGreatDoor.T
/- withKids, the program's, of a node with so many own children. -/
namespace Go.Proofs.YtjakeidbajkdcaaGreatDoor.T
open Go.RowKit
set_option maxRecDepth 100000 in
set_option maxHeartbeats 8000000 in
theorem wk_2 (k a b c n pos : Int) (nm s : ByteArray) (FA : Option Addr) (FL fc : Nat) (k0 : Int) (k1 : Int) (KL gk ck : Nat) (rl : List Fld) (HO : Hid (ownN k = 2)) (hKL : 2 ≤ KL) (hck : KL ≤ ck) (hS : nm.size ≤ 281474976710656 ∧ s.size ≤ 281474976710656) (w : World) (hgk : gk < w.heap.size) (HR : Hid (∀ (j : Nat) (z : Int), ([k0, k1] : List Int)[j]? = some z → w.cell? ⟨gk, j, none⟩ = some (.int .i64 z)))
    (HPL : Hid (∀ (A : Option Addr) (w1 : World), Below w.heap.size w w1 → (2 < ck → A = some ⟨gk, 2, none⟩) → Calls Tryz.prog 105 #[.agg #[.int .i64 k, .int .i64 k0, .int .i64 k1, .int .i64 0, .int .i64 n, .string nm, .string s, .slice FA FL fc, .int .i64 pos], .slice A (KL - 2) (ck - 2)] w1 (PlPost rl w1))) :
    Calls Tryz.prog 62 #[.agg #[.int .i64 k, .int .i64 a, .int .i64 b, .int .i64 c, .int .i64 n, .string nm, .string s, .slice FA FL fc, .int .i64 pos], .slice (some ⟨gk, 0, none⟩) KL ck] w (WPost (fun v => #[.int .i64 k, .int .i64 k0, .int .i64 k1, .int .i64 0, .int .i64 n, .string nm, .string s, v, .int .i64 pos]) rl w) := by
  obtain ⟨w1, hw1⟩ : ∃ w1, ((w.alloc (.cells #[.int .i64 k, .int .i64 a, .int .i64 b, .int .i64 c, .int .i64 n, .string nm, .string s, .slice FA FL fc, .int .i64 pos] 37)).alloc (.cells #[.int .i64 0, .int .i64 0, .int .i64 0, .int .i64 0, .int .i64 0, .string ⟨#[]⟩, .string ⟨#[]⟩, .slice none 0 0, .int .i64 0] 37)).alloc (.cells #[.int .i64 0, .int .i64 0, .int .i64 0] 115) = w1 := ⟨_, rfl⟩
  have hs1 : w1.heap.size = w.heap.size + 3 := by rw [← hw1]; simp
  have hB1 : Below w.heap.size w w1 := by rw [← hw1]; exact below3 (Nat.le_refl _) _ _ _
  have hg1 : w1.heap[w.heap.size + 2]? = some (.cells #[.int .i64 0, .int .i64 0, .int .i64 0] 115) := by rw [← hw1]; exact heap_new _ _ _ (by simp)
  have hr1 : w1.heap[w.heap.size + 1]? = some (.cells #[.int .i64 0, .int .i64 0, .int .i64 0, .int .i64 0, .int .i64 0, .string ⟨#[]⟩, .string ⟨#[]⟩, .slice none 0 0, .int .i64 0] 37) := by
    rw [← hw1, ((Below.refl (w.heap.size + 2) ((w.alloc (.cells #[.int .i64 k, .int .i64 a, .int .i64 b, .int .i64 c, .int .i64 n, .string nm, .string s, .slice FA FL fc, .int .i64 pos] 37)).alloc (.cells #[.int .i64 0, .int .i64 0, .int .i64 0, .int .i64 0, .int .i64 0, .string ⟨#[]⟩, .string ⟨#[]⟩, .slice none 0 0, .int .i64 0] 37))).alloc (by simp) (.cells #[.int .i64 0, .int .i64 0, .int .i64 0] 115)).block _ (by omega)]
    exact heap_new _ _ _ (by simp)
  have hx1 : w1.heap[w.heap.size]? = some (.cells #[.int .i64 k, .int .i64 a, .int .i64 b, .int .i64 c, .int .i64 n, .string nm, .string s, .slice FA FL fc, .int .i64 pos] 37) := by
    rw [← hw1, ((Below.refl (w.heap.size + 2) ((w.alloc (.cells #[.int .i64 k, .int .i64 a, .int .i64 b, .int .i64 c, .int .i64 n, .string nm, .string s, .slice FA FL fc, .int .i64 pos] 37)).alloc (.cells #[.int .i64 0, .int .i64 0, .int .i64 0, .int .i64 0, .int .i64 0, .string ⟨#[]⟩, .string ⟨#[]⟩, .slice none 0 0, .int .i64 0] 37))).alloc (by simp) (.cells #[.int .i64 0, .int .i64 0, .int .i64 0] 115)).block _ (by omega), ((Below.refl (w.heap.size + 1) (w.alloc (.cells #[.int .i64 k, .int .i64 a, .int .i64 b, .int .i64 c, .int .i64 n, .string nm, .string s, .slice FA FL fc, .int .i64 pos] 37))).alloc (by simp) (.cells #[.int .i64 0, .int .i64 0, .int .i64 0, .int .i64 0, .int .i64 0, .string ⟨#[]⟩, .string ⟨#[]⟩, .slice none 0 0, .int .i64 0] 37)).block _ (by omega)]
    exact heap_new _ _ _ rfl
  obtain ⟨W4, hcp, hg4, hb4, hot⟩ := copy_at w1 (w.heap.size + 2) 2 3 ⟨gk, 0, none⟩ KL ck [.int .i64 0, .int .i64 0, .int .i64 0] (([k0, k1] : List Int).map (Value.int .i64)) 115 hg1 (by show 2 = min KL 2; omega) (fun j v hv => by
    rw [List.getElem?_map, Option.map_eq_some_iff] at hv
    obtain ⟨z, hz, rfl⟩ := hv
    rw [Addr.add_lit, Nat.zero_add, hB1.cell (p := ⟨gk, j, none⟩) hgk]
    exact HR.out j z hz) (by simp) oneInt
  have hg4' : W4.heap[w.heap.size + 2]? = some (.cells #[.int .i64 k0, .int .i64 k1, .int .i64 0] 115) := by rw [hg4]; rfl
  have hr4 := (hot (w.heap.size + 1) (by omega)).trans hr1
  have hx4 := (hot w.heap.size (by omega)).trans hx1
  have HB4 := Lib.hid (hB1.trans (hb4.mono (by omega)))
  have HX4 := Lib.hid hx4
  have HR4 := Lib.hid hr4
  have hs4 := hb4.size
  rw [← hw1] at hcp
  have o0 := Blk_cell hg4' 0
  have o1 := Blk_cell hg4' 1
  have o2 := Blk_cell hg4' 2
  have b0 := Blk_cell hx4 0
  have f1 := Blk_frozen hx4 1
  have f2 := Blk_frozen hx4 2
  have f3 := Blk_frozen hx4 3
  have b1 := Blk_cell hx4 1
  have b2 := Blk_cell hx4 2
  have b3 := Blk_cell hx4 3
  simp only [List.getElem?_toArray, List.getElem?_cons_zero, List.getElem?_cons_succ] at o0 o1 o2 b0 b1 b2 b3
  clear hg1 hr1 hx1 hot hg4 hg4' hr4 hx4 hb4 hw1 hB1
  by_cases hcm : 2 < ck
  · go_enter Tryz.func62, Tryz.ntmps62
    go_wp2_with (go_at_call 103; refine (ownKids_is HO.out _).mono ?_; rintro e w1 ⟨rfl, rfl⟩)
    go_region
    obtain ⟨W5, hW5⟩ : ∃ W5, (((W4.setCell ⟨w.heap.size, 1, none⟩ (.int .i64 k0)).setCell ⟨w.heap.size, 2, none⟩ (.int .i64 k1)).setCell ⟨w.heap.size, 3, none⟩ (.int .i64 0)).drew = W5 := ⟨_, rfl⟩
    rw [hW5]
    have HX5 : Hid (W5.heap[w.heap.size]? = some (.cells #[.int .i64 k, .int .i64 k0, .int .i64 k1, .int .i64 0, .int .i64 n, .string nm, .string s, .slice FA FL fc, .int .i64 pos] 37)) := Lib.hid (by
      rw [← hW5]
      exact (blk_put (j := 3) (blk_put (j := 2) (blk_put (j := 1) HX4.out))))
    have HR5 : Hid (W5.heap[w.heap.size + 1]? = some (.cells #[.int .i64 0, .int .i64 0, .int .i64 0, .int .i64 0, .int .i64 0, .string ⟨#[]⟩, .string ⟨#[]⟩, .slice none 0 0, .int .i64 0] 37)) := Lib.hid (by
      rw [← hW5]
      exact (set_far _ _ _ _ _ (by omega)).trans ((set_far _ _ _ _ _ (by omega)).trans ((set_far _ _ _ _ _ (by omega)).trans HR4.out)))
    have HB5 : Hid (Below w.heap.size w W5) := Lib.hid (by
      rw [← hW5]
      exact (((HB4.out.setCell (p := ⟨w.heap.size, 1, none⟩) (Nat.le_refl _) _).setCell (p := ⟨w.heap.size, 2, none⟩) (Nat.le_refl _) _).setCell (p := ⟨w.heap.size, 3, none⟩) (Nat.le_refl _) _).drew)
    have b5 : W5.cell? ⟨w.heap.size, 5, none⟩ = some (.string nm) := (Blk_cell HX5.out 5).trans rfl
    have b6 : W5.cell? ⟨w.heap.size, 6, none⟩ = some (.string s) := (Blk_cell HX5.out 6).trans rfl
    have f5 := Blk_frozen HX5.out 5
    have f6 := Blk_frozen HX5.out 6
    have hx5 : w.heap.size < W5.heap.size := (Array.getElem?_eq_some_iff.1 HX5.out).1
    have hy5 : w.heap.size + 1 < W5.heap.size := (Array.getElem?_eq_some_iff.1 HR5.out).1
    clear hW5 o0 o1 o2 b0 b1 b2 b3 f1 f2 f3
    have HC0 : Hid (Below W5.heap.size W5 W5.drew) := Lib.hid (Below.refl _ _).drew
    go_wp2_with fail
    go_region_with (go_at_call 38; refine (clone_any _ (by first | exact hS.1 | exact hS.2) _).mono ?_; rintro e w2 ⟨rfl, hb2⟩; have HC0 := Lib.hid (HC0.out.trans (hb2.mono HC0.out.size)); have d5 := (HC0.out.cell (p := ⟨w.heap.size, 5, none⟩) hx5).trans b5; have d6 := (HC0.out.cell (p := ⟨w.heap.size, 6, none⟩) hx5).trans b6; have g5 := (HC0.out.frozen (p := ⟨w.heap.size, 5, none⟩) hx5).trans f5; have g6 := (HC0.out.frozen (p := ⟨w.heap.size, 6, none⟩) hx5).trans f6; clear hb2)
    all_goals
      obtain ⟨W6, hW6⟩ : ∃ W6, (w2.setCell ⟨w.heap.size, 5, none⟩ (.string nm)).setCell ⟨w.heap.size, 6, none⟩ (.string s) = W6 := ⟨_, rfl⟩
      rw [hW6]
      have HX6 : Hid (W6.heap[w.heap.size]? = some (.cells #[.int .i64 k, .int .i64 k0, .int .i64 k1, .int .i64 0, .int .i64 n, .string nm, .string s, .slice FA FL fc, .int .i64 pos] 37)) := Lib.hid (by rw [← hW6]; exact blk_put (j := 6) (blk_put (j := 5) ((HC0.out.block w.heap.size hx5).trans HX5.out)))
      have HR6 : Hid (W6.heap[w.heap.size + 1]? = some (.cells #[.int .i64 0, .int .i64 0, .int .i64 0, .int .i64 0, .int .i64 0, .string ⟨#[]⟩, .string ⟨#[]⟩, .slice none 0 0, .int .i64 0] 37)) := Lib.hid (by rw [← hW6]; exact (set_far _ _ _ _ _ (by omega)).trans ((set_far _ _ _ _ _ (by omega)).trans ((HC0.out.block (w.heap.size + 1) hy5).trans HR5.out)))
      have HB6 : Hid (Below w.heap.size w W6) := Lib.hid (by rw [← hW6]; exact ((HB5.out.trans (HC0.out.mono HB5.out.size)).setCell (p := ⟨w.heap.size, 5, none⟩) (Nat.le_refl _) _).setCell (p := ⟨w.heap.size, 6, none⟩) (Nat.le_refl _) _)
      have hz6 : w.heap.size + 1 < W6.heap.size := (Array.getElem?_eq_some_iff.1 HR6.out).1
      obtain ⟨x0, x1, x2, x3, x4, x5, x6, x7, x8, xf⟩ := cells9 HX6.out
      clear hW6 b5 b6 f5 f6 d5 d6 g5 g6
      go_wp2_with (go_at_call 105; refine (HPL.out _ _ HB6.out (fun _ => rfl)).mono ?_; rintro e w7 ⟨A7, c7, rfl, hown7, hb7⟩; have HX7 := Lib.hid ((hb7.block w.heap.size (by omega)).trans HX6.out); have HR7 := Lib.hid ((hb7.block (w.heap.size + 1) hz6).trans HR6.out); obtain ⟨y0, y1, y2, y3, y4, y5, y6, y7, y8, yf⟩ := cells9 HX7.out; obtain ⟨r0, r1, r2, r3, r4, r5, r6, r7, r8, rf⟩ := cells9 HR7.out; have HO7 := Lib.hid hown7; have HB7 := Lib.hid (HB6.out.trans (hb7.mono (by omega))); clear hown7 hb7)
      exact bodyPost_ret (v := .agg #[.int .i64 k, .int .i64 k0, .int .i64 k1, .int .i64 0, .int .i64 n, .string nm, .string s, (.slice A7 rl.length c7), .int .i64 pos]) (res33 _ _ (w.heap.size + 1) _ _ _ _ _ _ _ _ _ (by simp) (store9 ((set_far _ _ _ _ _ (by omega)).trans HR7.out))) rfl ⟨A7, c7, rfl, row_mono (ownF_set9 (ownF_set HO7.out (by omega)) (by omega)) (by omega), (HB7.out.setCell (p := ⟨w.heap.size, 7, none⟩) (Nat.le_refl _) _).trans (grow9 (by omega))⟩
  · (obtain rfl : ck = 2 := by omega)
    obtain rfl : KL = 2 := by omega
    go_enter Tryz.func62, Tryz.ntmps62
    go_wp2_with (go_at_call 103; refine (ownKids_is HO.out _).mono ?_; rintro e w1 ⟨rfl, rfl⟩)
    go_region
    obtain ⟨W5, hW5⟩ : ∃ W5, (((W4.setCell ⟨w.heap.size, 1, none⟩ (.int .i64 k0)).setCell ⟨w.heap.size, 2, none⟩ (.int .i64 k1)).setCell ⟨w.heap.size, 3, none⟩ (.int .i64 0)).drew = W5 := ⟨_, rfl⟩
    rw [hW5]
    have HX5 : Hid (W5.heap[w.heap.size]? = some (.cells #[.int .i64 k, .int .i64 k0, .int .i64 k1, .int .i64 0, .int .i64 n, .string nm, .string s, .slice FA FL fc, .int .i64 pos] 37)) := Lib.hid (by
      rw [← hW5]
      exact (blk_put (j := 3) (blk_put (j := 2) (blk_put (j := 1) HX4.out))))
    have HR5 : Hid (W5.heap[w.heap.size + 1]? = some (.cells #[.int .i64 0, .int .i64 0, .int .i64 0, .int .i64 0, .int .i64 0, .string ⟨#[]⟩, .string ⟨#[]⟩, .slice none 0 0, .int .i64 0] 37)) := Lib.hid (by
      rw [← hW5]
      exact (set_far _ _ _ _ _ (by omega)).trans ((set_far _ _ _ _ _ (by omega)).trans ((set_far _ _ _ _ _ (by omega)).trans HR4.out)))
    have HB5 : Hid (Below w.heap.size w W5) := Lib.hid (by
      rw [← hW5]
      exact (((HB4.out.setCell (p := ⟨w.heap.size, 1, none⟩) (Nat.le_refl _) _).setCell (p := ⟨w.heap.size, 2, none⟩) (Nat.le_refl _) _).setCell (p := ⟨w.heap.size, 3, none⟩) (Nat.le_refl _) _).drew)
    have b5 : W5.cell? ⟨w.heap.size, 5, none⟩ = some (.string nm) := (Blk_cell HX5.out 5).trans rfl
    have b6 : W5.cell? ⟨w.heap.size, 6, none⟩ = some (.string s) := (Blk_cell HX5.out 6).trans rfl
    have f5 := Blk_frozen HX5.out 5
    have f6 := Blk_frozen HX5.out 6
    have hx5 : w.heap.size < W5.heap.size := (Array.getElem?_eq_some_iff.1 HX5.out).1
    have hy5 : w.heap.size + 1 < W5.heap.size := (Array.getElem?_eq_some_iff.1 HR5.out).1
    clear hW5 o0 o1 o2 b0 b1 b2 b3 f1 f2 f3
    have HC0 : Hid (Below W5.heap.size W5 W5.drew) := Lib.hid (Below.refl _ _).drew
    go_wp2_with fail
    go_region_with (go_at_call 38; refine (clone_any _ (by first | exact hS.1 | exact hS.2) _).mono ?_; rintro e w2 ⟨rfl, hb2⟩; have HC0 := Lib.hid (HC0.out.trans (hb2.mono HC0.out.size)); have d5 := (HC0.out.cell (p := ⟨w.heap.size, 5, none⟩) hx5).trans b5; have d6 := (HC0.out.cell (p := ⟨w.heap.size, 6, none⟩) hx5).trans b6; have g5 := (HC0.out.frozen (p := ⟨w.heap.size, 5, none⟩) hx5).trans f5; have g6 := (HC0.out.frozen (p := ⟨w.heap.size, 6, none⟩) hx5).trans f6; clear hb2)
    all_goals
      obtain ⟨W6, hW6⟩ : ∃ W6, (w2.setCell ⟨w.heap.size, 5, none⟩ (.string nm)).setCell ⟨w.heap.size, 6, none⟩ (.string s) = W6 := ⟨_, rfl⟩
      rw [hW6]
      have HX6 : Hid (W6.heap[w.heap.size]? = some (.cells #[.int .i64 k, .int .i64 k0, .int .i64 k1, .int .i64 0, .int .i64 n, .string nm, .string s, .slice FA FL fc, .int .i64 pos] 37)) := Lib.hid (by rw [← hW6]; exact blk_put (j := 6) (blk_put (j := 5) ((HC0.out.block w.heap.size hx5).trans HX5.out)))
      have HR6 : Hid (W6.heap[w.heap.size + 1]? = some (.cells #[.int .i64 0, .int .i64 0, .int .i64 0, .int .i64 0, .int .i64 0, .string ⟨#[]⟩, .string ⟨#[]⟩, .slice none 0 0, .int .i64 0] 37)) := Lib.hid (by rw [← hW6]; exact (set_far _ _ _ _ _ (by omega)).trans ((set_far _ _ _ _ _ (by omega)).trans ((HC0.out.block (w.heap.size + 1) hy5).trans HR5.out)))
      have HB6 : Hid (Below w.heap.size w W6) := Lib.hid (by rw [← hW6]; exact ((HB5.out.trans (HC0.out.mono HB5.out.size)).setCell (p := ⟨w.heap.size, 5, none⟩) (Nat.le_refl _) _).setCell (p := ⟨w.heap.size, 6, none⟩) (Nat.le_refl _) _)
      have hz6 : w.heap.size + 1 < W6.heap.size := (Array.getElem?_eq_some_iff.1 HR6.out).1
      obtain ⟨x0, x1, x2, x3, x4, x5, x6, x7, x8, xf⟩ := cells9 HX6.out
      clear hW6 b5 b6 f5 f6 d5 d6 g5 g6
      go_wp2_with (go_at_call 105; refine (HPL.out _ _ HB6.out (fun h => absurd h (by omega))).mono ?_; rintro e w7 ⟨A7, c7, rfl, hown7, hb7⟩; have HX7 := Lib.hid ((hb7.block w.heap.size (by omega)).trans HX6.out); have HR7 := Lib.hid ((hb7.block (w.heap.size + 1) hz6).trans HR6.out); obtain ⟨y0, y1, y2, y3, y4, y5, y6, y7, y8, yf⟩ := cells9 HX7.out; obtain ⟨r0, r1, r2, r3, r4, r5, r6, r7, r8, rf⟩ := cells9 HR7.out; have HO7 := Lib.hid hown7; have HB7 := Lib.hid (HB6.out.trans (hb7.mono (by omega))); clear hown7 hb7)
      exact bodyPost_ret (v := .agg #[.int .i64 k, .int .i64 k0, .int .i64 k1, .int .i64 0, .int .i64 n, .string nm, .string s, (.slice A7 rl.length c7), .int .i64 pos]) (res33 _ _ (w.heap.size + 1) _ _ _ _ _ _ _ _ _ (by simp) (store9 ((set_far _ _ _ _ _ (by omega)).trans HR7.out))) rfl ⟨A7, c7, rfl, row_mono (ownF_set9 (ownF_set HO7.out (by omega)) (by omega)) (by omega), (HB7.out.setCell (p := ⟨w.heap.size, 7, none⟩) (Nat.le_refl _) _).trans (grow9 (by omega))⟩
end Go.Proofs.YtjakeidbajkdcaaGreatDoor.T
/- withKids, the program's, of a node with so many own children. -/
namespace Go.Proofs.YtjakeidbajkdcaaGreatDoor.T
open Go.RowKit
set_option maxRecDepth 100000 in
set_option maxHeartbeats 8000000 in
theorem wk_3 (k a b c n pos : Int) (nm s : ByteArray) (FA : Option Addr) (FL fc : Nat) (k0 : Int) (k1 : Int) (k2 : Int) (KL gk ck : Nat) (rl : List Fld) (HO : Hid (ownN k = 3)) (hKL : 3 ≤ KL) (hck : KL ≤ ck) (hS : nm.size ≤ 281474976710656 ∧ s.size ≤ 281474976710656) (w : World) (hgk : gk < w.heap.size) (HR : Hid (∀ (j : Nat) (z : Int), ([k0, k1, k2] : List Int)[j]? = some z → w.cell? ⟨gk, j, none⟩ = some (.int .i64 z)))
    (HPL : Hid (∀ (A : Option Addr) (w1 : World), Below w.heap.size w w1 → (3 < ck → A = some ⟨gk, 3, none⟩) → Calls Tryz.prog 105 #[.agg #[.int .i64 k, .int .i64 k0, .int .i64 k1, .int .i64 k2, .int .i64 n, .string nm, .string s, .slice FA FL fc, .int .i64 pos], .slice A (KL - 3) (ck - 3)] w1 (PlPost rl w1))) :
    Calls Tryz.prog 62 #[.agg #[.int .i64 k, .int .i64 a, .int .i64 b, .int .i64 c, .int .i64 n, .string nm, .string s, .slice FA FL fc, .int .i64 pos], .slice (some ⟨gk, 0, none⟩) KL ck] w (WPost (fun v => #[.int .i64 k, .int .i64 k0, .int .i64 k1, .int .i64 k2, .int .i64 n, .string nm, .string s, v, .int .i64 pos]) rl w) := by
  obtain ⟨w1, hw1⟩ : ∃ w1, ((w.alloc (.cells #[.int .i64 k, .int .i64 a, .int .i64 b, .int .i64 c, .int .i64 n, .string nm, .string s, .slice FA FL fc, .int .i64 pos] 37)).alloc (.cells #[.int .i64 0, .int .i64 0, .int .i64 0, .int .i64 0, .int .i64 0, .string ⟨#[]⟩, .string ⟨#[]⟩, .slice none 0 0, .int .i64 0] 37)).alloc (.cells #[.int .i64 0, .int .i64 0, .int .i64 0] 115) = w1 := ⟨_, rfl⟩
  have hs1 : w1.heap.size = w.heap.size + 3 := by rw [← hw1]; simp
  have hB1 : Below w.heap.size w w1 := by rw [← hw1]; exact below3 (Nat.le_refl _) _ _ _
  have hg1 : w1.heap[w.heap.size + 2]? = some (.cells #[.int .i64 0, .int .i64 0, .int .i64 0] 115) := by rw [← hw1]; exact heap_new _ _ _ (by simp)
  have hr1 : w1.heap[w.heap.size + 1]? = some (.cells #[.int .i64 0, .int .i64 0, .int .i64 0, .int .i64 0, .int .i64 0, .string ⟨#[]⟩, .string ⟨#[]⟩, .slice none 0 0, .int .i64 0] 37) := by
    rw [← hw1, ((Below.refl (w.heap.size + 2) ((w.alloc (.cells #[.int .i64 k, .int .i64 a, .int .i64 b, .int .i64 c, .int .i64 n, .string nm, .string s, .slice FA FL fc, .int .i64 pos] 37)).alloc (.cells #[.int .i64 0, .int .i64 0, .int .i64 0, .int .i64 0, .int .i64 0, .string ⟨#[]⟩, .string ⟨#[]⟩, .slice none 0 0, .int .i64 0] 37))).alloc (by simp) (.cells #[.int .i64 0, .int .i64 0, .int .i64 0] 115)).block _ (by omega)]
    exact heap_new _ _ _ (by simp)
  have hx1 : w1.heap[w.heap.size]? = some (.cells #[.int .i64 k, .int .i64 a, .int .i64 b, .int .i64 c, .int .i64 n, .string nm, .string s, .slice FA FL fc, .int .i64 pos] 37) := by
    rw [← hw1, ((Below.refl (w.heap.size + 2) ((w.alloc (.cells #[.int .i64 k, .int .i64 a, .int .i64 b, .int .i64 c, .int .i64 n, .string nm, .string s, .slice FA FL fc, .int .i64 pos] 37)).alloc (.cells #[.int .i64 0, .int .i64 0, .int .i64 0, .int .i64 0, .int .i64 0, .string ⟨#[]⟩, .string ⟨#[]⟩, .slice none 0 0, .int .i64 0] 37))).alloc (by simp) (.cells #[.int .i64 0, .int .i64 0, .int .i64 0] 115)).block _ (by omega), ((Below.refl (w.heap.size + 1) (w.alloc (.cells #[.int .i64 k, .int .i64 a, .int .i64 b, .int .i64 c, .int .i64 n, .string nm, .string s, .slice FA FL fc, .int .i64 pos] 37))).alloc (by simp) (.cells #[.int .i64 0, .int .i64 0, .int .i64 0, .int .i64 0, .int .i64 0, .string ⟨#[]⟩, .string ⟨#[]⟩, .slice none 0 0, .int .i64 0] 37)).block _ (by omega)]
    exact heap_new _ _ _ rfl
  obtain ⟨W4, hcp, hg4, hb4, hot⟩ := copy_at w1 (w.heap.size + 2) 3 3 ⟨gk, 0, none⟩ KL ck [.int .i64 0, .int .i64 0, .int .i64 0] (([k0, k1, k2] : List Int).map (Value.int .i64)) 115 hg1 (by show 3 = min KL 3; omega) (fun j v hv => by
    rw [List.getElem?_map, Option.map_eq_some_iff] at hv
    obtain ⟨z, hz, rfl⟩ := hv
    rw [Addr.add_lit, Nat.zero_add, hB1.cell (p := ⟨gk, j, none⟩) hgk]
    exact HR.out j z hz) (by simp) oneInt
  have hg4' : W4.heap[w.heap.size + 2]? = some (.cells #[.int .i64 k0, .int .i64 k1, .int .i64 k2] 115) := by rw [hg4]; rfl
  have hr4 := (hot (w.heap.size + 1) (by omega)).trans hr1
  have hx4 := (hot w.heap.size (by omega)).trans hx1
  have HB4 := Lib.hid (hB1.trans (hb4.mono (by omega)))
  have HX4 := Lib.hid hx4
  have HR4 := Lib.hid hr4
  have hs4 := hb4.size
  rw [← hw1] at hcp
  have o0 := Blk_cell hg4' 0
  have o1 := Blk_cell hg4' 1
  have o2 := Blk_cell hg4' 2
  have b0 := Blk_cell hx4 0
  have f1 := Blk_frozen hx4 1
  have f2 := Blk_frozen hx4 2
  have f3 := Blk_frozen hx4 3
  have b1 := Blk_cell hx4 1
  have b2 := Blk_cell hx4 2
  have b3 := Blk_cell hx4 3
  simp only [List.getElem?_toArray, List.getElem?_cons_zero, List.getElem?_cons_succ] at o0 o1 o2 b0 b1 b2 b3
  clear hg1 hr1 hx1 hot hg4 hg4' hr4 hx4 hb4 hw1 hB1
  by_cases hcm : 3 < ck
  · go_enter Tryz.func62, Tryz.ntmps62
    go_wp2_with (go_at_call 103; refine (ownKids_is HO.out _).mono ?_; rintro e w1 ⟨rfl, rfl⟩)
    go_region
    obtain ⟨W5, hW5⟩ : ∃ W5, (((W4.setCell ⟨w.heap.size, 1, none⟩ (.int .i64 k0)).setCell ⟨w.heap.size, 2, none⟩ (.int .i64 k1)).setCell ⟨w.heap.size, 3, none⟩ (.int .i64 k2)).drew = W5 := ⟨_, rfl⟩
    rw [hW5]
    have HX5 : Hid (W5.heap[w.heap.size]? = some (.cells #[.int .i64 k, .int .i64 k0, .int .i64 k1, .int .i64 k2, .int .i64 n, .string nm, .string s, .slice FA FL fc, .int .i64 pos] 37)) := Lib.hid (by
      rw [← hW5]
      exact (blk_put (j := 3) (blk_put (j := 2) (blk_put (j := 1) HX4.out))))
    have HR5 : Hid (W5.heap[w.heap.size + 1]? = some (.cells #[.int .i64 0, .int .i64 0, .int .i64 0, .int .i64 0, .int .i64 0, .string ⟨#[]⟩, .string ⟨#[]⟩, .slice none 0 0, .int .i64 0] 37)) := Lib.hid (by
      rw [← hW5]
      exact (set_far _ _ _ _ _ (by omega)).trans ((set_far _ _ _ _ _ (by omega)).trans ((set_far _ _ _ _ _ (by omega)).trans HR4.out)))
    have HB5 : Hid (Below w.heap.size w W5) := Lib.hid (by
      rw [← hW5]
      exact (((HB4.out.setCell (p := ⟨w.heap.size, 1, none⟩) (Nat.le_refl _) _).setCell (p := ⟨w.heap.size, 2, none⟩) (Nat.le_refl _) _).setCell (p := ⟨w.heap.size, 3, none⟩) (Nat.le_refl _) _).drew)
    have b5 : W5.cell? ⟨w.heap.size, 5, none⟩ = some (.string nm) := (Blk_cell HX5.out 5).trans rfl
    have b6 : W5.cell? ⟨w.heap.size, 6, none⟩ = some (.string s) := (Blk_cell HX5.out 6).trans rfl
    have f5 := Blk_frozen HX5.out 5
    have f6 := Blk_frozen HX5.out 6
    have hx5 : w.heap.size < W5.heap.size := (Array.getElem?_eq_some_iff.1 HX5.out).1
    have hy5 : w.heap.size + 1 < W5.heap.size := (Array.getElem?_eq_some_iff.1 HR5.out).1
    clear hW5 o0 o1 o2 b0 b1 b2 b3 f1 f2 f3
    have HC0 : Hid (Below W5.heap.size W5 W5.drew) := Lib.hid (Below.refl _ _).drew
    go_wp2_with fail
    go_region_with (go_at_call 38; refine (clone_any _ (by first | exact hS.1 | exact hS.2) _).mono ?_; rintro e w2 ⟨rfl, hb2⟩; have HC0 := Lib.hid (HC0.out.trans (hb2.mono HC0.out.size)); have d5 := (HC0.out.cell (p := ⟨w.heap.size, 5, none⟩) hx5).trans b5; have d6 := (HC0.out.cell (p := ⟨w.heap.size, 6, none⟩) hx5).trans b6; have g5 := (HC0.out.frozen (p := ⟨w.heap.size, 5, none⟩) hx5).trans f5; have g6 := (HC0.out.frozen (p := ⟨w.heap.size, 6, none⟩) hx5).trans f6; clear hb2)
    all_goals
      obtain ⟨W6, hW6⟩ : ∃ W6, (w2.setCell ⟨w.heap.size, 5, none⟩ (.string nm)).setCell ⟨w.heap.size, 6, none⟩ (.string s) = W6 := ⟨_, rfl⟩
      rw [hW6]
      have HX6 : Hid (W6.heap[w.heap.size]? = some (.cells #[.int .i64 k, .int .i64 k0, .int .i64 k1, .int .i64 k2, .int .i64 n, .string nm, .string s, .slice FA FL fc, .int .i64 pos] 37)) := Lib.hid (by rw [← hW6]; exact blk_put (j := 6) (blk_put (j := 5) ((HC0.out.block w.heap.size hx5).trans HX5.out)))
      have HR6 : Hid (W6.heap[w.heap.size + 1]? = some (.cells #[.int .i64 0, .int .i64 0, .int .i64 0, .int .i64 0, .int .i64 0, .string ⟨#[]⟩, .string ⟨#[]⟩, .slice none 0 0, .int .i64 0] 37)) := Lib.hid (by rw [← hW6]; exact (set_far _ _ _ _ _ (by omega)).trans ((set_far _ _ _ _ _ (by omega)).trans ((HC0.out.block (w.heap.size + 1) hy5).trans HR5.out)))
      have HB6 : Hid (Below w.heap.size w W6) := Lib.hid (by rw [← hW6]; exact ((HB5.out.trans (HC0.out.mono HB5.out.size)).setCell (p := ⟨w.heap.size, 5, none⟩) (Nat.le_refl _) _).setCell (p := ⟨w.heap.size, 6, none⟩) (Nat.le_refl _) _)
      have hz6 : w.heap.size + 1 < W6.heap.size := (Array.getElem?_eq_some_iff.1 HR6.out).1
      obtain ⟨x0, x1, x2, x3, x4, x5, x6, x7, x8, xf⟩ := cells9 HX6.out
      clear hW6 b5 b6 f5 f6 d5 d6 g5 g6
      go_wp2_with (go_at_call 105; refine (HPL.out _ _ HB6.out (fun _ => rfl)).mono ?_; rintro e w7 ⟨A7, c7, rfl, hown7, hb7⟩; have HX7 := Lib.hid ((hb7.block w.heap.size (by omega)).trans HX6.out); have HR7 := Lib.hid ((hb7.block (w.heap.size + 1) hz6).trans HR6.out); obtain ⟨y0, y1, y2, y3, y4, y5, y6, y7, y8, yf⟩ := cells9 HX7.out; obtain ⟨r0, r1, r2, r3, r4, r5, r6, r7, r8, rf⟩ := cells9 HR7.out; have HO7 := Lib.hid hown7; have HB7 := Lib.hid (HB6.out.trans (hb7.mono (by omega))); clear hown7 hb7)
      exact bodyPost_ret (v := .agg #[.int .i64 k, .int .i64 k0, .int .i64 k1, .int .i64 k2, .int .i64 n, .string nm, .string s, (.slice A7 rl.length c7), .int .i64 pos]) (res33 _ _ (w.heap.size + 1) _ _ _ _ _ _ _ _ _ (by simp) (store9 ((set_far _ _ _ _ _ (by omega)).trans HR7.out))) rfl ⟨A7, c7, rfl, row_mono (ownF_set9 (ownF_set HO7.out (by omega)) (by omega)) (by omega), (HB7.out.setCell (p := ⟨w.heap.size, 7, none⟩) (Nat.le_refl _) _).trans (grow9 (by omega))⟩
  · (obtain rfl : ck = 3 := by omega)
    obtain rfl : KL = 3 := by omega
    go_enter Tryz.func62, Tryz.ntmps62
    go_wp2_with (go_at_call 103; refine (ownKids_is HO.out _).mono ?_; rintro e w1 ⟨rfl, rfl⟩)
    go_region
    obtain ⟨W5, hW5⟩ : ∃ W5, (((W4.setCell ⟨w.heap.size, 1, none⟩ (.int .i64 k0)).setCell ⟨w.heap.size, 2, none⟩ (.int .i64 k1)).setCell ⟨w.heap.size, 3, none⟩ (.int .i64 k2)).drew = W5 := ⟨_, rfl⟩
    rw [hW5]
    have HX5 : Hid (W5.heap[w.heap.size]? = some (.cells #[.int .i64 k, .int .i64 k0, .int .i64 k1, .int .i64 k2, .int .i64 n, .string nm, .string s, .slice FA FL fc, .int .i64 pos] 37)) := Lib.hid (by
      rw [← hW5]
      exact (blk_put (j := 3) (blk_put (j := 2) (blk_put (j := 1) HX4.out))))
    have HR5 : Hid (W5.heap[w.heap.size + 1]? = some (.cells #[.int .i64 0, .int .i64 0, .int .i64 0, .int .i64 0, .int .i64 0, .string ⟨#[]⟩, .string ⟨#[]⟩, .slice none 0 0, .int .i64 0] 37)) := Lib.hid (by
      rw [← hW5]
      exact (set_far _ _ _ _ _ (by omega)).trans ((set_far _ _ _ _ _ (by omega)).trans ((set_far _ _ _ _ _ (by omega)).trans HR4.out)))
    have HB5 : Hid (Below w.heap.size w W5) := Lib.hid (by
      rw [← hW5]
      exact (((HB4.out.setCell (p := ⟨w.heap.size, 1, none⟩) (Nat.le_refl _) _).setCell (p := ⟨w.heap.size, 2, none⟩) (Nat.le_refl _) _).setCell (p := ⟨w.heap.size, 3, none⟩) (Nat.le_refl _) _).drew)
    have b5 : W5.cell? ⟨w.heap.size, 5, none⟩ = some (.string nm) := (Blk_cell HX5.out 5).trans rfl
    have b6 : W5.cell? ⟨w.heap.size, 6, none⟩ = some (.string s) := (Blk_cell HX5.out 6).trans rfl
    have f5 := Blk_frozen HX5.out 5
    have f6 := Blk_frozen HX5.out 6
    have hx5 : w.heap.size < W5.heap.size := (Array.getElem?_eq_some_iff.1 HX5.out).1
    have hy5 : w.heap.size + 1 < W5.heap.size := (Array.getElem?_eq_some_iff.1 HR5.out).1
    clear hW5 o0 o1 o2 b0 b1 b2 b3 f1 f2 f3
    have HC0 : Hid (Below W5.heap.size W5 W5.drew) := Lib.hid (Below.refl _ _).drew
    go_wp2_with fail
    go_region_with (go_at_call 38; refine (clone_any _ (by first | exact hS.1 | exact hS.2) _).mono ?_; rintro e w2 ⟨rfl, hb2⟩; have HC0 := Lib.hid (HC0.out.trans (hb2.mono HC0.out.size)); have d5 := (HC0.out.cell (p := ⟨w.heap.size, 5, none⟩) hx5).trans b5; have d6 := (HC0.out.cell (p := ⟨w.heap.size, 6, none⟩) hx5).trans b6; have g5 := (HC0.out.frozen (p := ⟨w.heap.size, 5, none⟩) hx5).trans f5; have g6 := (HC0.out.frozen (p := ⟨w.heap.size, 6, none⟩) hx5).trans f6; clear hb2)
    all_goals
      obtain ⟨W6, hW6⟩ : ∃ W6, (w2.setCell ⟨w.heap.size, 5, none⟩ (.string nm)).setCell ⟨w.heap.size, 6, none⟩ (.string s) = W6 := ⟨_, rfl⟩
      rw [hW6]
      have HX6 : Hid (W6.heap[w.heap.size]? = some (.cells #[.int .i64 k, .int .i64 k0, .int .i64 k1, .int .i64 k2, .int .i64 n, .string nm, .string s, .slice FA FL fc, .int .i64 pos] 37)) := Lib.hid (by rw [← hW6]; exact blk_put (j := 6) (blk_put (j := 5) ((HC0.out.block w.heap.size hx5).trans HX5.out)))
      have HR6 : Hid (W6.heap[w.heap.size + 1]? = some (.cells #[.int .i64 0, .int .i64 0, .int .i64 0, .int .i64 0, .int .i64 0, .string ⟨#[]⟩, .string ⟨#[]⟩, .slice none 0 0, .int .i64 0] 37)) := Lib.hid (by rw [← hW6]; exact (set_far _ _ _ _ _ (by omega)).trans ((set_far _ _ _ _ _ (by omega)).trans ((HC0.out.block (w.heap.size + 1) hy5).trans HR5.out)))
      have HB6 : Hid (Below w.heap.size w W6) := Lib.hid (by rw [← hW6]; exact ((HB5.out.trans (HC0.out.mono HB5.out.size)).setCell (p := ⟨w.heap.size, 5, none⟩) (Nat.le_refl _) _).setCell (p := ⟨w.heap.size, 6, none⟩) (Nat.le_refl _) _)
      have hz6 : w.heap.size + 1 < W6.heap.size := (Array.getElem?_eq_some_iff.1 HR6.out).1
      obtain ⟨x0, x1, x2, x3, x4, x5, x6, x7, x8, xf⟩ := cells9 HX6.out
      clear hW6 b5 b6 f5 f6 d5 d6 g5 g6
      go_wp2_with (go_at_call 105; refine (HPL.out _ _ HB6.out (fun h => absurd h (by omega))).mono ?_; rintro e w7 ⟨A7, c7, rfl, hown7, hb7⟩; have HX7 := Lib.hid ((hb7.block w.heap.size (by omega)).trans HX6.out); have HR7 := Lib.hid ((hb7.block (w.heap.size + 1) hz6).trans HR6.out); obtain ⟨y0, y1, y2, y3, y4, y5, y6, y7, y8, yf⟩ := cells9 HX7.out; obtain ⟨r0, r1, r2, r3, r4, r5, r6, r7, r8, rf⟩ := cells9 HR7.out; have HO7 := Lib.hid hown7; have HB7 := Lib.hid (HB6.out.trans (hb7.mono (by omega))); clear hown7 hb7)
      exact bodyPost_ret (v := .agg #[.int .i64 k, .int .i64 k0, .int .i64 k1, .int .i64 k2, .int .i64 n, .string nm, .string s, (.slice A7 rl.length c7), .int .i64 pos]) (res33 _ _ (w.heap.size + 1) _ _ _ _ _ _ _ _ _ (by simp) (store9 ((set_far _ _ _ _ _ (by omega)).trans HR7.out))) rfl ⟨A7, c7, rfl, row_mono (ownF_set9 (ownF_set HO7.out (by omega)) (by omega)) (by omega), (HB7.out.setCell (p := ⟨w.heap.size, 7, none⟩) (Nat.le_refl _) _).trans (grow9 (by omega))⟩
end Go.Proofs.YtjakeidbajkdcaaGreatDoor.T
/- withKids, the program's, of whatever node. -/
namespace Go.Proofs.YtjakeidbajkdcaaGreatDoor.T
open Go.RowKit
def WithPost (y : Nd) (w : World) (e : Ending) (w' : World) : Prop := ∃ A c, e = .returned (.agg (ndArr y (.slice A y.l.length c))) ∧ OwnF w.heap.size w' (.slice A y.l.length c) y.l ∧ Below w.heap.size w w'
theorem own_eq (x : Nd) : own x = ownN x.kind := by
  have := ownN_le x.kind
  rw [own, kids_own, List.length_take]; simp; omega
/-- Texts that can be cloned. -/
def Clonable (x : Nd) : Prop := x.nm.size ≤ 281474976710656 ∧ x.s.size ≤ 281474976710656 ∧ x.l.length ≤ 1000000 ∧ ∀ f ∈ x.l, f.nm.size ≤ 281474976710656 ∧ f.vr.size ≤ 281474976710656
set_option maxHeartbeats 1000000 in
theorem with_any (x : Nd) (vl : Value) (ks : List Int) (gk ck : Nat) (w : World) (hv : Flds w.heap.size w vl x.l) (hks : ks.length = (kids x).length) (hr : Row0 w gk ks) (hgk : gk < w.heap.size) (hck : ks.length ≤ ck) (hS : Clonable x) :
    Calls Tryz.prog 62 #[.agg (ndArr x vl), .slice (some ⟨gk, 0, none⟩) ks.length ck] w (WithPost (wk x ks) w) := by
  have hlen : ks.length = ownN x.kind + (if many x = true then x.l.length else 0) := by
    rw [hks, kids, List.length_append]
    have h1 : (kids0 x).length = ownN x.kind := own_eq x
    rw [h1]
    split <;> simp
  have hH : ∀ (m : Nat), ownN x.kind = m → m ≤ ks.length → ∀ (a b c : Int) (A : Option Addr) (w1 : World), Below w.heap.size w w1 → (m < ck → A = some ⟨gk, m, none⟩) →
      Calls Tryz.prog 105 #[.agg (ndArr { x with a := a, b := b, c := c } vl), .slice A (ks.length - m) (ck - m)] w1 (PlPost (if many x = true then relab x.l (ks.drop m) else []) w1) := by
    intro m hm hmk a b c A w1 hb hA
    have := places_any x a b c vl (ks.drop m) A (ck - m) w1 ((hv.below hb).mono hb.size) hS.2.2.1 hS.2.2.2 (fun hp => by
      have : many x = true := hp
      rw [this, hm] at hlen
      simp at hlen ⊢; omega) (fun h0 => by
      simp at h0
      refine ⟨gk, m, hA (by omega), Nat.lt_of_lt_of_le hgk hb.size, fun j z hz => ?_⟩
      rw [List.getElem?_drop] at hz
      exact (hb.cell (p := ⟨gk, m + j, none⟩) hgk).trans (hr (m + j) z hz))
    rw [List.length_drop] at this
    exact this
  have hw : ∀ (a b c : Int), wk x ks = { x with a := a, b := b, c := c, l := if many x = true then relab x.l (ks.drop (ownN x.kind)) else [] } → ∀ e w', WPost (fun v => ndArr { x with a := a, b := b, c := c } v) (if many x = true then relab x.l (ks.drop (ownN x.kind)) else []) w e w' → WithPost (wk x ks) w e w' := by
    rintro a b c he e w' ⟨A, c', rfl, h2, h3⟩
    rw [he]
    exact ⟨A, c', rfl, h2, h3⟩
  have hwk : ∀ m, ownN x.kind = m → wk x ks = { x with a := if 0 < m then ks.getD 0 0 else 0, b := if 1 < m then ks.getD 1 0 else 0, c := if 2 < m then ks.getD 2 0 else 0, l := if many x = true then relab x.l (ks.drop (ownN x.kind)) else [] } := by
    intro m hm
    rw [wk, own_eq, hm]
  have hle := ownN_le x.kind
  obtain ⟨FA, fc, rfl, _⟩ := hv
  match hm : ownN x.kind, hle with
  | 0, _ =>
    have hl : 0 ≤ ks.length := by omega
    have h := wk_0 x.kind x.a x.b x.c x.n x.pos x.nm x.s FA x.l.length fc  ks.length gk ck (if many x = true then relab x.l (ks.drop 0) else []) (Lib.hid hm) hl hck ⟨hS.1, hS.2.1⟩ w hgk (Lib.hid (fun j z hz => by simp at hz)) (Lib.hid (fun A w1 hb hA => hH 0 hm hl 0 0 0 A w1 hb hA))
    refine h.mono fun e w' hp => hw 0 0 0 ?_ e w' (by rw [hm]; exact hp)
    rw [hwk 0 hm]
    simp
  | 1, _ =>
    have hl : 1 ≤ ks.length := by omega
    obtain ⟨k0, hk0⟩ : ∃ k, ks[0]? = some k := ⟨_, List.getElem?_eq_getElem (by omega)⟩
    have h := wk_1 x.kind x.a x.b x.c x.n x.pos x.nm x.s FA x.l.length fc k0 ks.length gk ck (if many x = true then relab x.l (ks.drop 1) else []) (Lib.hid hm) hl hck ⟨hS.1, hS.2.1⟩ w hgk (Lib.hid (fun j z hz => hr j z (by
      match j, hz with
      | 0, hz => rw [hk0]; exact hz
      | j + 1, hz => simp at hz))) (Lib.hid (fun A w1 hb hA => hH 1 hm hl k0 0 0 A w1 hb hA))
    refine h.mono fun e w' hp => hw k0 0 0 ?_ e w' (by rw [hm]; exact hp)
    rw [hwk 1 hm]
    simp [List.getD_eq_getElem?_getD, hk0]
  | 2, _ =>
    have hl : 2 ≤ ks.length := by omega
    obtain ⟨k0, hk0⟩ : ∃ k, ks[0]? = some k := ⟨_, List.getElem?_eq_getElem (by omega)⟩
    obtain ⟨k1, hk1⟩ : ∃ k, ks[1]? = some k := ⟨_, List.getElem?_eq_getElem (by omega)⟩
    have h := wk_2 x.kind x.a x.b x.c x.n x.pos x.nm x.s FA x.l.length fc k0 k1 ks.length gk ck (if many x = true then relab x.l (ks.drop 2) else []) (Lib.hid hm) hl hck ⟨hS.1, hS.2.1⟩ w hgk (Lib.hid (fun j z hz => hr j z (by
      match j, hz with
      | 0, hz => rw [hk0]; exact hz
      | 1, hz => rw [hk1]; exact hz
      | j + 2, hz => simp at hz))) (Lib.hid (fun A w1 hb hA => hH 2 hm hl k0 k1 0 A w1 hb hA))
    refine h.mono fun e w' hp => hw k0 k1 0 ?_ e w' (by rw [hm]; exact hp)
    rw [hwk 2 hm]
    simp [List.getD_eq_getElem?_getD, hk0, hk1]
  | 3, _ =>
    have hl : 3 ≤ ks.length := by omega
    obtain ⟨k0, hk0⟩ : ∃ k, ks[0]? = some k := ⟨_, List.getElem?_eq_getElem (by omega)⟩
    obtain ⟨k1, hk1⟩ : ∃ k, ks[1]? = some k := ⟨_, List.getElem?_eq_getElem (by omega)⟩
    obtain ⟨k2, hk2⟩ : ∃ k, ks[2]? = some k := ⟨_, List.getElem?_eq_getElem (by omega)⟩
    have h := wk_3 x.kind x.a x.b x.c x.n x.pos x.nm x.s FA x.l.length fc k0 k1 k2 ks.length gk ck (if many x = true then relab x.l (ks.drop 3) else []) (Lib.hid hm) hl hck ⟨hS.1, hS.2.1⟩ w hgk (Lib.hid (fun j z hz => hr j z (by
      match j, hz with
      | 0, hz => rw [hk0]; exact hz
      | 1, hz => rw [hk1]; exact hz
      | 2, hz => rw [hk2]; exact hz
      | j + 3, hz => simp at hz))) (Lib.hid (fun A w1 hb hA => hH 3 hm hl k0 k1 k2 A w1 hb hA))
    refine h.mono fun e w' hp => hw k0 k1 k2 ?_ e w' (by rw [hm]; exact hp)
    rw [hwk 3 hm]
    simp [List.getD_eq_getElem?_getD, hk0, hk1, hk2]
end Go.Proofs.YtjakeidbajkdcaaGreatDoor.T
