/- Joined by program: PWithB, PWithC, PWithD. -/
import Derived.Test.YteikpeaakmbihaaDoorG22
/- withKids, the program's, of a node with so many own children. -/
namespace Go.Proofs.YteikpeaakmbihaaDoor.T
open Go.RowKit
set_option maxRecDepth 100000 in
set_option maxHeartbeats 8000000 in
theorem wk_1 (k a b c n pos : Int) (nm s : ByteArray) (FA : Option Addr) (FL fc : Nat) (k0 : Int) (KL gk ck : Nat) (rl : List Fld) (HO : Hid (ownN k = 1)) (hKL : 1 ≤ KL) (hck : KL ≤ ck) (hS : nm.size ≤ 281474976710656 ∧ s.size ≤ 281474976710656) (w : World) (hgk : gk < w.heap.size) (HR : Hid (∀ (j : Nat) (z : Int), ([k0] : List Int)[j]? = some z → w.cell? ⟨gk, j, none⟩ = some (.int .i64 z)))
    (HPL : Hid (∀ (A : Option Addr) (w1 : World), Below w.heap.size w w1 → (1 < ck → A = some ⟨gk, 1, none⟩) → Calls Tryd.prog 72 #[.agg #[.int .i64 k, .int .i64 k0, .int .i64 0, .int .i64 0, .int .i64 n, .string nm, .string s, .slice FA FL fc, .int .i64 pos], .slice A (KL - 1) (ck - 1)] w1 (PlPost rl w1))) :
    Calls Tryd.prog 47 #[.agg #[.int .i64 k, .int .i64 a, .int .i64 b, .int .i64 c, .int .i64 n, .string nm, .string s, .slice FA FL fc, .int .i64 pos], .slice (some ⟨gk, 0, none⟩) KL ck] w (WPost (fun v => #[.int .i64 k, .int .i64 k0, .int .i64 0, .int .i64 0, .int .i64 n, .string nm, .string s, v, .int .i64 pos]) rl w) := by
  obtain ⟨w1, hw1⟩ : ∃ w1, ((w.alloc (.cells #[.int .i64 k, .int .i64 a, .int .i64 b, .int .i64 c, .int .i64 n, .string nm, .string s, .slice FA FL fc, .int .i64 pos] 27)).alloc (.cells #[.int .i64 0, .int .i64 0, .int .i64 0, .int .i64 0, .int .i64 0, .string ⟨#[]⟩, .string ⟨#[]⟩, .slice none 0 0, .int .i64 0] 27)).alloc (.cells #[.int .i64 0, .int .i64 0, .int .i64 0] 71) = w1 := ⟨_, rfl⟩
  have hs1 : w1.heap.size = w.heap.size + 3 := by rw [← hw1]; simp
  have hB1 : Below w.heap.size w w1 := by rw [← hw1]; exact below3 (Nat.le_refl _) _ _ _
  have hg1 : w1.heap[w.heap.size + 2]? = some (.cells #[.int .i64 0, .int .i64 0, .int .i64 0] 71) := by rw [← hw1]; exact heap_new _ _ _ (by simp)
  have hr1 : w1.heap[w.heap.size + 1]? = some (.cells #[.int .i64 0, .int .i64 0, .int .i64 0, .int .i64 0, .int .i64 0, .string ⟨#[]⟩, .string ⟨#[]⟩, .slice none 0 0, .int .i64 0] 27) := by
    rw [← hw1, ((Below.refl (w.heap.size + 2) ((w.alloc (.cells #[.int .i64 k, .int .i64 a, .int .i64 b, .int .i64 c, .int .i64 n, .string nm, .string s, .slice FA FL fc, .int .i64 pos] 27)).alloc (.cells #[.int .i64 0, .int .i64 0, .int .i64 0, .int .i64 0, .int .i64 0, .string ⟨#[]⟩, .string ⟨#[]⟩, .slice none 0 0, .int .i64 0] 27))).alloc (by simp) (.cells #[.int .i64 0, .int .i64 0, .int .i64 0] 71)).block _ (by omega)]
    exact heap_new _ _ _ (by simp)
  have hx1 : w1.heap[w.heap.size]? = some (.cells #[.int .i64 k, .int .i64 a, .int .i64 b, .int .i64 c, .int .i64 n, .string nm, .string s, .slice FA FL fc, .int .i64 pos] 27) := by
    rw [← hw1, ((Below.refl (w.heap.size + 2) ((w.alloc (.cells #[.int .i64 k, .int .i64 a, .int .i64 b, .int .i64 c, .int .i64 n, .string nm, .string s, .slice FA FL fc, .int .i64 pos] 27)).alloc (.cells #[.int .i64 0, .int .i64 0, .int .i64 0, .int .i64 0, .int .i64 0, .string ⟨#[]⟩, .string ⟨#[]⟩, .slice none 0 0, .int .i64 0] 27))).alloc (by simp) (.cells #[.int .i64 0, .int .i64 0, .int .i64 0] 71)).block _ (by omega), ((Below.refl (w.heap.size + 1) (w.alloc (.cells #[.int .i64 k, .int .i64 a, .int .i64 b, .int .i64 c, .int .i64 n, .string nm, .string s, .slice FA FL fc, .int .i64 pos] 27))).alloc (by simp) (.cells #[.int .i64 0, .int .i64 0, .int .i64 0, .int .i64 0, .int .i64 0, .string ⟨#[]⟩, .string ⟨#[]⟩, .slice none 0 0, .int .i64 0] 27)).block _ (by omega)]
    exact heap_new _ _ _ rfl
  obtain ⟨W4, hcp, hg4, hb4, hot⟩ := copy_at w1 (w.heap.size + 2) 1 3 ⟨gk, 0, none⟩ KL ck [.int .i64 0, .int .i64 0, .int .i64 0] (([k0] : List Int).map (Value.int .i64)) 71 hg1 (by show 1 = min KL 1; omega) (fun j v hv => by
    rw [List.getElem?_map, Option.map_eq_some_iff] at hv
    obtain ⟨z, hz, rfl⟩ := hv
    rw [Addr.add_lit, Nat.zero_add, hB1.cell (p := ⟨gk, j, none⟩) hgk]
    exact HR.out j z hz) (by simp) oneInt
  have hg4' : W4.heap[w.heap.size + 2]? = some (.cells #[.int .i64 k0, .int .i64 0, .int .i64 0] 71) := by rw [hg4]; rfl
  have hr4 := (hot (w.heap.size + 1) (by omega)).trans hr1
  have hx4 := (hot w.heap.size (by omega)).trans hx1
  have HB4 := Lib.hid (hB1.trans (hb4.mono (by omega)))
  have HX4 := Lib.hid hx4
  have HR4 := Lib.hid hr4
  have hs4 := hb4.size
  rw [← hw1] at hcp
  have o0 := Blk_cell hg4' 0
  have o1 := Blk_cell hg4' 1
  have o2 := Blk_cell hg4' 2
  have b0 := Blk_cell hx4 0
  have f1 := Blk_frozen hx4 1
  have f2 := Blk_frozen hx4 2
  have f3 := Blk_frozen hx4 3
  have b1 := Blk_cell hx4 1
  have b2 := Blk_cell hx4 2
  have b3 := Blk_cell hx4 3
  simp only [List.getElem?_toArray, List.getElem?_cons_zero, List.getElem?_cons_succ] at o0 o1 o2 b0 b1 b2 b3
  clear hg1 hr1 hx1 hot hg4 hg4' hr4 hx4 hb4 hw1 hB1
  by_cases hcm : 1 < ck
  · go_enter Tryd.func47, Tryd.ntmps47
    go_wp2_with (go_at_call 43; refine (ownKids_is HO.out _).mono ?_; rintro e w1 ⟨rfl, rfl⟩)
    go_region
    obtain ⟨W5, hW5⟩ : ∃ W5, (((W4.setCell ⟨w.heap.size, 1, none⟩ (.int .i64 k0)).setCell ⟨w.heap.size, 2, none⟩ (.int .i64 0)).setCell ⟨w.heap.size, 3, none⟩ (.int .i64 0)).drew = W5 := ⟨_, rfl⟩
    rw [hW5]
    have HX5 : Hid (W5.heap[w.heap.size]? = some (.cells #[.int .i64 k, .int .i64 k0, .int .i64 0, .int .i64 0, .int .i64 n, .string nm, .string s, .slice FA FL fc, .int .i64 pos] 27)) := Lib.hid (by
      rw [← hW5]
      exact (blk_put (j := 3) (blk_put (j := 2) (blk_put (j := 1) HX4.out))))
    have HR5 : Hid (W5.heap[w.heap.size + 1]? = some (.cells #[.int .i64 0, .int .i64 0, .int .i64 0, .int .i64 0, .int .i64 0, .string ⟨#[]⟩, .string ⟨#[]⟩, .slice none 0 0, .int .i64 0] 27)) := Lib.hid (by
      rw [← hW5]
      exact (set_far _ _ _ _ _ (by omega)).trans ((set_far _ _ _ _ _ (by omega)).trans ((set_far _ _ _ _ _ (by omega)).trans HR4.out)))
    have HB5 : Hid (Below w.heap.size w W5) := Lib.hid (by
      rw [← hW5]
      exact (((HB4.out.setCell (p := ⟨w.heap.size, 1, none⟩) (Nat.le_refl _) _).setCell (p := ⟨w.heap.size, 2, none⟩) (Nat.le_refl _) _).setCell (p := ⟨w.heap.size, 3, none⟩) (Nat.le_refl _) _).drew)
    have b5 : W5.cell? ⟨w.heap.size, 5, none⟩ = some (.string nm) := (Blk_cell HX5.out 5).trans rfl
    have b6 : W5.cell? ⟨w.heap.size, 6, none⟩ = some (.string s) := (Blk_cell HX5.out 6).trans rfl
    have f5 := Blk_frozen HX5.out 5
    have f6 := Blk_frozen HX5.out 6
    have hx5 : w.heap.size < W5.heap.size := (Array.getElem?_eq_some_iff.1 HX5.out).1
    have hy5 : w.heap.size + 1 < W5.heap.size := (Array.getElem?_eq_some_iff.1 HR5.out).1
    clear hW5 o0 o1 o2 b0 b1 b2 b3 f1 f2 f3
    have HC0 : Hid (Below W5.heap.size W5 W5.drew) := Lib.hid (Below.refl _ _).drew
    go_wp2_with fail
    go_region_with (go_at_call 63; refine (clone_any _ (by first | exact hS.1 | exact hS.2) _).mono ?_; rintro e w2 ⟨rfl, hb2⟩; have HC0 := Lib.hid (HC0.out.trans (hb2.mono HC0.out.size)); have d5 := (HC0.out.cell (p := ⟨w.heap.size, 5, none⟩) hx5).trans b5; have d6 := (HC0.out.cell (p := ⟨w.heap.size, 6, none⟩) hx5).trans b6; have g5 := (HC0.out.frozen (p := ⟨w.heap.size, 5, none⟩) hx5).trans f5; have g6 := (HC0.out.frozen (p := ⟨w.heap.size, 6, none⟩) hx5).trans f6; clear hb2)
    all_goals
      obtain ⟨W6, hW6⟩ : ∃ W6, (w2.setCell ⟨w.heap.size, 5, none⟩ (.string nm)).setCell ⟨w.heap.size, 6, none⟩ (.string s) = W6 := ⟨_, rfl⟩
      rw [hW6]
      have HX6 : Hid (W6.heap[w.heap.size]? = some (.cells #[.int .i64 k, .int .i64 k0, .int .i64 0, .int .i64 0, .int .i64 n, .string nm, .string s, .slice FA FL fc, .int .i64 pos] 27)) := Lib.hid (by rw [← hW6]; exact blk_put (j := 6) (blk_put (j := 5) ((HC0.out.block w.heap.size hx5).trans HX5.out)))
      have HR6 : Hid (W6.heap[w.heap.size + 1]? = some (.cells #[.int .i64 0, .int .i64 0, .int .i64 0, .int .i64 0, .int .i64 0, .string ⟨#[]⟩, .string ⟨#[]⟩, .slice none 0 0, .int .i64 0] 27)) := Lib.hid (by rw [← hW6]; exact (set_far _ _ _ _ _ (by omega)).trans ((set_far _ _ _ _ _ (by omega)).trans ((HC0.out.block (w.heap.size + 1) hy5).trans HR5.out)))
      have HB6 : Hid (Below w.heap.size w W6) := Lib.hid (by rw [← hW6]; exact ((HB5.out.trans (HC0.out.mono HB5.out.size)).setCell (p := ⟨w.heap.size, 5, none⟩) (Nat.le_refl _) _).setCell (p := ⟨w.heap.size, 6, none⟩) (Nat.le_refl _) _)
      have hz6 : w.heap.size + 1 < W6.heap.size := (Array.getElem?_eq_some_iff.1 HR6.out).1
      obtain ⟨x0, x1, x2, x3, x4, x5, x6, x7, x8, xf⟩ := cells9 HX6.out
      clear hW6 b5 b6 f5 f6 d5 d6 g5 g6
      go_wp2_with (go_at_call 72; refine (HPL.out _ _ HB6.out (fun _ => rfl)).mono ?_; rintro e w7 ⟨A7, c7, rfl, hown7, hb7⟩; have HX7 := Lib.hid ((hb7.block w.heap.size (by omega)).trans HX6.out); have HR7 := Lib.hid ((hb7.block (w.heap.size + 1) hz6).trans HR6.out); obtain ⟨y0, y1, y2, y3, y4, y5, y6, y7, y8, yf⟩ := cells9 HX7.out; obtain ⟨r0, r1, r2, r3, r4, r5, r6, r7, r8, rf⟩ := cells9 HR7.out; have HO7 := Lib.hid hown7; have HB7 := Lib.hid (HB6.out.trans (hb7.mono (by omega))); clear hown7 hb7)
      exact bodyPost_ret (v := .agg #[.int .i64 k, .int .i64 k0, .int .i64 0, .int .i64 0, .int .i64 n, .string nm, .string s, (.slice A7 rl.length c7), .int .i64 pos]) (res33 _ _ (w.heap.size + 1) _ _ _ _ _ _ _ _ _ (by simp) (store9 ((set_far _ _ _ _ _ (by omega)).trans HR7.out))) rfl ⟨A7, c7, rfl, row_mono (ownF_set9 (ownF_set HO7.out (by omega)) (by omega)) (by omega), (HB7.out.setCell (p := ⟨w.heap.size, 7, none⟩) (Nat.le_refl _) _).trans (grow9 (by omega))⟩
  · (obtain rfl : ck = 1 := by omega)
    obtain rfl : KL = 1 := by omega
    go_enter Tryd.func47, Tryd.ntmps47
    go_wp2_with (go_at_call 43; refine (ownKids_is HO.out _).mono ?_; rintro e w1 ⟨rfl, rfl⟩)
    go_region
    obtain ⟨W5, hW5⟩ : ∃ W5, (((W4.setCell ⟨w.heap.size, 1, none⟩ (.int .i64 k0)).setCell ⟨w.heap.size, 2, none⟩ (.int .i64 0)).setCell ⟨w.heap.size, 3, none⟩ (.int .i64 0)).drew = W5 := ⟨_, rfl⟩
    rw [hW5]
    have HX5 : Hid (W5.heap[w.heap.size]? = some (.cells #[.int .i64 k, .int .i64 k0, .int .i64 0, .int .i64 0, .int .i64 n, .string nm, .string s, .slice FA FL fc, .int .i64 pos] 27)) := Lib.hid (by
      rw [← hW5]
      exact (blk_put (j := 3) (blk_put (j := 2) (blk_put (j := 1) HX4.out))))
    have HR5 : Hid (W5.heap[w.heap.size + 1]? = some (.cells #[.int .i64 0, .int .i64 0, .int .i64 0, .int .i64 0, .int .i64 0, .string ⟨#[]⟩, .string ⟨#[]⟩, .slice none 0 0, .int .i64 0] 27)) := Lib.hid (by
      rw [← hW5]
      exact (set_far _ _ _ _ _ (by omega)).trans ((set_far _ _ _ _ _ (by omega)).trans ((set_far _ _ _ _ _ (by omega)).trans HR4.out)))
    have HB5 : Hid (Below w.heap.size w W5) := Lib.hid (by
      rw [← hW5]
      exact (((HB4.out.setCell (p := ⟨w.heap.size, 1, none⟩) (Nat.le_refl _) _).setCell (p := ⟨w.heap.size, 2, none⟩) (Nat.le_refl _) _).setCell (p := ⟨w.heap.size, 3, none⟩) (Nat.le_refl _) _).drew)
    have b5 : W5.cell? ⟨w.heap.size, 5, none⟩ = some (.string nm) := (Blk_cell HX5.out 5).trans rfl
    have b6 : W5.cell? ⟨w.heap.size, 6, none⟩ = some (.string s) := (Blk_cell HX5.out 6).trans rfl
    have f5 := Blk_frozen HX5.out 5
    have f6 := Blk_frozen HX5.out 6
    have hx5 : w.heap.size < W5.heap.size := (Array.getElem?_eq_some_iff.1 HX5.out).1
    have hy5 : w.heap.size + 1 < W5.heap.size := (Array.getElem?_eq_some_iff.1 HR5.out).1
    clear hW5 o0 o1 o2 b0 b1 b2 b3 f1 f2 f3
    have HC0 : Hid (Below W5.heap.size W5 W5.drew) := Lib.hid (Below.refl _ _).drew
    go_wp2_with fail
    go_region_with (go_at_call 63; refine (clone_any _ (by first | exact hS.1 | exact hS.2) _).mono ?_; rintro e w2 ⟨rfl, hb2⟩; have HC0 := Lib.hid (HC0.out.trans (hb2.mono HC0.out.size)); have d5 := (HC0.out.cell (p := ⟨w.heap.size, 5, none⟩) hx5).trans b5; have d6 := (HC0.out.cell (p := ⟨w.heap.size, 6, none⟩) hx5).trans b6; have g5 := (HC0.out.frozen (p := ⟨w.heap.size, 5, none⟩) hx5).trans f5; have g6 := (HC0.out.frozen (p := ⟨w.heap.size, 6, none⟩) hx5).trans f6; clear hb2)
    all_goals
      obtain ⟨W6, hW6⟩ : ∃ W6, (w2.setCell ⟨w.heap.size, 5, none⟩ (.string nm)).setCell ⟨w.heap.size, 6, none⟩ (.string s) = W6 := ⟨_, rfl⟩
      rw [hW6]
      have HX6 : Hid (W6.heap[w.heap.size]? = some (.cells #[.int .i64 k, .int .i64 k0, .int .i64 0, .int .i64 0, .int .i64 n, .string nm, .string s, .slice FA FL fc, .int .i64 pos] 27)) := Lib.hid (by rw [← hW6]; exact blk_put (j := 6) (blk_put (j := 5) ((HC0.out.block w.heap.size hx5).trans HX5.out)))
      have HR6 : Hid (W6.heap[w.heap.size + 1]? = some (.cells #[.int .i64 0, .int .i64 0, .int .i64 0, .int .i64 0, .int .i64 0, .string ⟨#[]⟩, .string ⟨#[]⟩, .slice none 0 0, .int .i64 0] 27)) := Lib.hid (by rw [← hW6]; exact (set_far _ _ _ _ _ (by omega)).trans ((set_far _ _ _ _ _ (by omega)).trans ((HC0.out.block (w.heap.size + 1) hy5).trans HR5.out)))
      have HB6 : Hid (Below w.heap.size w W6) := Lib.hid (by rw [← hW6]; exact ((HB5.out.trans (HC0.out.mono HB5.out.size)).setCell (p := ⟨w.heap.size, 5, none⟩) (Nat.le_refl _) _).setCell (p := ⟨w.heap.size, 6, none⟩) (Nat.le_refl _) _)
      have hz6 : w.heap.size + 1 < W6.heap.size := (Array.getElem?_eq_some_iff.1 HR6.out).1
      obtain ⟨x0, x1, x2, x3, x4, x5, x6, x7, x8, xf⟩ := cells9 HX6.out
      clear hW6 b5 b6 f5 f6 d5 d6 g5 g6
      go_wp2_with (go_at_call 72; refine (HPL.out _ _ HB6.out (fun h => absurd h (by omega))).mono ?_; rintro e w7 ⟨A7, c7, rfl, hown7, hb7⟩; have HX7 := Lib.hid ((hb7.block w.heap.size (by omega)).trans HX6.out); have HR7 := Lib.hid ((hb7.block (w.heap.size + 1) hz6).trans HR6.out); obtain ⟨y0, y1, y2, y3, y4, y5, y6, y7, y8, yf⟩ := cells9 HX7.out; obtain ⟨r0, r1, r2, r3, r4, r5, r6, r7, r8, rf⟩ := cells9 HR7.out; have HO7 := Lib.hid hown7; have HB7 := Lib.hid (HB6.out.trans (hb7.mono (by omega))); clear hown7 hb7)
      exact bodyPost_ret (v := .agg #[.int .i64 k, .int .i64 k0, .int .i64 0, .int .i64 0, .int .i64 n, .string nm, .string s, (.slice A7 rl.length c7), .int .i64 pos]) (res33 _ _ (w.heap.size + 1) _ _ _ _ _ _ _ _ _ (by simp) (store9 ((set_far _ _ _ _ _ (by omega)).trans HR7.out))) rfl ⟨A7, c7, rfl, row_mono (ownF_set9 (ownF_set HO7.out (by omega)) (by omega)) (by omega), (HB7.out.setCell (p := ⟨w.heap.size, 7, none⟩) (Nat.le_refl _) _).trans (grow9 (by omega))⟩
end Go.Proofs.YteikpeaakmbihaaDoor.T
/- withKids, the program's, of a node with so many own children. -/
namespace Go.Proofs.YteikpeaakmbihaaDoor.T
open Go.RowKit
set_option maxRecDepth 100000 in
set_option maxHeartbeats 8000000 in
theorem wk_2 (k a b c n pos : Int) (nm s : ByteArray) (FA : Option Addr) (FL fc : Nat) (k0 : Int) (k1 : Int) (KL gk ck : Nat) (rl : List Fld) (HO : Hid (ownN k = 2)) (hKL : 2 ≤ KL) (hck : KL ≤ ck) (hS : nm.size ≤ 281474976710656 ∧ s.size ≤ 281474976710656) (w : World) (hgk : gk < w.heap.size) (HR : Hid (∀ (j : Nat) (z : Int), ([k0, k1] : List Int)[j]? = some z → w.cell? ⟨gk, j, none⟩ = some (.int .i64 z)))
    (HPL : Hid (∀ (A : Option Addr) (w1 : World), Below w.heap.size w w1 → (2 < ck → A = some ⟨gk, 2, none⟩) → Calls Tryd.prog 72 #[.agg #[.int .i64 k, .int .i64 k0, .int .i64 k1, .int .i64 0, .int .i64 n, .string nm, .string s, .slice FA FL fc, .int .i64 pos], .slice A (KL - 2) (ck - 2)] w1 (PlPost rl w1))) :
    Calls Tryd.prog 47 #[.agg #[.int .i64 k, .int .i64 a, .int .i64 b, .int .i64 c, .int .i64 n, .string nm, .string s, .slice FA FL fc, .int .i64 pos], .slice (some ⟨gk, 0, none⟩) KL ck] w (WPost (fun v => #[.int .i64 k, .int .i64 k0, .int .i64 k1, .int .i64 0, .int .i64 n, .string nm, .string s, v, .int .i64 pos]) rl w) := by
  obtain ⟨w1, hw1⟩ : ∃ w1, ((w.alloc (.cells #[.int .i64 k, .int .i64 a, .int .i64 b, .int .i64 c, .int .i64 n, .string nm, .string s, .slice FA FL fc, .int .i64 pos] 27)).alloc (.cells #[.int .i64 0, .int .i64 0, .int .i64 0, .int .i64 0, .int .i64 0, .string ⟨#[]⟩, .string ⟨#[]⟩, .slice none 0 0, .int .i64 0] 27)).alloc (.cells #[.int .i64 0, .int .i64 0, .int .i64 0] 71) = w1 := ⟨_, rfl⟩
  have hs1 : w1.heap.size = w.heap.size + 3 := by rw [← hw1]; simp
  have hB1 : Below w.heap.size w w1 := by rw [← hw1]; exact below3 (Nat.le_refl _) _ _ _
  have hg1 : w1.heap[w.heap.size + 2]? = some (.cells #[.int .i64 0, .int .i64 0, .int .i64 0] 71) := by rw [← hw1]; exact heap_new _ _ _ (by simp)
  have hr1 : w1.heap[w.heap.size + 1]? = some (.cells #[.int .i64 0, .int .i64 0, .int .i64 0, .int .i64 0, .int .i64 0, .string ⟨#[]⟩, .string ⟨#[]⟩, .slice none 0 0, .int .i64 0] 27) := by
    rw [← hw1, ((Below.refl (w.heap.size + 2) ((w.alloc (.cells #[.int .i64 k, .int .i64 a, .int .i64 b, .int .i64 c, .int .i64 n, .string nm, .string s, .slice FA FL fc, .int .i64 pos] 27)).alloc (.cells #[.int .i64 0, .int .i64 0, .int .i64 0, .int .i64 0, .int .i64 0, .string ⟨#[]⟩, .string ⟨#[]⟩, .slice none 0 0, .int .i64 0] 27))).alloc (by simp) (.cells #[.int .i64 0, .int .i64 0, .int .i64 0] 71)).block _ (by omega)]
    exact heap_new _ _ _ (by simp)
  have hx1 : w1.heap[w.heap.size]? = some (.cells #[.int .i64 k, .int .i64 a, .int .i64 b, .int .i64 c, .int .i64 n, .string nm, .string s, .slice FA FL fc, .int .i64 pos] 27) := by
    rw [← hw1, ((Below.refl (w.heap.size + 2) ((w.alloc (.cells #[.int .i64 k, .int .i64 a, .int .i64 b, .int .i64 c, .int .i64 n, .string nm, .string s, .slice FA FL fc, .int .i64 pos] 27)).alloc (.cells #[.int .i64 0, .int .i64 0, .int .i64 0, .int .i64 0, .int .i64 0, .string ⟨#[]⟩, .string ⟨#[]⟩, .slice none 0 0, .int .i64 0] 27))).alloc (by simp) (.cells #[.int .i64 0, .int .i64 0, .int .i64 0] 71)).block _ (by omega), ((Below.refl (w.heap.size + 1) (w.alloc (.cells #[.int .i64 k, .int .i64 a, .int .i64 b, .int .i64 c, .int .i64 n, .string nm, .string s, .slice FA FL fc, .int .i64 pos] 27))).alloc (by simp) (.cells #[.int .i64 0, .int .i64 0, .int .i64 0, .int .i64 0, .int .i64 0, .string ⟨#[]⟩, .string ⟨#[]⟩, .slice none 0 0, .int .i64 0] 27)).block _ (by omega)]
    exact heap_new _ _ _ rfl
  obtain ⟨W4, hcp, hg4, hb4, hot⟩ := copy_at w1 (w.heap.size + 2) 2 3 ⟨gk, 0, none⟩ KL ck [.int .i64 0, .int .i64 0, .int .i64 0] (([k0, k1] : List Int).map (Value.int .i64)) 71 hg1 (by show 2 = min KL 2; omega) (fun j v hv => by
    rw [List.getElem?_map, Option.map_eq_some_iff] at hv
    obtain ⟨z, hz, rfl⟩ := hv
    rw [Addr.add_lit, Nat.zero_add, hB1.cell (p := ⟨gk, j, none⟩) hgk]
    exact HR.out j z hz) (by simp) oneInt
  have hg4' : W4.heap[w.heap.size + 2]? = some (.cells #[.int .i64 k0, .int .i64 k1, .int .i64 0] 71) := by rw [hg4]; rfl
  have hr4 := (hot (w.heap.size + 1) (by omega)).trans hr1
  have hx4 := (hot w.heap.size (by omega)).trans hx1
  have HB4 := Lib.hid (hB1.trans (hb4.mono (by omega)))
  have HX4 := Lib.hid hx4
  have HR4 := Lib.hid hr4
  have hs4 := hb4.size
  rw [← hw1] at hcp
  have o0 := Blk_cell hg4' 0
  have o1 := Blk_cell hg4' 1
  have o2 := Blk_cell hg4' 2
  have b0 := Blk_cell hx4 0
  have f1 := Blk_frozen hx4 1
  have f2 := Blk_frozen hx4 2
  have f3 := Blk_frozen hx4 3
  have b1 := Blk_cell hx4 1
  have b2 := Blk_cell hx4 2
  have b3 := Blk_cell hx4 3
  simp only [List.getElem?_toArray, List.getElem?_cons_zero, List.getElem?_cons_succ] at o0 o1 o2 b0 b1 b2 b3
  clear hg1 hr1 hx1 hot hg4 hg4' hr4 hx4 hb4 hw1 hB1
  by_cases hcm : 2 < ck
  · go_enter Tryd.func47, Tryd.ntmps47
    go_wp2_with (go_at_call 43; refine (ownKids_is HO.out _).mono ?_; rintro e w1 ⟨rfl, rfl⟩)
    go_region
    obtain ⟨W5, hW5⟩ : ∃ W5, (((W4.setCell ⟨w.heap.size, 1, none⟩ (.int .i64 k0)).setCell ⟨w.heap.size, 2, none⟩ (.int .i64 k1)).setCell ⟨w.heap.size, 3, none⟩ (.int .i64 0)).drew = W5 := ⟨_, rfl⟩
    rw [hW5]
    have HX5 : Hid (W5.heap[w.heap.size]? = some (.cells #[.int .i64 k, .int .i64 k0, .int .i64 k1, .int .i64 0, .int .i64 n, .string nm, .string s, .slice FA FL fc, .int .i64 pos] 27)) := Lib.hid (by
      rw [← hW5]
      exact (blk_put (j := 3) (blk_put (j := 2) (blk_put (j := 1) HX4.out))))
    have HR5 : Hid (W5.heap[w.heap.size + 1]? = some (.cells #[.int .i64 0, .int .i64 0, .int .i64 0, .int .i64 0, .int .i64 0, .string ⟨#[]⟩, .string ⟨#[]⟩, .slice none 0 0, .int .i64 0] 27)) := Lib.hid (by
      rw [← hW5]
      exact (set_far _ _ _ _ _ (by omega)).trans ((set_far _ _ _ _ _ (by omega)).trans ((set_far _ _ _ _ _ (by omega)).trans HR4.out)))
    have HB5 : Hid (Below w.heap.size w W5) := Lib.hid (by
      rw [← hW5]
      exact (((HB4.out.setCell (p := ⟨w.heap.size, 1, none⟩) (Nat.le_refl _) _).setCell (p := ⟨w.heap.size, 2, none⟩) (Nat.le_refl _) _).setCell (p := ⟨w.heap.size, 3, none⟩) (Nat.le_refl _) _).drew)
    have b5 : W5.cell? ⟨w.heap.size, 5, none⟩ = some (.string nm) := (Blk_cell HX5.out 5).trans rfl
    have b6 : W5.cell? ⟨w.heap.size, 6, none⟩ = some (.string s) := (Blk_cell HX5.out 6).trans rfl
    have f5 := Blk_frozen HX5.out 5
    have f6 := Blk_frozen HX5.out 6
    have hx5 : w.heap.size < W5.heap.size := (Array.getElem?_eq_some_iff.1 HX5.out).1
    have hy5 : w.heap.size + 1 < W5.heap.size := (Array.getElem?_eq_some_iff.1 HR5.out).1
    clear hW5 o0 o1 o2 b0 b1 b2 b3 f1 f2 f3
    have HC0 : Hid (Below W5.heap.size W5 W5.drew) := Lib.hid (Below.refl _ _).drew
    go_wp2_with fail
    go_region_with (go_at_call 63; refine (clone_any _ (by first | exact hS.1 | exact hS.2) _).mono ?_; rintro e w2 ⟨rfl, hb2⟩; have HC0 := Lib.hid (HC0.out.trans (hb2.mono HC0.out.size)); have d5 := (HC0.out.cell (p := ⟨w.heap.size, 5, none⟩) hx5).trans b5; have d6 := (HC0.out.cell (p := ⟨w.heap.size, 6, none⟩) hx5).trans b6; have g5 := (HC0.out.frozen (p := ⟨w.heap.size, 5, none⟩) hx5).trans f5; have g6 := (HC0.out.frozen (p := ⟨w.heap.size, 6, none⟩) hx5).trans f6; clear hb2)
    all_goals
      obtain ⟨W6, hW6⟩ : ∃ W6, (w2.setCell ⟨w.heap.size, 5, none⟩ (.string nm)).setCell ⟨w.heap.size, 6, none⟩ (.string s) = W6 := ⟨_, rfl⟩
      rw [hW6]
      have HX6 : Hid (W6.heap[w.heap.size]? = some (.cells #[.int .i64 k, .int .i64 k0, .int .i64 k1, .int .i64 0, .int .i64 n, .string nm, .string s, .slice FA FL fc, .int .i64 pos] 27)) := Lib.hid (by rw [← hW6]; exact blk_put (j := 6) (blk_put (j := 5) ((HC0.out.block w.heap.size hx5).trans HX5.out)))
      have HR6 : Hid (W6.heap[w.heap.size + 1]? = some (.cells #[.int .i64 0, .int .i64 0, .int .i64 0, .int .i64 0, .int .i64 0, .string ⟨#[]⟩, .string ⟨#[]⟩, .slice none 0 0, .int .i64 0] 27)) := Lib.hid (by rw [← hW6]; exact (set_far _ _ _ _ _ (by omega)).trans ((set_far _ _ _ _ _ (by omega)).trans ((HC0.out.block (w.heap.size + 1) hy5).trans HR5.out)))
      have HB6 : Hid (Below w.heap.size w W6) := Lib.hid (by rw [← hW6]; exact ((HB5.out.trans (HC0.out.mono HB5.out.size)).setCell (p := ⟨w.heap.size, 5, none⟩) (Nat.le_refl _) _).setCell (p := ⟨w.heap.size, 6, none⟩) (Nat.le_refl _) _)
      have hz6 : w.heap.size + 1 < W6.heap.size := (Array.getElem?_eq_some_iff.1 HR6.out).1
      obtain ⟨x0, x1, x2, x3, x4, x5, x6, x7, x8, xf⟩ := cells9 HX6.out
      clear hW6 b5 b6 f5 f6 d5 d6 g5 g6
      go_wp2_with (go_at_call 72; refine (HPL.out _ _ HB6.out (fun _ => rfl)).mono ?_; rintro e w7 ⟨A7, c7, rfl, hown7, hb7⟩; have HX7 := Lib.hid ((hb7.block w.heap.size (by omega)).trans HX6.out); have HR7 := Lib.hid ((hb7.block (w.heap.size + 1) hz6).trans HR6.out); obtain ⟨y0, y1, y2, y3, y4, y5, y6, y7, y8, yf⟩ := cells9 HX7.out; obtain ⟨r0, r1, r2, r3, r4, r5, r6, r7, r8, rf⟩ := cells9 HR7.out; have HO7 := Lib.hid hown7; have HB7 := Lib.hid (HB6.out.trans (hb7.mono (by omega))); clear hown7 hb7)
      exact bodyPost_ret (v := .agg #[.int .i64 k, .int .i64 k0, .int .i64 k1, .int .i64 0, .int .i64 n, .string nm, .string s, (.slice A7 rl.length c7), .int .i64 pos]) (res33 _ _ (w.heap.size + 1) _ _ _ _ _ _ _ _ _ (by simp) (store9 ((set_far _ _ _ _ _ (by omega)).trans HR7.out))) rfl ⟨A7, c7, rfl, row_mono (ownF_set9 (ownF_set HO7.out (by omega)) (by omega)) (by omega), (HB7.out.setCell (p := ⟨w.heap.size, 7, none⟩) (Nat.le_refl _) _).trans (grow9 (by omega))⟩
  · (obtain rfl : ck = 2 := by omega)
    obtain rfl : KL = 2 := by omega
    go_enter Tryd.func47, Tryd.ntmps47
    go_wp2_with (go_at_call 43; refine (ownKids_is HO.out _).mono ?_; rintro e w1 ⟨rfl, rfl⟩)
    go_region
    obtain ⟨W5, hW5⟩ : ∃ W5, (((W4.setCell ⟨w.heap.size, 1, none⟩ (.int .i64 k0)).setCell ⟨w.heap.size, 2, none⟩ (.int .i64 k1)).setCell ⟨w.heap.size, 3, none⟩ (.int .i64 0)).drew = W5 := ⟨_, rfl⟩
    rw [hW5]
    have HX5 : Hid (W5.heap[w.heap.size]? = some (.cells #[.int .i64 k, .int .i64 k0, .int .i64 k1, .int .i64 0, .int .i64 n, .string nm, .string s, .slice FA FL fc, .int .i64 pos] 27)) := Lib.hid (by
      rw [← hW5]
      exact (blk_put (j := 3) (blk_put (j := 2) (blk_put (j := 1) HX4.out))))
    have HR5 : Hid (W5.heap[w.heap.size + 1]? = some (.cells #[.int .i64 0, .int .i64 0, .int .i64 0, .int .i64 0, .int .i64 0, .string ⟨#[]⟩, .string ⟨#[]⟩, .slice none 0 0, .int .i64 0] 27)) := Lib.hid (by
      rw [← hW5]
      exact (set_far _ _ _ _ _ (by omega)).trans ((set_far _ _ _ _ _ (by omega)).trans ((set_far _ _ _ _ _ (by omega)).trans HR4.out)))
    have HB5 : Hid (Below w.heap.size w W5) := Lib.hid (by
      rw [← hW5]
      exact (((HB4.out.setCell (p := ⟨w.heap.size, 1, none⟩) (Nat.le_refl _) _).setCell (p := ⟨w.heap.size, 2, none⟩) (Nat.le_refl _) _).setCell (p := ⟨w.heap.size, 3, none⟩) (Nat.le_refl _) _).drew)
    have b5 : W5.cell? ⟨w.heap.size, 5, none⟩ = some (.string nm) := (Blk_cell HX5.out 5).trans rfl
    have b6 : W5.cell? ⟨w.heap.size, 6, none⟩ = some (.string s) := (Blk_cell HX5.out 6).trans rfl
    have f5 := Blk_frozen HX5.out 5
    have f6 := Blk_frozen HX5.out 6
    have hx5 : w.heap.size < W5.heap.size := (Array.getElem?_eq_some_iff.1 HX5.out).1
    have hy5 : w.heap.size + 1 < W5.heap.size := (Array.getElem?_eq_some_iff.1 HR5.out).1
    clear hW5 o0 o1 o2 b0 b1 b2 b3 f1 f2 f3
    have HC0 : Hid (Below W5.heap.size W5 W5.drew) := Lib.hid (Below.refl _ _).drew
    go_wp2_with fail
    go_region_with (go_at_call 63; refine (clone_any _ (by first | exact hS.1 | exact hS.2) _).mono ?_; rintro e w2 ⟨rfl, hb2⟩; have HC0 := Lib.hid (HC0.out.trans (hb2.mono HC0.out.size)); have d5 := (HC0.out.cell (p := ⟨w.heap.size, 5, none⟩) hx5).trans b5; have d6 := (HC0.out.cell (p := ⟨w.heap.size, 6, none⟩) hx5).trans b6; have g5 := (HC0.out.frozen (p := ⟨w.heap.size, 5, none⟩) hx5).trans f5; have g6 := (HC0.out.frozen (p := ⟨w.heap.size, 6, none⟩) hx5).trans f6; clear hb2)
    all_goals
      obtain ⟨W6, hW6⟩ : ∃ W6, (w2.setCell ⟨w.heap.size, 5, none⟩ (.string nm)).setCell ⟨w.heap.size, 6, none⟩ (.string s) = W6 := ⟨_, rfl⟩
      rw [hW6]
      have HX6 : Hid (W6.heap[w.heap.size]? = some (.cells #[.int .i64 k, .int .i64 k0, .int .i64 k1, .int .i64 0, .int .i64 n, .string nm, .string s, .slice FA FL fc, .int .i64 pos] 27)) := Lib.hid (by rw [← hW6]; exact blk_put (j := 6) (blk_put (j := 5) ((HC0.out.block w.heap.size hx5).trans HX5.out)))
      have HR6 : Hid (W6.heap[w.heap.size + 1]? = some (.cells #[.int .i64 0, .int .i64 0, .int .i64 0, .int .i64 0, .int .i64 0, .string ⟨#[]⟩, .string ⟨#[]⟩, .slice none 0 0, .int .i64 0] 27)) := Lib.hid (by rw [← hW6]; exact (set_far _ _ _ _ _ (by omega)).trans ((set_far _ _ _ _ _ (by omega)).trans ((HC0.out.block (w.heap.size + 1) hy5).trans HR5.out)))
      have HB6 : Hid (Below w.heap.size w W6) := Lib.hid (by rw [← hW6]; exact ((HB5.out.trans (HC0.out.mono HB5.out.size)).setCell (p := ⟨w.heap.size, 5, none⟩) (Nat.le_refl _) _).setCell (p := ⟨w.heap.size, 6, none⟩) (Nat.le_refl _) _)
      have hz6 : w.heap.size + 1 < W6.heap.size := (Array.getElem?_eq_some_iff.1 HR6.out).1
      obtain ⟨x0, x1, x2, x3, x4, x5, x6, x7, x8, xf⟩ := cells9 HX6.out
      clear hW6 b5 b6 f5 f6 d5 d6 g5 g6
      go_wp2_with (go_at_call 72; refine (HPL.out _ _ HB6.out (fun h => absurd h (by omega))).mono ?_; rintro e w7 ⟨A7, c7, rfl, hown7, hb7⟩; have HX7 := Lib.hid ((hb7.block w.heap.size (by omega)).trans HX6.out); have HR7 := Lib.hid ((hb7.block (w.heap.size + 1) hz6).trans HR6.out); obtain ⟨y0, y1, y2, y3, y4, y5, y6, y7, y8, yf⟩ := cells9 HX7.out; obtain ⟨r0, r1, r2, r3, r4, r5, r6, r7, r8, rf⟩ := cells9 HR7.out; have HO7 := Lib.hid hown7; have HB7 := Lib.hid (HB6.out.trans (hb7.mono (by omega))); clear hown7 hb7)
      exact bodyPost_ret (v := .agg #[.int .i64 k, .int .i64 k0, .int .i64 k1, .int .i64 0, .int .i64 n, .string nm, .string s, (.slice A7 rl.length c7), .int .i64 pos]) (res33 _ _ (w.heap.size + 1) _ _ _ _ _ _ _ _ _ (by simp) (store9 ((set_far _ _ _ _ _ (by omega)).trans HR7.out))) rfl ⟨A7, c7, rfl, row_mono (ownF_set9 (ownF_set HO7.out (by omega)) (by omega)) (by omega), (HB7.out.setCell (p := ⟨w.heap.size, 7, none⟩) (Nat.le_refl _) _).trans (grow9 (by omega))⟩
end Go.Proofs.YteikpeaakmbihaaDoor.T
/- withKids, the program's, of a node with so many own children. -/
namespace Go.Proofs.YteikpeaakmbihaaDoor.T
open Go.RowKit
set_option maxRecDepth 100000 in
set_option maxHeartbeats 8000000 in
theorem wk_3 (k a b c n pos : Int) (nm s : ByteArray) (FA : Option Addr) (FL fc : Nat) (k0 : Int) (k1 : Int) (k2 : Int) (KL gk ck : Nat) (rl : List Fld) (HO : Hid (ownN k = 3)) (hKL : 3 ≤ KL) (hck : KL ≤ ck) (hS : nm.size ≤ 281474976710656 ∧ s.size ≤ 281474976710656) (w : World) (hgk : gk < w.heap.size) (HR : Hid (∀ (j : Nat) (z : Int), ([k0, k1, k2] : List Int)[j]? = some z → w.cell? ⟨gk, j, none⟩ = some (.int .i64 z)))
    (HPL : Hid (∀ (A : Option Addr) (w1 : World), Below w.heap.size w w1 → (3 < ck → A = some ⟨gk, 3, none⟩) → Calls Tryd.prog 72 #[.agg #[.int .i64 k, .int .i64 k0, .int .i64 k1, .int .i64 k2, .int .i64 n, .string nm, .string s, .slice FA FL fc, .int .i64 pos], .slice A (KL - 3) (ck - 3)] w1 (PlPost rl w1))) :
    Calls Tryd.prog 47 #[.agg #[.int .i64 k, .int .i64 a, .int .i64 b, .int .i64 c, .int .i64 n, .string nm, .string s, .slice FA FL fc, .int .i64 pos], .slice (some ⟨gk, 0, none⟩) KL ck] w (WPost (fun v => #[.int .i64 k, .int .i64 k0, .int .i64 k1, .int .i64 k2, .int .i64 n, .string nm, .string s, v, .int .i64 pos]) rl w) := by
  obtain ⟨w1, hw1⟩ : ∃ w1, ((w.alloc (.cells #[.int .i64 k, .int .i64 a, .int .i64 b, .int .i64 c, .int .i64 n, .string nm, .string s, .slice FA FL fc, .int .i64 pos] 27)).alloc (.cells #[.int .i64 0, .int .i64 0, .int .i64 0, .int .i64 0, .int .i64 0, .string ⟨#[]⟩, .string ⟨#[]⟩, .slice none 0 0, .int .i64 0] 27)).alloc (.cells #[.int .i64 0, .int .i64 0, .int .i64 0] 71) = w1 := ⟨_, rfl⟩
  have hs1 : w1.heap.size = w.heap.size + 3 := by rw [← hw1]; simp
  have hB1 : Below w.heap.size w w1 := by rw [← hw1]; exact below3 (Nat.le_refl _) _ _ _
  have hg1 : w1.heap[w.heap.size + 2]? = some (.cells #[.int .i64 0, .int .i64 0, .int .i64 0] 71) := by rw [← hw1]; exact heap_new _ _ _ (by simp)
  have hr1 : w1.heap[w.heap.size + 1]? = some (.cells #[.int .i64 0, .int .i64 0, .int .i64 0, .int .i64 0, .int .i64 0, .string ⟨#[]⟩, .string ⟨#[]⟩, .slice none 0 0, .int .i64 0] 27) := by
    rw [← hw1, ((Below.refl (w.heap.size + 2) ((w.alloc (.cells #[.int .i64 k, .int .i64 a, .int .i64 b, .int .i64 c, .int .i64 n, .string nm, .string s, .slice FA FL fc, .int .i64 pos] 27)).alloc (.cells #[.int .i64 0, .int .i64 0, .int .i64 0, .int .i64 0, .int .i64 0, .string ⟨#[]⟩, .string ⟨#[]⟩, .slice none 0 0, .int .i64 0] 27))).alloc (by simp) (.cells #[.int .i64 0, .int .i64 0, .int .i64 0] 71)).block _ (by omega)]
    exact heap_new _ _ _ (by simp)
  have hx1 : w1.heap[w.heap.size]? = some (.cells #[.int .i64 k, .int .i64 a, .int .i64 b, .int .i64 c, .int .i64 n, .string nm, .string s, .slice FA FL fc, .int .i64 pos] 27) := by
    rw [← hw1, ((Below.refl (w.heap.size + 2) ((w.alloc (.cells #[.int .i64 k, .int .i64 a, .int .i64 b, .int .i64 c, .int .i64 n, .string nm, .string s, .slice FA FL fc, .int .i64 pos] 27)).alloc (.cells #[.int .i64 0, .int .i64 0, .int .i64 0, .int .i64 0, .int .i64 0, .string ⟨#[]⟩, .string ⟨#[]⟩, .slice none 0 0, .int .i64 0] 27))).alloc (by simp) (.cells #[.int .i64 0, .int .i64 0, .int .i64 0] 71)).block _ (by omega), ((Below.refl (w.heap.size + 1) (w.alloc (.cells #[.int .i64 k, .int .i64 a, .int .i64 b, .int .i64 c, .int .i64 n, .string nm, .string s, .slice FA FL fc, .int .i64 pos] 27))).alloc (by simp) (.cells #[.int .i64 0, .int .i64 0, .int .i64 0, .int .i64 0, .int .i64 0, .string ⟨#[]⟩, .string ⟨#[]⟩, .slice none 0 0, .int .i64 0] 27)).block _ (by omega)]
    exact heap_new _ _ _ rfl
  obtain ⟨W4, hcp, hg4, hb4, hot⟩ := copy_at w1 (w.heap.size + 2) 3 3 ⟨gk, 0, none⟩ KL ck [.int .i64 0, .int .i64 0, .int .i64 0] (([k0, k1, k2] : List Int).map (Value.int .i64)) 71 hg1 (by show 3 = min KL 3; omega) (fun j v hv => by
    rw [List.getElem?_map, Option.map_eq_some_iff] at hv
    obtain ⟨z, hz, rfl⟩ := hv
    rw [Addr.add_lit, Nat.zero_add, hB1.cell (p := ⟨gk, j, none⟩) hgk]
    exact HR.out j z hz) (by simp) oneInt
  have hg4' : W4.heap[w.heap.size + 2]? = some (.cells #[.int .i64 k0, .int .i64 k1, .int .i64 k2] 71) := by rw [hg4]; rfl
  have hr4 := (hot (w.heap.size + 1) (by omega)).trans hr1
  have hx4 := (hot w.heap.size (by omega)).trans hx1
  have HB4 := Lib.hid (hB1.trans (hb4.mono (by omega)))
  have HX4 := Lib.hid hx4
  have HR4 := Lib.hid hr4
  have hs4 := hb4.size
  rw [← hw1] at hcp
  have o0 := Blk_cell hg4' 0
  have o1 := Blk_cell hg4' 1
  have o2 := Blk_cell hg4' 2
  have b0 := Blk_cell hx4 0
  have f1 := Blk_frozen hx4 1
  have f2 := Blk_frozen hx4 2
  have f3 := Blk_frozen hx4 3
  have b1 := Blk_cell hx4 1
  have b2 := Blk_cell hx4 2
  have b3 := Blk_cell hx4 3
  simp only [List.getElem?_toArray, List.getElem?_cons_zero, List.getElem?_cons_succ] at o0 o1 o2 b0 b1 b2 b3
  clear hg1 hr1 hx1 hot hg4 hg4' hr4 hx4 hb4 hw1 hB1
  by_cases hcm : 3 < ck
  · go_enter Tryd.func47, Tryd.ntmps47
    go_wp2_with (go_at_call 43; refine (ownKids_is HO.out _).mono ?_; rintro e w1 ⟨rfl, rfl⟩)
    go_region
    obtain ⟨W5, hW5⟩ : ∃ W5, (((W4.setCell ⟨w.heap.size, 1, none⟩ (.int .i64 k0)).setCell ⟨w.heap.size, 2, none⟩ (.int .i64 k1)).setCell ⟨w.heap.size, 3, none⟩ (.int .i64 k2)).drew = W5 := ⟨_, rfl⟩
    rw [hW5]
    have HX5 : Hid (W5.heap[w.heap.size]? = some (.cells #[.int .i64 k, .int .i64 k0, .int .i64 k1, .int .i64 k2, .int .i64 n, .string nm, .string s, .slice FA FL fc, .int .i64 pos] 27)) := Lib.hid (by
      rw [← hW5]
      exact (blk_put (j := 3) (blk_put (j := 2) (blk_put (j := 1) HX4.out))))
    have HR5 : Hid (W5.heap[w.heap.size + 1]? = some (.cells #[.int .i64 0, .int .i64 0, .int .i64 0, .int .i64 0, .int .i64 0, .string ⟨#[]⟩, .string ⟨#[]⟩, .slice none 0 0, .int .i64 0] 27)) := Lib.hid (by
      rw [← hW5]
      exact (set_far _ _ _ _ _ (by omega)).trans ((set_far _ _ _ _ _ (by omega)).trans ((set_far _ _ _ _ _ (by omega)).trans HR4.out)))
    have HB5 : Hid (Below w.heap.size w W5) := Lib.hid (by
      rw [← hW5]
      exact (((HB4.out.setCell (p := ⟨w.heap.size, 1, none⟩) (Nat.le_refl _) _).setCell (p := ⟨w.heap.size, 2, none⟩) (Nat.le_refl _) _).setCell (p := ⟨w.heap.size, 3, none⟩) (Nat.le_refl _) _).drew)
    have b5 : W5.cell? ⟨w.heap.size, 5, none⟩ = some (.string nm) := (Blk_cell HX5.out 5).trans rfl
    have b6 : W5.cell? ⟨w.heap.size, 6, none⟩ = some (.string s) := (Blk_cell HX5.out 6).trans rfl
    have f5 := Blk_frozen HX5.out 5
    have f6 := Blk_frozen HX5.out 6
    have hx5 : w.heap.size < W5.heap.size := (Array.getElem?_eq_some_iff.1 HX5.out).1
    have hy5 : w.heap.size + 1 < W5.heap.size := (Array.getElem?_eq_some_iff.1 HR5.out).1
    clear hW5 o0 o1 o2 b0 b1 b2 b3 f1 f2 f3
    have HC0 : Hid (Below W5.heap.size W5 W5.drew) := Lib.hid (Below.refl _ _).drew
    go_wp2_with fail
    go_region_with (go_at_call 63; refine (clone_any _ (by first | exact hS.1 | exact hS.2) _).mono ?_; rintro e w2 ⟨rfl, hb2⟩; have HC0 := Lib.hid (HC0.out.trans (hb2.mono HC0.out.size)); have d5 := (HC0.out.cell (p := ⟨w.heap.size, 5, none⟩) hx5).trans b5; have d6 := (HC0.out.cell (p := ⟨w.heap.size, 6, none⟩) hx5).trans b6; have g5 := (HC0.out.frozen (p := ⟨w.heap.size, 5, none⟩) hx5).trans f5; have g6 := (HC0.out.frozen (p := ⟨w.heap.size, 6, none⟩) hx5).trans f6; clear hb2)
    all_goals
      obtain ⟨W6, hW6⟩ : ∃ W6, (w2.setCell ⟨w.heap.size, 5, none⟩ (.string nm)).setCell ⟨w.heap.size, 6, none⟩ (.string s) = W6 := ⟨_, rfl⟩
      rw [hW6]
      have HX6 : Hid (W6.heap[w.heap.size]? = some (.cells #[.int .i64 k, .int .i64 k0, .int .i64 k1, .int .i64 k2, .int .i64 n, .string nm, .string s, .slice FA FL fc, .int .i64 pos] 27)) := Lib.hid (by rw [← hW6]; exact blk_put (j := 6) (blk_put (j := 5) ((HC0.out.block w.heap.size hx5).trans HX5.out)))
      have HR6 : Hid (W6.heap[w.heap.size + 1]? = some (.cells #[.int .i64 0, .int .i64 0, .int .i64 0, .int .i64 0, .int .i64 0, .string ⟨#[]⟩, .string ⟨#[]⟩, .slice none 0 0, .int .i64 0] 27)) := Lib.hid (by rw [← hW6]; exact (set_far _ _ _ _ _ (by omega)).trans ((set_far _ _ _ _ _ (by omega)).trans ((HC0.out.block (w.heap.size + 1) hy5).trans HR5.out)))
      have HB6 : Hid (Below w.heap.size w W6) := Lib.hid (by rw [← hW6]; exact ((HB5.out.trans (HC0.out.mono HB5.out.size)).setCell (p := ⟨w.heap.size, 5, none⟩) (Nat.le_refl _) _).setCell (p := ⟨w.heap.size, 6, none⟩) (Nat.le_refl _) _)
      have hz6 : w.heap.size + 1 < W6.heap.size := (Array.getElem?_eq_some_iff.1 HR6.out).1
      obtain ⟨x0, x1, x2, x3, x4, x5, x6, x7, x8, xf⟩ := cells9 HX6.out
      clear hW6 b5 b6 f5 f6 d5 d6 g5 g6
      go_wp2_with (go_at_call 72; refine (HPL.out _ _ HB6.out (fun _ => rfl)).mono ?_; rintro e w7 ⟨A7, c7, rfl, hown7, hb7⟩; have HX7 := Lib.hid ((hb7.block w.heap.size (by omega)).trans HX6.out); have HR7 := Lib.hid ((hb7.block (w.heap.size + 1) hz6).trans HR6.out); obtain ⟨y0, y1, y2, y3, y4, y5, y6, y7, y8, yf⟩ := cells9 HX7.out; obtain ⟨r0, r1, r2, r3, r4, r5, r6, r7, r8, rf⟩ := cells9 HR7.out; have HO7 := Lib.hid hown7; have HB7 := Lib.hid (HB6.out.trans (hb7.mono (by omega))); clear hown7 hb7)
      exact bodyPost_ret (v := .agg #[.int .i64 k, .int .i64 k0, .int .i64 k1, .int .i64 k2, .int .i64 n, .string nm, .string s, (.slice A7 rl.length c7), .int .i64 pos]) (res33 _ _ (w.heap.size + 1) _ _ _ _ _ _ _ _ _ (by simp) (store9 ((set_far _ _ _ _ _ (by omega)).trans HR7.out))) rfl ⟨A7, c7, rfl, row_mono (ownF_set9 (ownF_set HO7.out (by omega)) (by omega)) (by omega), (HB7.out.setCell (p := ⟨w.heap.size, 7, none⟩) (Nat.le_refl _) _).trans (grow9 (by omega))⟩
  · (obtain rfl : ck = 3 := by omega)
    obtain rfl : KL = 3 := by omega
    go_enter Tryd.func47, Tryd.ntmps47
    go_wp2_with (go_at_call 43; refine (ownKids_is HO.out _).mono ?_; rintro e w1 ⟨rfl, rfl⟩)
    go_region
    obtain ⟨W5, hW5⟩ : ∃ W5, (((W4.setCell ⟨w.heap.size, 1, none⟩ (.int .i64 k0)).setCell ⟨w.heap.size, 2, none⟩ (.int .i64 k1)).setCell ⟨w.heap.size, 3, none⟩ (.int .i64 k2)).drew = W5 := ⟨_, rfl⟩
    rw [hW5]
    have HX5 : Hid (W5.heap[w.heap.size]? = some (.cells #[.int .i64 k, .int .i64 k0, .int .i64 k1, .int .i64 k2, .int .i64 n, .string nm, .string s, .slice FA FL fc, .int .i64 pos] 27)) := Lib.hid (by
      rw [← hW5]
      exact (blk_put (j := 3) (blk_put (j := 2) (blk_put (j := 1) HX4.out))))
    have HR5 : Hid (W5.heap[w.heap.size + 1]? = some (.cells #[.int .i64 0, .int .i64 0, .int .i64 0, .int .i64 0, .int .i64 0, .string ⟨#[]⟩, .string ⟨#[]⟩, .slice none 0 0, .int .i64 0] 27)) := Lib.hid (by
      rw [← hW5]
      exact (set_far _ _ _ _ _ (by omega)).trans ((set_far _ _ _ _ _ (by omega)).trans ((set_far _ _ _ _ _ (by omega)).trans HR4.out)))
    have HB5 : Hid (Below w.heap.size w W5) := Lib.hid (by
      rw [← hW5]
      exact (((HB4.out.setCell (p := ⟨w.heap.size, 1, none⟩) (Nat.le_refl _) _).setCell (p := ⟨w.heap.size, 2, none⟩) (Nat.le_refl _) _).setCell (p := ⟨w.heap.size, 3, none⟩) (Nat.le_refl _) _).drew)
    have b5 : W5.cell? ⟨w.heap.size, 5, none⟩ = some (.string nm) := (Blk_cell HX5.out 5).trans rfl
    have b6 : W5.cell? ⟨w.heap.size, 6, none⟩ = some (.string s) := (Blk_cell HX5.out 6).trans rfl
    have f5 := Blk_frozen HX5.out 5
    have f6 := Blk_frozen HX5.out 6
    have hx5 : w.heap.size < W5.heap.size := (Array.getElem?_eq_some_iff.1 HX5.out).1
    have hy5 : w.heap.size + 1 < W5.heap.size := (Array.getElem?_eq_some_iff.1 HR5.out).1
    clear hW5 o0 o1 o2 b0 b1 b2 b3 f1 f2 f3
    have HC0 : Hid (Below W5.heap.size W5 W5.drew) := Lib.hid (Below.refl _ _).drew
    go_wp2_with fail
    go_region_with (go_at_call 63; refine (clone_any _ (by first | exact hS.1 | exact hS.2) _).mono ?_; rintro e w2 ⟨rfl, hb2⟩; have HC0 := Lib.hid (HC0.out.trans (hb2.mono HC0.out.size)); have d5 := (HC0.out.cell (p := ⟨w.heap.size, 5, none⟩) hx5).trans b5; have d6 := (HC0.out.cell (p := ⟨w.heap.size, 6, none⟩) hx5).trans b6; have g5 := (HC0.out.frozen (p := ⟨w.heap.size, 5, none⟩) hx5).trans f5; have g6 := (HC0.out.frozen (p := ⟨w.heap.size, 6, none⟩) hx5).trans f6; clear hb2)
    all_goals
      obtain ⟨W6, hW6⟩ : ∃ W6, (w2.setCell ⟨w.heap.size, 5, none⟩ (.string nm)).setCell ⟨w.heap.size, 6, none⟩ (.string s) = W6 := ⟨_, rfl⟩
      rw [hW6]
      have HX6 : Hid (W6.heap[w.heap.size]? = some (.cells #[.int .i64 k, .int .i64 k0, .int .i64 k1, .int .i64 k2, .int .i64 n, .string nm, .string s, .slice FA FL fc, .int .i64 pos] 27)) := Lib.hid (by rw [← hW6]; exact blk_put (j := 6) (blk_put (j := 5) ((HC0.out.block w.heap.size hx5).trans HX5.out)))
      have HR6 : Hid (W6.heap[w.heap.size + 1]? = some (.cells #[.int .i64 0, .int .i64 0, .int .i64 0, .int .i64 0, .int .i64 0, .string ⟨#[]⟩, .string ⟨#[]⟩, .slice none 0 0, .int .i64 0] 27)) := Lib.hid (by rw [← hW6]; exact (set_far _ _ _ _ _ (by omega)).trans ((set_far _ _ _ _ _ (by omega)).trans ((HC0.out.block (w.heap.size + 1) hy5).trans HR5.out)))
      have HB6 : Hid (Below w.heap.size w W6) := Lib.hid (by rw [← hW6]; exact ((HB5.out.trans (HC0.out.mono HB5.out.size)).setCell (p := ⟨w.heap.size, 5, none⟩) (Nat.le_refl _) _).setCell (p := ⟨w.heap.size, 6, none⟩) (Nat.le_refl _) _)
      have hz6 : w.heap.size + 1 < W6.heap.size := (Array.getElem?_eq_some_iff.1 HR6.out).1
      obtain ⟨x0, x1, x2, x3, x4, x5, x6, x7, x8, xf⟩ := cells9 HX6.out
      clear hW6 b5 b6 f5 f6 d5 d6 g5 g6
      go_wp2_with (go_at_call 72; refine (HPL.out _ _ HB6.out (fun h => absurd h (by omega))).mono ?_; rintro e w7 ⟨A7, c7, rfl, hown7, hb7⟩; have HX7 := Lib.hid ((hb7.block w.heap.size (by omega)).trans HX6.out); have HR7 := Lib.hid ((hb7.block (w.heap.size + 1) hz6).trans HR6.out); obtain ⟨y0, y1, y2, y3, y4, y5, y6, y7, y8, yf⟩ := cells9 HX7.out; obtain ⟨r0, r1, r2, r3, r4, r5, r6, r7, r8, rf⟩ := cells9 HR7.out; have HO7 := Lib.hid hown7; have HB7 := Lib.hid (HB6.out.trans (hb7.mono (by omega))); clear hown7 hb7)
      exact bodyPost_ret (v := .agg #[.int .i64 k, .int .i64 k0, .int .i64 k1, .int .i64 k2, .int .i64 n, .string nm, .string s, (.slice A7 rl.length c7), .int .i64 pos]) (res33 _ _ (w.heap.size + 1) _ _ _ _ _ _ _ _ _ (by simp) (store9 ((set_far _ _ _ _ _ (by omega)).trans HR7.out))) rfl ⟨A7, c7, rfl, row_mono (ownF_set9 (ownF_set HO7.out (by omega)) (by omega)) (by omega), (HB7.out.setCell (p := ⟨w.heap.size, 7, none⟩) (Nat.le_refl _) _).trans (grow9 (by omega))⟩
end Go.Proofs.YteikpeaakmbihaaDoor.T
