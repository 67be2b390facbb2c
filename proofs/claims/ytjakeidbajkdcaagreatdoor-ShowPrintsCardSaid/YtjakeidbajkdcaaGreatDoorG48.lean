/- Joined by program: SN12, SN13, SO, SO10, SP11, SP14, SQ, SR. -/
import Derived.Test.YtjakeidbajkdcaaGreatDoorG39
import Derived.Test.YtjakeidbajkdcaaGreatDoorG13
import Derived.Test.YtjakeidbajkdcaaGreatDoorG20
import Derived.Test.YtjakeidbajkdcaaGreatDoorG24
import Derived.Deep.RegionHeld3
import Derived.Laws.Concat
import Derived.Deep.Cut
import Derived.LoopTactic
/- The document's Text of a node with children. -/
namespace Go.Proofs.YtjakeidbajkdcaaGreatDoor.S
open T Go.RowKit Go.Shelf
set_option maxRecDepth 100000 in
set_option maxHeartbeats 16000000 in
theorem rtext_12 (a b c n pos : Int) (nm s : ByteArray) (FA : Option Addr) (FL fc i b0 o N c0 : Nat) (w : World) (hi : i < N) (_hN : N ≤ 600) (hb0 : b0 < w.heap.size) (sa : ByteArray) (hM : w.cell? ⟨b0, o + i * 9, none⟩ = some (.int .i64 12) ∧ w.cell? ⟨b0, o + i * 9 + 1, none⟩ = some (.int .i64 a) ∧ w.cell? ⟨b0, o + i * 9 + 2, none⟩ = some (.int .i64 b) ∧ w.cell? ⟨b0, o + i * 9 + 3, none⟩ = some (.int .i64 c) ∧ w.cell? ⟨b0, o + i * 9 + 4, none⟩ = some (.int .i64 n) ∧ w.cell? ⟨b0, o + i * 9 + 5, none⟩ = some (.string nm) ∧ w.cell? ⟨b0, o + i * 9 + 6, none⟩ = some (.string s) ∧ w.cell? ⟨b0, o + i * 9 + 7, none⟩ = some (.slice FA FL fc) ∧ w.cell? ⟨b0, o + i * 9 + 8, none⟩ = some (.int .i64 pos)) (hnm : nm.size ≤ 20) (ha : sa.size ≤ 1000000000) (HA : Hid (∀ W, Below w.heap.size w W → Calls Tryz.prog 73 #[.agg #[.slice (some ⟨b0, o, none⟩) N c0], .int .i64 a, .int .i64 6] W (SPost sa W))) :
    Calls Tryz.prog 39 #[.agg #[.slice (some ⟨b0, o, none⟩) N c0], .int .i64 (i : Int)] w (SPost ((sa ++ ⟨#[46]⟩) ++ nm) w) := by
  obtain ⟨m0, m1, m2, m3, m4, m5, m6, m7, m8⟩ := hM
  have hX0 := (Below.refl w.heap.size w).alloc (Nat.le_refl _) (.cells #[.slice (some ⟨b0, o, none⟩) N c0] 25)
  have HX := Lib.hid (hX0.alloc hX0.size (.cells #[.int .i64 12, .int .i64 a, .int .i64 b, .int .i64 c, .int .i64 n, .string nm, .string s, .slice FA FL fc, .int .i64 pos] 37))
  have HG : Hid (((w.alloc (.cells #[.slice (some ⟨b0, o, none⟩) N c0] 25)).alloc (.cells #[.int .i64 12, .int .i64 a, .int .i64 b, .int .i64 c, .int .i64 n, .string nm, .string s, .slice FA FL fc, .int .i64 pos] 37)).heap[w.heap.size + 1]? = some (.cells #[.int .i64 12, .int .i64 a, .int .i64 b, .int .i64 c, .int .i64 n, .string nm, .string s, .slice FA FL fc, .int .i64 pos] 37 (0, 0))) := Lib.hid (by have := World.alloc_heap_new (w.alloc (.cells #[.slice (some ⟨b0, o, none⟩) N c0] 25)) (.cells #[.int .i64 12, .int .i64 a, .int .i64 b, .int .i64 c, .int .i64 n, .string nm, .string s, .slice FA FL fc, .int .i64 pos] 37); simpa using this)
  have HE : Hid (((w.alloc (.cells #[.slice (some ⟨b0, o, none⟩) N c0] 25)).alloc (.cells #[.int .i64 12, .int .i64 a, .int .i64 b, .int .i64 c, .int .i64 n, .string nm, .string s, .slice FA FL fc, .int .i64 pos] 37)).heap[w.heap.size]? = some (.cells #[.slice (some ⟨b0, o, none⟩) N c0] 25 (0, 0))) := Lib.hid (nextAt (World.alloc_heap_new w _))
  have lo : ∀ k, (w.alloc (.cells #[.slice (some ⟨b0, o, none⟩) N c0] 25)).cell? ⟨b0, k, none⟩ = w.cell? ⟨b0, k, none⟩ := fun k => hX0.cell (p := ⟨b0, k, none⟩) hb0
  rw [← lo] at m0 m1 m2 m3 m4 m5 m6 m7 m8
  clear hX0 lo
  have z0 : ∀ W : World, (Op.stringOp .add sa ⟨#[46]⟩).run Tryz.prog W = .ok (.string (sa ++ ⟨#[46]⟩)) W := fun W => run_string_add_sum W _ _ (Nat.le_trans (Nat.add_le_add ha (Nat.le_refl 1)) (by decide))
  have z1 : ∀ W : World, (Op.stringOp .add (sa ++ ⟨#[46]⟩) nm).run Tryz.prog W = .ok (.string ((sa ++ ⟨#[46]⟩) ++ nm)) W := fun W => run_string_add_sum W _ _ (Nat.le_trans (Nat.add_le_add (cat_le ha (Nat.le_refl 1)) hnm) (by decide))
  go_enter Tryz.func39, Tryz.ntmps39
  go_wp2
  have HD := Lib.hid HX.out.drew
  have ye := Blk_cell HE.out 0
  have y1 := Blk_cell HG.out 1
  have y5 := Blk_cell HG.out 5
  go_region_held3 (fun W => W.cell? ⟨w.heap.size, 0, none⟩ = some (.slice (some ⟨b0, o, none⟩) N c0) ∧ W.cell? ⟨w.heap.size + 1, 1, none⟩ = some (.int .i64 a) ∧ W.cell? ⟨w.heap.size + 1, 5, none⟩ = some (.string nm)) (first | exact ⟨ye, y1, y5⟩ | exact ⟨u1e, u11, u15⟩) (first | (go_at_call 73; (with_reducible refine (HA.out _ HD.out).mono ?_); rintro e w1 ⟨rfl, hb⟩; have H1 := Lib.hid (HD.out.trans (hb.mono HD.out.size)); have g := (hb.block (w.heap.size + 1) (Array.getElem?_eq_some_iff.1 HG.out).1).trans HG.out; have ge := (hb.block w.heap.size (Array.getElem?_eq_some_iff.1 HE.out).1).trans HE.out; have u1e := Blk_cell ge 0; have u11 := Blk_cell g 1; have u15 := Blk_cell g 5; have G1 := Lib.hid g; have E1 := Lib.hid ge; clear hb g ge))
  all_goals
    go_wp2
    go_ret
    exact ⟨rfl, H1.out⟩
end Go.Proofs.YtjakeidbajkdcaaGreatDoor.S
/- The document's Text of a node with children. -/
namespace Go.Proofs.YtjakeidbajkdcaaGreatDoor.S
open T Go.RowKit Go.Shelf
set_option maxRecDepth 100000 in
set_option maxHeartbeats 16000000 in
theorem rtext_13 (a b c n pos : Int) (nm s : ByteArray) (FA : Option Addr) (FL fc i b0 o N c0 : Nat) (w : World) (hi : i < N) (_hN : N ≤ 600) (hb0 : b0 < w.heap.size) (sa : ByteArray) (hM : w.cell? ⟨b0, o + i * 9, none⟩ = some (.int .i64 13) ∧ w.cell? ⟨b0, o + i * 9 + 1, none⟩ = some (.int .i64 a) ∧ w.cell? ⟨b0, o + i * 9 + 2, none⟩ = some (.int .i64 b) ∧ w.cell? ⟨b0, o + i * 9 + 3, none⟩ = some (.int .i64 c) ∧ w.cell? ⟨b0, o + i * 9 + 4, none⟩ = some (.int .i64 n) ∧ w.cell? ⟨b0, o + i * 9 + 5, none⟩ = some (.string nm) ∧ w.cell? ⟨b0, o + i * 9 + 6, none⟩ = some (.string s) ∧ w.cell? ⟨b0, o + i * 9 + 7, none⟩ = some (.slice FA FL fc) ∧ w.cell? ⟨b0, o + i * 9 + 8, none⟩ = some (.int .i64 pos)) (hnm : nm.size ≤ 20) (ha : sa.size ≤ 1000000000) (HA : Hid (∀ W, Below w.heap.size w W → Calls Tryz.prog 73 #[.agg #[.slice (some ⟨b0, o, none⟩) N c0], .int .i64 a, .int .i64 6] W (SPost sa W))) :
    Calls Tryz.prog 39 #[.agg #[.slice (some ⟨b0, o, none⟩) N c0], .int .i64 (i : Int)] w (SPost ((nm ++ ⟨#[32]⟩) ++ sa) w) := by
  obtain ⟨m0, m1, m2, m3, m4, m5, m6, m7, m8⟩ := hM
  have hX0 := (Below.refl w.heap.size w).alloc (Nat.le_refl _) (.cells #[.slice (some ⟨b0, o, none⟩) N c0] 25)
  have HX := Lib.hid (hX0.alloc hX0.size (.cells #[.int .i64 13, .int .i64 a, .int .i64 b, .int .i64 c, .int .i64 n, .string nm, .string s, .slice FA FL fc, .int .i64 pos] 37))
  have HG : Hid (((w.alloc (.cells #[.slice (some ⟨b0, o, none⟩) N c0] 25)).alloc (.cells #[.int .i64 13, .int .i64 a, .int .i64 b, .int .i64 c, .int .i64 n, .string nm, .string s, .slice FA FL fc, .int .i64 pos] 37)).heap[w.heap.size + 1]? = some (.cells #[.int .i64 13, .int .i64 a, .int .i64 b, .int .i64 c, .int .i64 n, .string nm, .string s, .slice FA FL fc, .int .i64 pos] 37 (0, 0))) := Lib.hid (by have := World.alloc_heap_new (w.alloc (.cells #[.slice (some ⟨b0, o, none⟩) N c0] 25)) (.cells #[.int .i64 13, .int .i64 a, .int .i64 b, .int .i64 c, .int .i64 n, .string nm, .string s, .slice FA FL fc, .int .i64 pos] 37); simpa using this)
  have HE : Hid (((w.alloc (.cells #[.slice (some ⟨b0, o, none⟩) N c0] 25)).alloc (.cells #[.int .i64 13, .int .i64 a, .int .i64 b, .int .i64 c, .int .i64 n, .string nm, .string s, .slice FA FL fc, .int .i64 pos] 37)).heap[w.heap.size]? = some (.cells #[.slice (some ⟨b0, o, none⟩) N c0] 25 (0, 0))) := Lib.hid (nextAt (World.alloc_heap_new w _))
  have lo : ∀ k, (w.alloc (.cells #[.slice (some ⟨b0, o, none⟩) N c0] 25)).cell? ⟨b0, k, none⟩ = w.cell? ⟨b0, k, none⟩ := fun k => hX0.cell (p := ⟨b0, k, none⟩) hb0
  rw [← lo] at m0 m1 m2 m3 m4 m5 m6 m7 m8
  clear hX0 lo
  have z0 : ∀ W : World, (Op.stringOp .add nm ⟨#[32]⟩).run Tryz.prog W = .ok (.string (nm ++ ⟨#[32]⟩)) W := fun W => run_string_add_sum W _ _ (Nat.le_trans (Nat.add_le_add hnm (Nat.le_refl 1)) (by decide))
  have z1 : ∀ W : World, (Op.stringOp .add (nm ++ ⟨#[32]⟩) sa).run Tryz.prog W = .ok (.string ((nm ++ ⟨#[32]⟩) ++ sa)) W := fun W => run_string_add_sum W _ _ (Nat.le_trans (Nat.add_le_add (cat_le hnm (Nat.le_refl 1)) ha) (by decide))
  go_enter Tryz.func39, Tryz.ntmps39
  go_wp2
  have HD := Lib.hid HX.out.drew
  have ye := Blk_cell HE.out 0
  have y1 := Blk_cell HG.out 1
  have y5 := Blk_cell HG.out 5
  go_region_held3 (fun W => W.cell? ⟨w.heap.size, 0, none⟩ = some (.slice (some ⟨b0, o, none⟩) N c0) ∧ W.cell? ⟨w.heap.size + 1, 1, none⟩ = some (.int .i64 a) ∧ W.cell? ⟨w.heap.size + 1, 5, none⟩ = some (.string nm)) (first | exact ⟨ye, y1, y5⟩ | exact ⟨u1e, u11, u15⟩) (first | (go_at_call 73; (with_reducible refine (HA.out _ HD.out).mono ?_); rintro e w1 ⟨rfl, hb⟩; have H1 := Lib.hid (HD.out.trans (hb.mono HD.out.size)); have g := (hb.block (w.heap.size + 1) (Array.getElem?_eq_some_iff.1 HG.out).1).trans HG.out; have ge := (hb.block w.heap.size (Array.getElem?_eq_some_iff.1 HE.out).1).trans HE.out; have u1e := Blk_cell ge 0; have u11 := Blk_cell g 1; have u15 := Blk_cell g 5; have G1 := Lib.hid g; have E1 := Lib.hid ge; clear hb g ge))
  all_goals
    go_wp2
    go_ret
    exact ⟨rfl, H1.out⟩
end Go.Proofs.YtjakeidbajkdcaaGreatDoor.S
/- The document's Text of a node without children. -/
namespace Go.Proofs.YtjakeidbajkdcaaGreatDoor.S
open T Go.RowKit Go.Shelf
set_option maxRecDepth 100000 in
set_option maxHeartbeats 16000000 in
theorem rtext_1 (a b c n pos : Int) (nm s : ByteArray) (FA : Option Addr) (FL fc i b0 o N c0 : Nat) (w : World) (hi : i < N) (_hN : N ≤ 600) (hb0 : b0 < w.heap.size) (hM : w.cell? ⟨b0, o + i * 9, none⟩ = some (.int .i64 1) ∧ w.cell? ⟨b0, o + i * 9 + 1, none⟩ = some (.int .i64 a) ∧ w.cell? ⟨b0, o + i * 9 + 2, none⟩ = some (.int .i64 b) ∧ w.cell? ⟨b0, o + i * 9 + 3, none⟩ = some (.int .i64 c) ∧ w.cell? ⟨b0, o + i * 9 + 4, none⟩ = some (.int .i64 n) ∧ w.cell? ⟨b0, o + i * 9 + 5, none⟩ = some (.string nm) ∧ w.cell? ⟨b0, o + i * 9 + 6, none⟩ = some (.string s) ∧ w.cell? ⟨b0, o + i * 9 + 7, none⟩ = some (.slice FA FL fc) ∧ w.cell? ⟨b0, o + i * 9 + 8, none⟩ = some (.int .i64 pos)) (h0 : -9223372036854775808 ≤ n) (h1 : n ≤ 9223372036854775807) :
    Calls Tryz.prog 39 #[.agg #[.slice (some ⟨b0, o, none⟩) N c0], .int .i64 (i : Int)] w (SPost ⟨(W.wtext n).toArray⟩ w) := by
  obtain ⟨m0, m1, m2, m3, m4, m5, m6, m7, m8⟩ := hM
  have hX0 := (Below.refl w.heap.size w).alloc (Nat.le_refl _) (.cells #[.slice (some ⟨b0, o, none⟩) N c0] 25)
  have HX := Lib.hid (hX0.alloc hX0.size (.cells #[.int .i64 1, .int .i64 a, .int .i64 b, .int .i64 c, .int .i64 n, .string nm, .string s, .slice FA FL fc, .int .i64 pos] 37))
  have HG : Hid (((w.alloc (.cells #[.slice (some ⟨b0, o, none⟩) N c0] 25)).alloc (.cells #[.int .i64 1, .int .i64 a, .int .i64 b, .int .i64 c, .int .i64 n, .string nm, .string s, .slice FA FL fc, .int .i64 pos] 37)).heap[w.heap.size + 1]? = some (.cells #[.int .i64 1, .int .i64 a, .int .i64 b, .int .i64 c, .int .i64 n, .string nm, .string s, .slice FA FL fc, .int .i64 pos] 37 (0, 0))) := Lib.hid (by have := World.alloc_heap_new (w.alloc (.cells #[.slice (some ⟨b0, o, none⟩) N c0] 25)) (.cells #[.int .i64 1, .int .i64 a, .int .i64 b, .int .i64 c, .int .i64 n, .string nm, .string s, .slice FA FL fc, .int .i64 pos] 37); simpa using this)
  have HE : Hid (((w.alloc (.cells #[.slice (some ⟨b0, o, none⟩) N c0] 25)).alloc (.cells #[.int .i64 1, .int .i64 a, .int .i64 b, .int .i64 c, .int .i64 n, .string nm, .string s, .slice FA FL fc, .int .i64 pos] 37)).heap[w.heap.size]? = some (.cells #[.slice (some ⟨b0, o, none⟩) N c0] 25 (0, 0))) := Lib.hid (nextAt (World.alloc_heap_new w _))
  have lo : ∀ k, (w.alloc (.cells #[.slice (some ⟨b0, o, none⟩) N c0] 25)).cell? ⟨b0, k, none⟩ = w.cell? ⟨b0, k, none⟩ := fun k => hX0.cell (p := ⟨b0, k, none⟩) hb0
  rw [← lo] at m0 m1 m2 m3 m4 m5 m6 m7 m8
  clear hX0 lo
  have HP := Lib.hid (W.rprint_any (B := ((w.alloc (.cells #[.slice (some ⟨b0, o, none⟩) N c0] 25)).alloc (.cells #[.int .i64 1, .int .i64 a, .int .i64 b, .int .i64 c, .int .i64 n, .string nm, .string s, .slice FA FL fc, .int .i64 pos] 37)).heap.size) n ⟨h0, h1⟩ ((w.alloc (.cells #[.slice (some ⟨b0, o, none⟩) N c0] 25)).alloc (.cells #[.int .i64 1, .int .i64 a, .int .i64 b, .int .i64 c, .int .i64 n, .string nm, .string s, .slice FA FL fc, .int .i64 pos] 37)) (Nat.le_refl _))
  clear HG HE
  go_enter Tryz.func39, Tryz.ntmps39
  go_wp2_with (go_at_call 71; (with_reducible refine HP.out.mono ?_); rintro e w1 ⟨rfl, hb1⟩; have H1 := Lib.hid (HX.out.trans (hb1.mono HX.out.size)); clear hb1)
  go_ret
  exact ⟨rfl, H1.out⟩
set_option maxRecDepth 100000 in
set_option maxHeartbeats 16000000 in
theorem rtext_2 (a b c n pos : Int) (nm s : ByteArray) (FA : Option Addr) (FL fc i b0 o N c0 : Nat) (w : World) (hi : i < N) (_hN : N ≤ 600) (hb0 : b0 < w.heap.size) (hM : w.cell? ⟨b0, o + i * 9, none⟩ = some (.int .i64 2) ∧ w.cell? ⟨b0, o + i * 9 + 1, none⟩ = some (.int .i64 a) ∧ w.cell? ⟨b0, o + i * 9 + 2, none⟩ = some (.int .i64 b) ∧ w.cell? ⟨b0, o + i * 9 + 3, none⟩ = some (.int .i64 c) ∧ w.cell? ⟨b0, o + i * 9 + 4, none⟩ = some (.int .i64 n) ∧ w.cell? ⟨b0, o + i * 9 + 5, none⟩ = some (.string nm) ∧ w.cell? ⟨b0, o + i * 9 + 6, none⟩ = some (.string s) ∧ w.cell? ⟨b0, o + i * 9 + 7, none⟩ = some (.slice FA FL fc) ∧ w.cell? ⟨b0, o + i * 9 + 8, none⟩ = some (.int .i64 pos)) (hz : n = 0 ∨ n = 1) :
    Calls Tryz.prog 39 #[.agg #[.slice (some ⟨b0, o, none⟩) N c0], .int .i64 (i : Int)] w (SPost (if n = 0 then ⟨#[102, 97, 108, 115, 101]⟩ else ⟨#[116, 114, 117, 101]⟩) w) := by
  obtain ⟨m0, m1, m2, m3, m4, m5, m6, m7, m8⟩ := hM
  have hX0 := (Below.refl w.heap.size w).alloc (Nat.le_refl _) (.cells #[.slice (some ⟨b0, o, none⟩) N c0] 25)
  have HX := Lib.hid (hX0.alloc hX0.size (.cells #[.int .i64 2, .int .i64 a, .int .i64 b, .int .i64 c, .int .i64 n, .string nm, .string s, .slice FA FL fc, .int .i64 pos] 37))
  have HG : Hid (((w.alloc (.cells #[.slice (some ⟨b0, o, none⟩) N c0] 25)).alloc (.cells #[.int .i64 2, .int .i64 a, .int .i64 b, .int .i64 c, .int .i64 n, .string nm, .string s, .slice FA FL fc, .int .i64 pos] 37)).heap[w.heap.size + 1]? = some (.cells #[.int .i64 2, .int .i64 a, .int .i64 b, .int .i64 c, .int .i64 n, .string nm, .string s, .slice FA FL fc, .int .i64 pos] 37 (0, 0))) := Lib.hid (by have := World.alloc_heap_new (w.alloc (.cells #[.slice (some ⟨b0, o, none⟩) N c0] 25)) (.cells #[.int .i64 2, .int .i64 a, .int .i64 b, .int .i64 c, .int .i64 n, .string nm, .string s, .slice FA FL fc, .int .i64 pos] 37); simpa using this)
  have HE : Hid (((w.alloc (.cells #[.slice (some ⟨b0, o, none⟩) N c0] 25)).alloc (.cells #[.int .i64 2, .int .i64 a, .int .i64 b, .int .i64 c, .int .i64 n, .string nm, .string s, .slice FA FL fc, .int .i64 pos] 37)).heap[w.heap.size]? = some (.cells #[.slice (some ⟨b0, o, none⟩) N c0] 25 (0, 0))) := Lib.hid (nextAt (World.alloc_heap_new w _))
  have lo : ∀ k, (w.alloc (.cells #[.slice (some ⟨b0, o, none⟩) N c0] 25)).cell? ⟨b0, k, none⟩ = w.cell? ⟨b0, k, none⟩ := fun k => hX0.cell (p := ⟨b0, k, none⟩) hb0
  rw [← lo] at m0 m1 m2 m3 m4 m5 m6 m7 m8
  clear hX0 lo
  clear HG HE
  rcases hz with rfl | rfl
  · rw [if_pos rfl]
    go_enter Tryz.func39, Tryz.ntmps39
    go_wp2
    go_ret
    exact ⟨rfl, HX.out⟩
  · rw [if_neg (by decide)]
    go_enter Tryz.func39, Tryz.ntmps39
    go_wp2
    go_ret
    exact ⟨rfl, HX.out⟩
set_option maxRecDepth 100000 in
set_option maxHeartbeats 16000000 in
theorem rtext_3 (a b c n pos : Int) (nm s : ByteArray) (FA : Option Addr) (FL fc i b0 o N c0 : Nat) (w : World) (hi : i < N) (_hN : N ≤ 600) (hb0 : b0 < w.heap.size) (hM : w.cell? ⟨b0, o + i * 9, none⟩ = some (.int .i64 3) ∧ w.cell? ⟨b0, o + i * 9 + 1, none⟩ = some (.int .i64 a) ∧ w.cell? ⟨b0, o + i * 9 + 2, none⟩ = some (.int .i64 b) ∧ w.cell? ⟨b0, o + i * 9 + 3, none⟩ = some (.int .i64 c) ∧ w.cell? ⟨b0, o + i * 9 + 4, none⟩ = some (.int .i64 n) ∧ w.cell? ⟨b0, o + i * 9 + 5, none⟩ = some (.string nm) ∧ w.cell? ⟨b0, o + i * 9 + 6, none⟩ = some (.string s) ∧ w.cell? ⟨b0, o + i * 9 + 7, none⟩ = some (.slice FA FL fc) ∧ w.cell? ⟨b0, o + i * 9 + 8, none⟩ = some (.int .i64 pos)) (hs : s.size ≤ 200) :
    Calls Tryz.prog 39 #[.agg #[.slice (some ⟨b0, o, none⟩) N c0], .int .i64 (i : Int)] w (SPost ⟨(Q.qtext s.data.toList).toArray⟩ w) := by
  obtain ⟨m0, m1, m2, m3, m4, m5, m6, m7, m8⟩ := hM
  have hX0 := (Below.refl w.heap.size w).alloc (Nat.le_refl _) (.cells #[.slice (some ⟨b0, o, none⟩) N c0] 25)
  have HX := Lib.hid (hX0.alloc hX0.size (.cells #[.int .i64 3, .int .i64 a, .int .i64 b, .int .i64 c, .int .i64 n, .string nm, .string s, .slice FA FL fc, .int .i64 pos] 37))
  have HG : Hid (((w.alloc (.cells #[.slice (some ⟨b0, o, none⟩) N c0] 25)).alloc (.cells #[.int .i64 3, .int .i64 a, .int .i64 b, .int .i64 c, .int .i64 n, .string nm, .string s, .slice FA FL fc, .int .i64 pos] 37)).heap[w.heap.size + 1]? = some (.cells #[.int .i64 3, .int .i64 a, .int .i64 b, .int .i64 c, .int .i64 n, .string nm, .string s, .slice FA FL fc, .int .i64 pos] 37 (0, 0))) := Lib.hid (by have := World.alloc_heap_new (w.alloc (.cells #[.slice (some ⟨b0, o, none⟩) N c0] 25)) (.cells #[.int .i64 3, .int .i64 a, .int .i64 b, .int .i64 c, .int .i64 n, .string nm, .string s, .slice FA FL fc, .int .i64 pos] 37); simpa using this)
  have HE : Hid (((w.alloc (.cells #[.slice (some ⟨b0, o, none⟩) N c0] 25)).alloc (.cells #[.int .i64 3, .int .i64 a, .int .i64 b, .int .i64 c, .int .i64 n, .string nm, .string s, .slice FA FL fc, .int .i64 pos] 37)).heap[w.heap.size]? = some (.cells #[.slice (some ⟨b0, o, none⟩) N c0] 25 (0, 0))) := Lib.hid (nextAt (World.alloc_heap_new w _))
  have lo : ∀ k, (w.alloc (.cells #[.slice (some ⟨b0, o, none⟩) N c0] 25)).cell? ⟨b0, k, none⟩ = w.cell? ⟨b0, k, none⟩ := fun k => hX0.cell (p := ⟨b0, k, none⟩) hb0
  rw [← lo] at m0 m1 m2 m3 m4 m5 m6 m7 m8
  clear hX0 lo
  have HP := Lib.hid (Q.rprint_any (B := ((w.alloc (.cells #[.slice (some ⟨b0, o, none⟩) N c0] 25)).alloc (.cells #[.int .i64 3, .int .i64 a, .int .i64 b, .int .i64 c, .int .i64 n, .string nm, .string s, .slice FA FL fc, .int .i64 pos] 37)).heap.size) s (by omega) ((w.alloc (.cells #[.slice (some ⟨b0, o, none⟩) N c0] 25)).alloc (.cells #[.int .i64 3, .int .i64 a, .int .i64 b, .int .i64 c, .int .i64 n, .string nm, .string s, .slice FA FL fc, .int .i64 pos] 37)) (Nat.le_refl _))
  clear HG HE
  go_enter Tryz.func39, Tryz.ntmps39
  go_wp2_with (go_at_call 72; (with_reducible refine HP.out.mono ?_); rintro e w1 ⟨rfl, hb1⟩; have H1 := Lib.hid (HX.out.trans (hb1.mono HX.out.size)); clear hb1)
  go_ret
  exact ⟨rfl, H1.out⟩
set_option maxRecDepth 100000 in
set_option maxHeartbeats 16000000 in
theorem rtext_4 (a b c n pos : Int) (nm s : ByteArray) (FA : Option Addr) (FL fc i b0 o N c0 : Nat) (w : World) (hi : i < N) (_hN : N ≤ 600) (hb0 : b0 < w.heap.size) (hM : w.cell? ⟨b0, o + i * 9, none⟩ = some (.int .i64 4) ∧ w.cell? ⟨b0, o + i * 9 + 1, none⟩ = some (.int .i64 a) ∧ w.cell? ⟨b0, o + i * 9 + 2, none⟩ = some (.int .i64 b) ∧ w.cell? ⟨b0, o + i * 9 + 3, none⟩ = some (.int .i64 c) ∧ w.cell? ⟨b0, o + i * 9 + 4, none⟩ = some (.int .i64 n) ∧ w.cell? ⟨b0, o + i * 9 + 5, none⟩ = some (.string nm) ∧ w.cell? ⟨b0, o + i * 9 + 6, none⟩ = some (.string s) ∧ w.cell? ⟨b0, o + i * 9 + 7, none⟩ = some (.slice FA FL fc) ∧ w.cell? ⟨b0, o + i * 9 + 8, none⟩ = some (.int .i64 pos)) :
    Calls Tryz.prog 39 #[.agg #[.slice (some ⟨b0, o, none⟩) N c0], .int .i64 (i : Int)] w (SPost nm w) := by
  obtain ⟨m0, m1, m2, m3, m4, m5, m6, m7, m8⟩ := hM
  have hX0 := (Below.refl w.heap.size w).alloc (Nat.le_refl _) (.cells #[.slice (some ⟨b0, o, none⟩) N c0] 25)
  have HX := Lib.hid (hX0.alloc hX0.size (.cells #[.int .i64 4, .int .i64 a, .int .i64 b, .int .i64 c, .int .i64 n, .string nm, .string s, .slice FA FL fc, .int .i64 pos] 37))
  have HG : Hid (((w.alloc (.cells #[.slice (some ⟨b0, o, none⟩) N c0] 25)).alloc (.cells #[.int .i64 4, .int .i64 a, .int .i64 b, .int .i64 c, .int .i64 n, .string nm, .string s, .slice FA FL fc, .int .i64 pos] 37)).heap[w.heap.size + 1]? = some (.cells #[.int .i64 4, .int .i64 a, .int .i64 b, .int .i64 c, .int .i64 n, .string nm, .string s, .slice FA FL fc, .int .i64 pos] 37 (0, 0))) := Lib.hid (by have := World.alloc_heap_new (w.alloc (.cells #[.slice (some ⟨b0, o, none⟩) N c0] 25)) (.cells #[.int .i64 4, .int .i64 a, .int .i64 b, .int .i64 c, .int .i64 n, .string nm, .string s, .slice FA FL fc, .int .i64 pos] 37); simpa using this)
  have HE : Hid (((w.alloc (.cells #[.slice (some ⟨b0, o, none⟩) N c0] 25)).alloc (.cells #[.int .i64 4, .int .i64 a, .int .i64 b, .int .i64 c, .int .i64 n, .string nm, .string s, .slice FA FL fc, .int .i64 pos] 37)).heap[w.heap.size]? = some (.cells #[.slice (some ⟨b0, o, none⟩) N c0] 25 (0, 0))) := Lib.hid (nextAt (World.alloc_heap_new w _))
  have lo : ∀ k, (w.alloc (.cells #[.slice (some ⟨b0, o, none⟩) N c0] 25)).cell? ⟨b0, k, none⟩ = w.cell? ⟨b0, k, none⟩ := fun k => hX0.cell (p := ⟨b0, k, none⟩) hb0
  rw [← lo] at m0 m1 m2 m3 m4 m5 m6 m7 m8
  clear hX0 lo
  clear HG HE
  go_enter Tryz.func39, Tryz.ntmps39
  go_wp2
  go_ret
  exact ⟨rfl, HX.out⟩
end Go.Proofs.YtjakeidbajkdcaaGreatDoor.S
/- The document's Text of an operation. -/
namespace Go.Proofs.YtjakeidbajkdcaaGreatDoor.S
open T Go.RowKit Go.Shelf
set_option maxRecDepth 100000 in
set_option maxHeartbeats 16000000 in
theorem rtext_10 (a b c n pos : Int) (nm s : ByteArray) (FA : Option Addr) (FL fc i b0 o N c0 : Nat) (w : World) (hi : i < N) (_hN : N ≤ 600) (hb0 : b0 < w.heap.size) (sa sb sg : ByteArray) (t f : Int) (hM : w.cell? ⟨b0, o + i * 9, none⟩ = some (.int .i64 10) ∧ w.cell? ⟨b0, o + i * 9 + 1, none⟩ = some (.int .i64 a) ∧ w.cell? ⟨b0, o + i * 9 + 2, none⟩ = some (.int .i64 b) ∧ w.cell? ⟨b0, o + i * 9 + 3, none⟩ = some (.int .i64 c) ∧ w.cell? ⟨b0, o + i * 9 + 4, none⟩ = some (.int .i64 n) ∧ w.cell? ⟨b0, o + i * 9 + 5, none⟩ = some (.string nm) ∧ w.cell? ⟨b0, o + i * 9 + 6, none⟩ = some (.string s) ∧ w.cell? ⟨b0, o + i * 9 + 7, none⟩ = some (.slice FA FL fc) ∧ w.cell? ⟨b0, o + i * 9 + 8, none⟩ = some (.int .i64 pos)) (ht : tight 10 n = t) (hf : (t = 1 ∧ f = 2) ∨ (t ≠ 1 ∧ f = t)) (htz : 0 ≤ t ∧ t ≤ 7) (hg : sgn n = sg) (hgz : sg.size ≤ 2) (ha : sa.size ≤ 1000000000) (hb : sb.size ≤ 1000000000) (HA : Hid (∀ W, Below w.heap.size w W → Calls Tryz.prog 73 #[.agg #[.slice (some ⟨b0, o, none⟩) N c0], .int .i64 a, .int .i64 f] W (SPost sa W))) (HBB : Hid (∀ W, Below w.heap.size w W → Calls Tryz.prog 73 #[.agg #[.slice (some ⟨b0, o, none⟩) N c0], .int .i64 b, .int .i64 (t + 1)] W (SPost sb W))) :
    Calls Tryz.prog 39 #[.agg #[.slice (some ⟨b0, o, none⟩) N c0], .int .i64 (i : Int)] w (SPost ((((sa ++ ⟨#[32]⟩) ++ sg) ++ ⟨#[32]⟩) ++ sb) w) := by
  obtain ⟨m0, m1, m2, m3, m4, m5, m6, m7, m8⟩ := hM
  have hX0 := (Below.refl w.heap.size w).alloc (Nat.le_refl _) (.cells #[.slice (some ⟨b0, o, none⟩) N c0] 25)
  have HX := Lib.hid (hX0.alloc hX0.size (.cells #[.int .i64 10, .int .i64 a, .int .i64 b, .int .i64 c, .int .i64 n, .string nm, .string s, .slice FA FL fc, .int .i64 pos] 37))
  have HG : Hid (((w.alloc (.cells #[.slice (some ⟨b0, o, none⟩) N c0] 25)).alloc (.cells #[.int .i64 10, .int .i64 a, .int .i64 b, .int .i64 c, .int .i64 n, .string nm, .string s, .slice FA FL fc, .int .i64 pos] 37)).heap[w.heap.size + 1]? = some (.cells #[.int .i64 10, .int .i64 a, .int .i64 b, .int .i64 c, .int .i64 n, .string nm, .string s, .slice FA FL fc, .int .i64 pos] 37 (0, 0))) := Lib.hid (by have := World.alloc_heap_new (w.alloc (.cells #[.slice (some ⟨b0, o, none⟩) N c0] 25)) (.cells #[.int .i64 10, .int .i64 a, .int .i64 b, .int .i64 c, .int .i64 n, .string nm, .string s, .slice FA FL fc, .int .i64 pos] 37); simpa using this)
  have HE : Hid (((w.alloc (.cells #[.slice (some ⟨b0, o, none⟩) N c0] 25)).alloc (.cells #[.int .i64 10, .int .i64 a, .int .i64 b, .int .i64 c, .int .i64 n, .string nm, .string s, .slice FA FL fc, .int .i64 pos] 37)).heap[w.heap.size]? = some (.cells #[.slice (some ⟨b0, o, none⟩) N c0] 25 (0, 0))) := Lib.hid (nextAt (World.alloc_heap_new w _))
  have lo : ∀ k, (w.alloc (.cells #[.slice (some ⟨b0, o, none⟩) N c0] 25)).cell? ⟨b0, k, none⟩ = w.cell? ⟨b0, k, none⟩ := fun k => hX0.cell (p := ⟨b0, k, none⟩) hb0
  rw [← lo] at m0 m1 m2 m3 m4 m5 m6 m7 m8
  clear hX0 lo
  have HT := Lib.hid (rtight_is 10 a b c n pos nm s (.slice FA FL fc) t ht ((w.alloc (.cells #[.slice (some ⟨b0, o, none⟩) N c0] 25)).alloc (.cells #[.int .i64 10, .int .i64 a, .int .i64 b, .int .i64 c, .int .i64 n, .string nm, .string s, .slice FA FL fc, .int .i64 pos] 37)))
  have HS := Lib.hid (fun W => rsign_is n sg hg W)
  have z0 : ∀ W : World, (Op.stringOp .add sa ⟨#[32]⟩).run Tryz.prog W = .ok (.string (sa ++ ⟨#[32]⟩)) W := fun W => run_string_add_sum W _ _ (Nat.le_trans (Nat.add_le_add ha (Nat.le_refl 1)) (by decide))
  have z1 : ∀ W : World, (Op.stringOp .add (sa ++ ⟨#[32]⟩) sg).run Tryz.prog W = .ok (.string ((sa ++ ⟨#[32]⟩) ++ sg)) W := fun W => run_string_add_sum W _ _ (Nat.le_trans (Nat.add_le_add (cat_le ha (Nat.le_refl 1)) hgz) (by decide))
  have z2 : ∀ W : World, (Op.stringOp .add ((sa ++ ⟨#[32]⟩) ++ sg) ⟨#[32]⟩).run Tryz.prog W = .ok (.string (((sa ++ ⟨#[32]⟩) ++ sg) ++ ⟨#[32]⟩)) W := fun W => run_string_add_sum W _ _ (Nat.le_trans (Nat.add_le_add (cat_le (cat_le ha (Nat.le_refl 1)) hgz) (Nat.le_refl 1)) (by decide))
  have z3 : ∀ W : World, (Op.stringOp .add (((sa ++ ⟨#[32]⟩) ++ sg) ++ ⟨#[32]⟩) sb).run Tryz.prog W = .ok (.string ((((sa ++ ⟨#[32]⟩) ++ sg) ++ ⟨#[32]⟩) ++ sb)) W := fun W => run_string_add_sum W _ _ (Nat.le_trans (Nat.add_le_add (cat_le (cat_le (cat_le ha (Nat.le_refl 1)) hgz) (Nat.le_refl 1)) hb) (by decide))
  clear hgz ha hb ht hg
  rcases hf with ⟨rfl, rfl⟩ | ⟨hne, rfl⟩
  · rw [show (1 : Int) + 1 = 2 from rfl] at HBB
    go_enter Tryz.func39, Tryz.ntmps39
    go_upto_region 29 with (go_at_call 18; (with_reducible refine HT.out.mono ?_); rintro e w0 ⟨rfl, hb⟩; have H0 := Lib.hid (HX.out.trans (hb.mono HX.out.size)); have G0 := Lib.hid ((hb.block (w.heap.size + 1) (Array.getElem?_eq_some_iff.1 HG.out).1).trans HG.out); have E0 := Lib.hid ((hb.block w.heap.size (Array.getElem?_eq_some_iff.1 HE.out).1).trans HE.out); clear hb)
    have HD := Lib.hid H0.out.drew
    have ye := Blk_cell E0.out 0
    have y1 := Blk_cell G0.out 1
    have y2 := Blk_cell G0.out 2
    have y4 := Blk_cell G0.out 4
    go_region_held3 (fun W => W.cell? ⟨w.heap.size, 0, none⟩ = some (.slice (some ⟨b0, o, none⟩) N c0) ∧ W.cell? ⟨w.heap.size + 1, 1, none⟩ = some (.int .i64 a) ∧ W.cell? ⟨w.heap.size + 1, 2, none⟩ = some (.int .i64 b) ∧ W.cell? ⟨w.heap.size + 1, 4, none⟩ = some (.int .i64 n)) (first | exact ⟨ye, y1, y2, y4⟩ | exact ⟨u1e, u11, u12, u14⟩ | exact ⟨u2e, u21, u22, u24⟩ | exact ⟨u3e, u31, u32, u34⟩) (first | (go_at_call 73; (with_reducible refine (HBB.out _ H2.out).mono ?_); rintro e w3 ⟨rfl, hb⟩; have H3 := Lib.hid (H2.out.trans (hb.mono H2.out.size)); have g := (hb.block (w.heap.size + 1) (Array.getElem?_eq_some_iff.1 G2.out).1).trans G2.out; have ge := (hb.block w.heap.size (Array.getElem?_eq_some_iff.1 E2.out).1).trans E2.out; have u3e := Blk_cell ge 0; have u31 := Blk_cell g 1; have u32 := Blk_cell g 2; have u34 := Blk_cell g 4; have G3 := Lib.hid g; have E3 := Lib.hid ge; clear hb g ge) | (go_at_call 20; (with_reducible refine (HS.out _).mono ?_); rintro e w2 ⟨rfl, hb⟩; have H2 := Lib.hid (H1.out.trans (hb.mono H1.out.size)); have g := (hb.block (w.heap.size + 1) (Array.getElem?_eq_some_iff.1 G1.out).1).trans G1.out; have ge := (hb.block w.heap.size (Array.getElem?_eq_some_iff.1 E1.out).1).trans E1.out; have u2e := Blk_cell ge 0; have u21 := Blk_cell g 1; have u22 := Blk_cell g 2; have u24 := Blk_cell g 4; have G2 := Lib.hid g; have E2 := Lib.hid ge; clear hb g ge) | (go_at_call 73; (with_reducible refine (HA.out _ HD.out).mono ?_); rintro e w1 ⟨rfl, hb⟩; have H1 := Lib.hid (HD.out.trans (hb.mono HD.out.size)); have g := (hb.block (w.heap.size + 1) (Array.getElem?_eq_some_iff.1 G0.out).1).trans G0.out; have ge := (hb.block w.heap.size (Array.getElem?_eq_some_iff.1 E0.out).1).trans E0.out; have u1e := Blk_cell ge 0; have u11 := Blk_cell g 1; have u12 := Blk_cell g 2; have u14 := Blk_cell g 4; have G1 := Lib.hid g; have E1 := Lib.hid ge; clear hb g ge))
    all_goals
      go_wp2
      go_ret
      exact ⟨rfl, H3.out⟩
  · have e1 := eqf hne
    go_enter Tryz.func39, Tryz.ntmps39
    go_upto_region 29 with (go_at_call 18; (with_reducible refine HT.out.mono ?_); rintro e w0 ⟨rfl, hb⟩; have H0 := Lib.hid (HX.out.trans (hb.mono HX.out.size)); have G0 := Lib.hid ((hb.block (w.heap.size + 1) (Array.getElem?_eq_some_iff.1 HG.out).1).trans HG.out); have E0 := Lib.hid ((hb.block w.heap.size (Array.getElem?_eq_some_iff.1 HE.out).1).trans HE.out); clear hb)
    have HD := Lib.hid H0.out.drew
    have ye := Blk_cell E0.out 0
    have y1 := Blk_cell G0.out 1
    have y2 := Blk_cell G0.out 2
    have y4 := Blk_cell G0.out 4
    go_region_held3 (fun W => W.cell? ⟨w.heap.size, 0, none⟩ = some (.slice (some ⟨b0, o, none⟩) N c0) ∧ W.cell? ⟨w.heap.size + 1, 1, none⟩ = some (.int .i64 a) ∧ W.cell? ⟨w.heap.size + 1, 2, none⟩ = some (.int .i64 b) ∧ W.cell? ⟨w.heap.size + 1, 4, none⟩ = some (.int .i64 n)) (first | exact ⟨ye, y1, y2, y4⟩ | exact ⟨u1e, u11, u12, u14⟩ | exact ⟨u2e, u21, u22, u24⟩ | exact ⟨u3e, u31, u32, u34⟩) (first | (go_at_call 73; (with_reducible refine (HBB.out _ H2.out).mono ?_); rintro e w3 ⟨rfl, hb⟩; have H3 := Lib.hid (H2.out.trans (hb.mono H2.out.size)); have g := (hb.block (w.heap.size + 1) (Array.getElem?_eq_some_iff.1 G2.out).1).trans G2.out; have ge := (hb.block w.heap.size (Array.getElem?_eq_some_iff.1 E2.out).1).trans E2.out; have u3e := Blk_cell ge 0; have u31 := Blk_cell g 1; have u32 := Blk_cell g 2; have u34 := Blk_cell g 4; have G3 := Lib.hid g; have E3 := Lib.hid ge; clear hb g ge) | (go_at_call 20; (with_reducible refine (HS.out _).mono ?_); rintro e w2 ⟨rfl, hb⟩; have H2 := Lib.hid (H1.out.trans (hb.mono H1.out.size)); have g := (hb.block (w.heap.size + 1) (Array.getElem?_eq_some_iff.1 G1.out).1).trans G1.out; have ge := (hb.block w.heap.size (Array.getElem?_eq_some_iff.1 E1.out).1).trans E1.out; have u2e := Blk_cell ge 0; have u21 := Blk_cell g 1; have u22 := Blk_cell g 2; have u24 := Blk_cell g 4; have G2 := Lib.hid g; have E2 := Lib.hid ge; clear hb g ge) | (go_at_call 73; (with_reducible refine (HA.out _ HD.out).mono ?_); rintro e w1 ⟨rfl, hb⟩; have H1 := Lib.hid (HD.out.trans (hb.mono HD.out.size)); have g := (hb.block (w.heap.size + 1) (Array.getElem?_eq_some_iff.1 G0.out).1).trans G0.out; have ge := (hb.block w.heap.size (Array.getElem?_eq_some_iff.1 E0.out).1).trans E0.out; have u1e := Blk_cell ge 0; have u11 := Blk_cell g 1; have u12 := Blk_cell g 2; have u14 := Blk_cell g 4; have G1 := Lib.hid g; have E1 := Lib.hid ge; clear hb g ge))
    all_goals
      go_wp2
      go_ret
      exact ⟨rfl, H3.out⟩
end Go.Proofs.YtjakeidbajkdcaaGreatDoor.S
/- The document's Text of a record. -/
namespace Go.Proofs.YtjakeidbajkdcaaGreatDoor.S
open T Go.RowKit Go.Shelf
set_option maxRecDepth 100000 in
set_option maxHeartbeats 16000000 in
theorem rtext_11 (a b c n pos : Int) (nm s : ByteArray) (FA : Option Addr) (FL fc i b0 o N c0 : Nat) (w : World) (hi : i < N) (_hN : N ≤ 600) (hb0 : b0 < w.heap.size) (ch : Int → Int → ByteArray) (hM : w.cell? ⟨b0, o + i * 9, none⟩ = some (.int .i64 11) ∧ w.cell? ⟨b0, o + i * 9 + 1, none⟩ = some (.int .i64 a) ∧ w.cell? ⟨b0, o + i * 9 + 2, none⟩ = some (.int .i64 b) ∧ w.cell? ⟨b0, o + i * 9 + 3, none⟩ = some (.int .i64 c) ∧ w.cell? ⟨b0, o + i * 9 + 4, none⟩ = some (.int .i64 n) ∧ w.cell? ⟨b0, o + i * 9 + 5, none⟩ = some (.string nm) ∧ w.cell? ⟨b0, o + i * 9 + 6, none⟩ = some (.string s) ∧ w.cell? ⟨b0, o + i * 9 + 7, none⟩ = some (.slice FA FL fc) ∧ w.cell? ⟨b0, o + i * 9 + 8, none⟩ = some (.int .i64 pos)) (fs : List Fld) (hF : Flds w.heap.size w (.slice FA FL fc) fs) (hfl : fs.length = FL) (h30 : FL ≤ 30) (hsz : ∀ f ∈ fs, f.nm.size ≤ 20 ∧ f.vr.size ≤ 20 ∧ (ch f.pl 0).size ≤ 1000000000) (HC : Hid (∀ f ∈ fs, ∀ W, Below w.heap.size w W → Calls Tryz.prog 73 #[.agg #[.slice (some ⟨b0, o, none⟩) N c0], .int .i64 f.pl, .int .i64 0] W (SPost (ch f.pl 0) W))) :
    Calls Tryz.prog 39 #[.agg #[.slice (some ⟨b0, o, none⟩) N c0], .int .i64 (i : Int)] w (SPost ((⟨#[123]⟩ ++ joinB [44, 32] (fs.map (partT ch))) ++ ⟨#[125]⟩) w) := by
  obtain ⟨m0, m1, m2, m3, m4, m5, m6, m7, m8⟩ := hM
  have hX0 := (Below.refl w.heap.size w).alloc (Nat.le_refl _) (.cells #[.slice (some ⟨b0, o, none⟩) N c0] 25)
  have HX := Lib.hid (hX0.alloc hX0.size (.cells #[.int .i64 11, .int .i64 a, .int .i64 b, .int .i64 c, .int .i64 n, .string nm, .string s, .slice FA FL fc, .int .i64 pos] 37))
  have HG : Hid (((w.alloc (.cells #[.slice (some ⟨b0, o, none⟩) N c0] 25)).alloc (.cells #[.int .i64 11, .int .i64 a, .int .i64 b, .int .i64 c, .int .i64 n, .string nm, .string s, .slice FA FL fc, .int .i64 pos] 37)).heap[w.heap.size + 1]? = some (.cells #[.int .i64 11, .int .i64 a, .int .i64 b, .int .i64 c, .int .i64 n, .string nm, .string s, .slice FA FL fc, .int .i64 pos] 37 (0, 0))) := Lib.hid (by have := World.alloc_heap_new (w.alloc (.cells #[.slice (some ⟨b0, o, none⟩) N c0] 25)) (.cells #[.int .i64 11, .int .i64 a, .int .i64 b, .int .i64 c, .int .i64 n, .string nm, .string s, .slice FA FL fc, .int .i64 pos] 37); simpa using this)
  have HE : Hid (((w.alloc (.cells #[.slice (some ⟨b0, o, none⟩) N c0] 25)).alloc (.cells #[.int .i64 11, .int .i64 a, .int .i64 b, .int .i64 c, .int .i64 n, .string nm, .string s, .slice FA FL fc, .int .i64 pos] 37)).heap[w.heap.size]? = some (.cells #[.slice (some ⟨b0, o, none⟩) N c0] 25 (0, 0))) := Lib.hid (nextAt (World.alloc_heap_new w _))
  have lo : ∀ k, (w.alloc (.cells #[.slice (some ⟨b0, o, none⟩) N c0] 25)).cell? ⟨b0, k, none⟩ = w.cell? ⟨b0, k, none⟩ := fun k => hX0.cell (p := ⟨b0, k, none⟩) hb0
  rw [← lo] at m0 m1 m2 m3 m4 m5 m6 m7 m8
  clear hX0 lo
  have HFF : Hid (0 < FL → ∃ g o, FA = some ⟨g, o, none⟩ ∧ g < w.heap.size ∧ FldsAt w g o fs) := Lib.hid (by
    obtain ⟨A, c, e, _, _, h3⟩ := hF
    simp only [Value.slice.injEq] at e
    obtain ⟨rfl, e2, _⟩ := e
    rw [hfl] at h3; exact h3)
  have HN := Lib.hid hfl
  have HZ := Lib.hid hsz
  clear hF hfl hsz
  obtain ⟨s0, hs0⟩ : ∃ s0 : ByteArray, ⟨#[123]⟩ = s0 := ⟨_, rfl⟩
  have hs0z : s0.size ≤ 2000000000 := by rw [← hs0]; show 1 ≤ _; omega
  obtain ⟨acc, hacc⟩ : ∃ acc : Nat → ByteArray, ∀ q, acc q = s0 ++ joinB [44, 32] ((fs.take q).map (partT ch)) := ⟨fun q => s0 ++ joinB [44, 32] ((fs.take q).map (partT ch)), fun _ => rfl⟩
  have hans : ⟨#[123]⟩ ++ joinB [44, 32] (fs.map (partT ch)) = acc FL := by rw [hacc, List.take_of_length_le (by rw [HN.out]; exact Nat.le_refl _), hs0]
  rw [hans]
  have HACC := Lib.hid hacc
  have hacc0 : s0 = acc 0 := by rw [hacc, List.take_zero, List.map_nil, acc_nil]
  have HAC0 := Lib.hid hacc0
  clear hacc hans hacc0
  go_enter Tryz.func39, Tryz.ntmps39
  go_wp2
  rw [hs0]
  go_loopw [9, 10] (fun v i wr => ∃ q : Nat, v = .string (acc q) ∧ i = .int .i64 (q : Int) ∧ q ≤ FL ∧ Hid ((acc q).size ≤ 2000000000 + q * 2000000000) ∧ Hid (Below w.heap.size w wr) ∧ Hid (wr.heap[w.heap.size + 1]? = some (.cells #[.int .i64 11, .int .i64 a, .int .i64 b, .int .i64 c, .int .i64 n, .string nm, .string s, .slice FA FL fc, .int .i64 pos] 37 (0, 0))) ∧ Hid (wr.heap[w.heap.size]? = some (.cells #[.slice (some ⟨b0, o, none⟩) N c0] 25 (0, 0)))) (fun _ i _ => FL - (intOf i).toNat)
  case atStart => exact ⟨0, by rw [HAC0.out], rfl, Nat.zero_le _, Lib.hid (by rw [← HAC0.out]; omega), HX, HG, HE⟩
  case round =>
    obtain ⟨q, rfl, rfl, hq, HQ, HB, HG1, HE1⟩ := hrel
    clear HX HG HE
    have hwz := HB.out.size
    have c7 := Blk_cell HG1.out 7
    by_cases hlt : q < FL
    · obtain ⟨fb, fo, rfl, hfb, hf0⟩ := HFF.out (by omega)
      obtain ⟨fd, hfd⟩ : ∃ fd, fs[q]? = some fd := ⟨_, List.getElem?_eq_getElem (by rw [HN.out]; exact hlt)⟩
      obtain ⟨m0, m1, m2⟩ := hf0 q fd hfd
      have HFB := Lib.hid hfb
      have M0 := Lib.hid m0
      have M1 := Lib.hid m1
      have M2 := Lib.hid m2
      obtain ⟨hs1, hs2, hs3⟩ := HZ.out fd (List.mem_of_getElem? hfd)
      have HCF := Lib.hid (HC.out fd (List.mem_of_getElem? hfd))
      have HTK : Hid ((fs.take (q + 1)).map (partT ch) = (fs.take q).map (partT ch) ++ [partT ch fd]) := Lib.hid (by rw [List.take_add_one, hfd, List.map_append]; rfl)
      obtain ⟨tc, htc⟩ : ∃ tc, ch fd.pl 0 = tc := ⟨_, rfl⟩
      have HTT : Hid (partT ch fd = ((fd.nm ++ ⟨#[32, 61, 32]⟩) ++ tc)) := Lib.hid (by unfold partT; rw [htc])
      have HQZ : (acc q).size ≤ 62000000000 := by have := HQ.out; omega
      have HFL : Hid (fs.length = FL) := HN
      rw [htc] at hs3 HCF
      clear htc hf0 hfd hfb m0 m1 m2
      by_cases hq0 : q = 0
      · subst hq0
        have z0 : ∀ W : World, (Op.stringOp .add fd.nm ⟨#[32, 61, 32]⟩).run Tryz.prog W = .ok (.string (fd.nm ++ ⟨#[32, 61, 32]⟩)) W := fun W => run_string_add_sum W _ _ (Nat.le_trans (Nat.add_le_add hs1 (Nat.le_refl 3)) (by decide))
        have z1 : ∀ W : World, (Op.stringOp .add (fd.nm ++ ⟨#[32, 61, 32]⟩) tc).run Tryz.prog W = .ok (.string ((fd.nm ++ ⟨#[32, 61, 32]⟩) ++ tc)) W := fun W => run_string_add_sum W _ _ (Nat.le_trans (Nat.add_le_add (cat_le hs1 (Nat.le_refl 3)) hs3) (by decide))
        have z2 : ∀ W : World, (Op.stringOp .add (acc 0) ((fd.nm ++ ⟨#[32, 61, 32]⟩) ++ tc)).run Tryz.prog W = .ok (.string ((acc 0) ++ ((fd.nm ++ ⟨#[32, 61, 32]⟩) ++ tc))) W := fun W => run_string_add_sum W _ _ (Nat.le_trans (Nat.add_le_add HQZ (cat_le (cat_le hs1 (Nat.le_refl 3)) hs3)) (by decide))
        have HNX : Hid (acc (0 + 1) = ((acc 0) ++ ((fd.nm ++ ⟨#[32, 61, 32]⟩) ++ tc))) := Lib.hid (by
          rw [HACC.out, HACC.out, HTK.out, acc_one _ _ _ _ (by rw [List.take_zero, List.map_nil]), HTT.out])
        have HNZ : Hid (((acc 0) ++ ((fd.nm ++ ⟨#[32, 61, 32]⟩) ++ tc)).size ≤ 2000000000 + (0 + 1) * 2000000000) := Lib.hid (by
          have h1 := HQ.out
          simp only [size_app, size_lit, List.size_toArray, List.length_cons, List.length_nil]
          omega)
        clear hs1 hs2 hs3 HQZ
        go_wp2
        have HD := Lib.hid HB.out.drew
        have M0 : Hid (w.cell? ⟨fb, fo, none⟩ = some (.string fd.nm)) := Lib.hid (by have := M0.out; rw [Nat.zero_mul, Nat.add_zero] at this; exact this)
        have M2 : Hid (w.cell? ⟨fb, fo + 2, none⟩ = some (.int .i64 fd.pl)) := Lib.hid (by have := M2.out; rw [Nat.zero_mul, Nat.add_zero] at this; exact this)
        have ye := Blk_cell HE1.out 0
        have yl := Blk_cell HG1.out 7
        have y0 := (HD.out.cell (p := ⟨fb, fo, none⟩) HFB.out).trans M0.out
        have y2 := (HD.out.cell (p := ⟨fb, fo + 2, none⟩) HFB.out).trans M2.out
        go_region_held3 (fun W => W.cell? ⟨w.heap.size, 0, none⟩ = some (.slice (some ⟨b0, o, none⟩) N c0) ∧ W.cell? ⟨w.heap.size + 1, 7, none⟩ = some (.slice (some ⟨fb, fo, none⟩) FL fc) ∧ W.cell? ⟨fb, fo, none⟩ = some (.string fd.nm) ∧ W.cell? ⟨fb, fo + 2, none⟩ = some (.int .i64 fd.pl)) (first | exact ⟨ye, yl, y0, y2⟩ | exact ⟨ue, ul, u0, u2⟩) (first | (go_at_call 73; (with_reducible refine (HCF.out _ HD.out).mono ?_); rintro e w3 ⟨rfl, hb⟩; have H3 := Lib.hid (HD.out.trans (hb.mono HD.out.size)); have g := (hb.block (w.heap.size + 1) (Array.getElem?_eq_some_iff.1 HG1.out).1).trans HG1.out; have ge := (hb.block w.heap.size (Array.getElem?_eq_some_iff.1 HE1.out).1).trans HE1.out; have ue := Blk_cell ge 0; have ul := Blk_cell g 7; have u0 := (H3.out.cell (p := ⟨fb, fo, none⟩) HFB.out).trans M0.out; have u2 := (H3.out.cell (p := ⟨fb, fo + 2, none⟩) HFB.out).trans M2.out; have G3 := Lib.hid g; have E3 := Lib.hid ge; clear hb g ge))
        all_goals
          go_wp2
          go_roundw
          case rel => exact ⟨0 + 1, by rw [HNX.out], by go_num, by omega, Lib.hid (by rw [HNX.out]; exact HNZ.out), H3, G3, E3⟩
          case measure => simp [intOf]; omega
      · have hq1 : 0 < q := by omega
        have z7 : ∀ W : World, (Op.stringOp .add (acc q) ⟨#[44, 32]⟩).run Tryz.prog W = .ok (.string (acc q ++ ⟨#[44, 32]⟩)) W := fun W => run_string_add_sum W _ _ (Nat.le_trans (Nat.add_le_add HQZ (Nat.le_refl 2)) (by decide))
        have z0 : ∀ W : World, (Op.stringOp .add fd.nm ⟨#[32, 61, 32]⟩).run Tryz.prog W = .ok (.string (fd.nm ++ ⟨#[32, 61, 32]⟩)) W := fun W => run_string_add_sum W _ _ (Nat.le_trans (Nat.add_le_add hs1 (Nat.le_refl 3)) (by decide))
        have z1 : ∀ W : World, (Op.stringOp .add (fd.nm ++ ⟨#[32, 61, 32]⟩) tc).run Tryz.prog W = .ok (.string ((fd.nm ++ ⟨#[32, 61, 32]⟩) ++ tc)) W := fun W => run_string_add_sum W _ _ (Nat.le_trans (Nat.add_le_add (cat_le hs1 (Nat.le_refl 3)) hs3) (by decide))
        have z2 : ∀ W : World, (Op.stringOp .add (acc q ++ ⟨#[44, 32]⟩) ((fd.nm ++ ⟨#[32, 61, 32]⟩) ++ tc)).run Tryz.prog W = .ok (.string ((acc q ++ ⟨#[44, 32]⟩) ++ ((fd.nm ++ ⟨#[32, 61, 32]⟩) ++ tc))) W := fun W => run_string_add_sum W _ _ (Nat.le_trans (Nat.add_le_add (cat_le HQZ (Nat.le_refl 2)) (cat_le (cat_le hs1 (Nat.le_refl 3)) hs3)) (by decide))
        have HNX : Hid (acc (q + 1) = ((acc q ++ ⟨#[44, 32]⟩) ++ ((fd.nm ++ ⟨#[32, 61, 32]⟩) ++ tc))) := Lib.hid (by
          rw [HACC.out, HACC.out, HTK.out, acc_more _ _ _ _ (fun e => by have := congrArg List.length e; simp only [List.length_map, List.length_take, List.length_nil] at this; have := HFL.out; omega), HTT.out])
        have HNZ : Hid (((acc q ++ ⟨#[44, 32]⟩) ++ ((fd.nm ++ ⟨#[32, 61, 32]⟩) ++ tc)).size ≤ 2000000000 + (q + 1) * 2000000000) := Lib.hid (by
          have h1 := HQ.out
          simp only [size_app, size_lit, List.size_toArray, List.length_cons, List.length_nil]
          omega)
        clear hs1 hs2 hs3 HQZ
        go_wp2
        have HD := Lib.hid HB.out.drew
        have ye := Blk_cell HE1.out 0
        have yl := Blk_cell HG1.out 7
        have y0 := (HD.out.cell (p := ⟨fb, fo + q * 3, none⟩) HFB.out).trans M0.out
        have y2 := (HD.out.cell (p := ⟨fb, fo + q * 3 + 2, none⟩) HFB.out).trans M2.out
        go_region_held3 (fun W => W.cell? ⟨w.heap.size, 0, none⟩ = some (.slice (some ⟨b0, o, none⟩) N c0) ∧ W.cell? ⟨w.heap.size + 1, 7, none⟩ = some (.slice (some ⟨fb, fo, none⟩) FL fc) ∧ W.cell? ⟨fb, fo + q * 3, none⟩ = some (.string fd.nm) ∧ W.cell? ⟨fb, fo + q * 3 + 2, none⟩ = some (.int .i64 fd.pl)) (first | exact ⟨ye, yl, y0, y2⟩ | exact ⟨ue, ul, u0, u2⟩) (first | (go_at_call 73; (with_reducible refine (HCF.out _ HD.out).mono ?_); rintro e w3 ⟨rfl, hb⟩; have H3 := Lib.hid (HD.out.trans (hb.mono HD.out.size)); have g := (hb.block (w.heap.size + 1) (Array.getElem?_eq_some_iff.1 HG1.out).1).trans HG1.out; have ge := (hb.block w.heap.size (Array.getElem?_eq_some_iff.1 HE1.out).1).trans HE1.out; have ue := Blk_cell ge 0; have ul := Blk_cell g 7; have u0 := (H3.out.cell (p := ⟨fb, fo + q * 3, none⟩) HFB.out).trans M0.out; have u2 := (H3.out.cell (p := ⟨fb, fo + q * 3 + 2, none⟩) HFB.out).trans M2.out; have G3 := Lib.hid g; have E3 := Lib.hid ge; clear hb g ge))
        all_goals
          go_wp2
          go_roundw
          case rel => exact ⟨q + 1, by rw [HNX.out], by go_num, by omega, Lib.hid (by rw [HNX.out]; exact HNZ.out), H3, G3, E3⟩
          case measure => simp [intOf]; omega
    · obtain rfl : q = FL := by omega
      have HQZ : (acc q).size ≤ 62000000000 := by have := HQ.out; omega
      have z0 : ∀ W : World, (Op.stringOp .add (acc q) ⟨#[125]⟩).run Tryz.prog W = .ok (.string (acc q ++ ⟨#[125]⟩)) W := fun W => run_string_add_sum W _ _ (Nat.le_trans (Nat.add_le_add HQZ (Nat.le_refl 1)) (by decide))
      clear HQZ
      go_wp2
      go_ret
      exact ⟨rfl, HB.out⟩
end Go.Proofs.YtjakeidbajkdcaaGreatDoor.S
/- The document's Text of a case. -/
namespace Go.Proofs.YtjakeidbajkdcaaGreatDoor.S
open T Go.RowKit Go.Shelf
set_option maxRecDepth 100000 in
set_option maxHeartbeats 16000000 in
theorem rtext_14 (a b c n pos : Int) (nm s : ByteArray) (FA : Option Addr) (FL fc i b0 o N c0 : Nat) (w : World) (hi : i < N) (_hN : N ≤ 600) (hb0 : b0 < w.heap.size) (ch : Int → Int → ByteArray) (sa : ByteArray) (hM : w.cell? ⟨b0, o + i * 9, none⟩ = some (.int .i64 14) ∧ w.cell? ⟨b0, o + i * 9 + 1, none⟩ = some (.int .i64 a) ∧ w.cell? ⟨b0, o + i * 9 + 2, none⟩ = some (.int .i64 b) ∧ w.cell? ⟨b0, o + i * 9 + 3, none⟩ = some (.int .i64 c) ∧ w.cell? ⟨b0, o + i * 9 + 4, none⟩ = some (.int .i64 n) ∧ w.cell? ⟨b0, o + i * 9 + 5, none⟩ = some (.string nm) ∧ w.cell? ⟨b0, o + i * 9 + 6, none⟩ = some (.string s) ∧ w.cell? ⟨b0, o + i * 9 + 7, none⟩ = some (.slice FA FL fc) ∧ w.cell? ⟨b0, o + i * 9 + 8, none⟩ = some (.int .i64 pos)) (fs : List Fld) (hF : Flds w.heap.size w (.slice FA FL fc) fs) (hfl : fs.length = FL) (h30 : FL ≤ 30) (hsz : ∀ f ∈ fs, f.nm.size ≤ 20 ∧ f.vr.size ≤ 20 ∧ (ch f.pl 0).size ≤ 1000000000) (HC : Hid (∀ f ∈ fs, ∀ W, Below w.heap.size w W → Calls Tryz.prog 73 #[.agg #[.slice (some ⟨b0, o, none⟩) N c0], .int .i64 f.pl, .int .i64 0] W (SPost (ch f.pl 0) W))) (ha : sa.size ≤ 1000000000) (HA : Hid (∀ W, Below w.heap.size w W → Calls Tryz.prog 73 #[.agg #[.slice (some ⟨b0, o, none⟩) N c0], .int .i64 a, .int .i64 0] W (SPost sa W))) :
    Calls Tryz.prog 39 #[.agg #[.slice (some ⟨b0, o, none⟩) N c0], .int .i64 (i : Int)] w (SPost ((((⟨#[99, 97, 115, 101, 32]⟩ ++ sa) ++ ⟨#[32, 111, 102, 32]⟩) ++ joinB [32, 124, 32] (fs.map (brT ch))) ++ ⟨#[32, 101, 110, 100]⟩) w) := by
  obtain ⟨m0, m1, m2, m3, m4, m5, m6, m7, m8⟩ := hM
  have hX0 := (Below.refl w.heap.size w).alloc (Nat.le_refl _) (.cells #[.slice (some ⟨b0, o, none⟩) N c0] 25)
  have HX := Lib.hid (hX0.alloc hX0.size (.cells #[.int .i64 14, .int .i64 a, .int .i64 b, .int .i64 c, .int .i64 n, .string nm, .string s, .slice FA FL fc, .int .i64 pos] 37))
  have HG : Hid (((w.alloc (.cells #[.slice (some ⟨b0, o, none⟩) N c0] 25)).alloc (.cells #[.int .i64 14, .int .i64 a, .int .i64 b, .int .i64 c, .int .i64 n, .string nm, .string s, .slice FA FL fc, .int .i64 pos] 37)).heap[w.heap.size + 1]? = some (.cells #[.int .i64 14, .int .i64 a, .int .i64 b, .int .i64 c, .int .i64 n, .string nm, .string s, .slice FA FL fc, .int .i64 pos] 37 (0, 0))) := Lib.hid (by have := World.alloc_heap_new (w.alloc (.cells #[.slice (some ⟨b0, o, none⟩) N c0] 25)) (.cells #[.int .i64 14, .int .i64 a, .int .i64 b, .int .i64 c, .int .i64 n, .string nm, .string s, .slice FA FL fc, .int .i64 pos] 37); simpa using this)
  have HE : Hid (((w.alloc (.cells #[.slice (some ⟨b0, o, none⟩) N c0] 25)).alloc (.cells #[.int .i64 14, .int .i64 a, .int .i64 b, .int .i64 c, .int .i64 n, .string nm, .string s, .slice FA FL fc, .int .i64 pos] 37)).heap[w.heap.size]? = some (.cells #[.slice (some ⟨b0, o, none⟩) N c0] 25 (0, 0))) := Lib.hid (nextAt (World.alloc_heap_new w _))
  have lo : ∀ k, (w.alloc (.cells #[.slice (some ⟨b0, o, none⟩) N c0] 25)).cell? ⟨b0, k, none⟩ = w.cell? ⟨b0, k, none⟩ := fun k => hX0.cell (p := ⟨b0, k, none⟩) hb0
  rw [← lo] at m0 m1 m2 m3 m4 m5 m6 m7 m8
  clear hX0 lo
  have HFF : Hid (0 < FL → ∃ g o, FA = some ⟨g, o, none⟩ ∧ g < w.heap.size ∧ FldsAt w g o fs) := Lib.hid (by
    obtain ⟨A, c, e, _, _, h3⟩ := hF
    simp only [Value.slice.injEq] at e
    obtain ⟨rfl, e2, _⟩ := e
    rw [hfl] at h3; exact h3)
  have HN := Lib.hid hfl
  have HZ := Lib.hid hsz
  clear hF hfl hsz
  obtain ⟨s0, hs0⟩ : ∃ s0 : ByteArray, ((⟨#[99, 97, 115, 101, 32]⟩ ++ sa) ++ ⟨#[32, 111, 102, 32]⟩) = s0 := ⟨_, rfl⟩
  have hs0z : s0.size ≤ 2000000000 := by rw [← hs0]; exact Nat.le_trans (cat_le (cat_le (Nat.le_refl 5) ha) (Nat.le_refl 4)) (by decide)
  obtain ⟨acc, hacc⟩ : ∃ acc : Nat → ByteArray, ∀ q, acc q = s0 ++ joinB [32, 124, 32] ((fs.take q).map (brT ch)) := ⟨fun q => s0 ++ joinB [32, 124, 32] ((fs.take q).map (brT ch)), fun _ => rfl⟩
  have hans : ((⟨#[99, 97, 115, 101, 32]⟩ ++ sa) ++ ⟨#[32, 111, 102, 32]⟩) ++ joinB [32, 124, 32] (fs.map (brT ch)) = acc FL := by rw [hacc, List.take_of_length_le (by rw [HN.out]; exact Nat.le_refl _), hs0]
  rw [hans]
  have HACC := Lib.hid hacc
  have hacc0 : s0 = acc 0 := by rw [hacc, List.take_zero, List.map_nil, acc_nil]
  have HAC0 := Lib.hid hacc0
  have z8 : ∀ W : World, (Op.stringOp .add ⟨#[99, 97, 115, 101, 32]⟩ sa).run Tryz.prog W = .ok (.string (⟨#[99, 97, 115, 101, 32]⟩ ++ sa)) W := fun W => run_string_add_sum W _ _ (Nat.le_trans (Nat.add_le_add (Nat.le_refl 5) ha) (by decide))
  have z9 : ∀ W : World, (Op.stringOp .add (⟨#[99, 97, 115, 101, 32]⟩ ++ sa) ⟨#[32, 111, 102, 32]⟩).run Tryz.prog W = .ok (.string s0) W := fun W => by rw [← hs0]; exact run_string_add_sum W _ _ (Nat.le_trans (Nat.add_le_add (cat_le (Nat.le_refl 5) ha) (Nat.le_refl 4)) (by decide))
  clear hacc hans hacc0 hs0 ha
  go_enter Tryz.func39, Tryz.ntmps39
  go_wp2_with (go_at_call 73; (with_reducible refine (HA.out _ HX.out).mono ?_); rintro e w1 ⟨rfl, hb⟩; have H1 := Lib.hid (HX.out.trans (hb.mono HX.out.size)); have G1 := Lib.hid ((hb.block (w.heap.size + 1) (Array.getElem?_eq_some_iff.1 HG.out).1).trans HG.out); have E1 := Lib.hid ((hb.block w.heap.size (Array.getElem?_eq_some_iff.1 HE.out).1).trans HE.out); clear hb)
  go_loopw [11, 12] (fun v i wr => ∃ q : Nat, v = .string (acc q) ∧ i = .int .i64 (q : Int) ∧ q ≤ FL ∧ Hid ((acc q).size ≤ 2000000000 + q * 2000000000) ∧ Hid (Below w.heap.size w wr) ∧ Hid (wr.heap[w.heap.size + 1]? = some (.cells #[.int .i64 14, .int .i64 a, .int .i64 b, .int .i64 c, .int .i64 n, .string nm, .string s, .slice FA FL fc, .int .i64 pos] 37 (0, 0))) ∧ Hid (wr.heap[w.heap.size]? = some (.cells #[.slice (some ⟨b0, o, none⟩) N c0] 25 (0, 0)))) (fun _ i _ => FL - (intOf i).toNat)
  case atStart => exact ⟨0, by rw [HAC0.out], rfl, Nat.zero_le _, Lib.hid (by rw [← HAC0.out]; omega), H1, G1, E1⟩
  case round =>
    obtain ⟨q, rfl, rfl, hq, HQ, HB, HG1, HE1⟩ := hrel
    clear HX HG HE H1 G1 E1
    have hwz := HB.out.size
    have c7 := Blk_cell HG1.out 7
    by_cases hlt : q < FL
    · obtain ⟨fb, fo, rfl, hfb, hf0⟩ := HFF.out (by omega)
      obtain ⟨fd, hfd⟩ : ∃ fd, fs[q]? = some fd := ⟨_, List.getElem?_eq_getElem (by rw [HN.out]; exact hlt)⟩
      obtain ⟨m0, m1, m2⟩ := hf0 q fd hfd
      have HFB := Lib.hid hfb
      have M0 := Lib.hid m0
      have M1 := Lib.hid m1
      have M2 := Lib.hid m2
      obtain ⟨hs1, hs2, hs3⟩ := HZ.out fd (List.mem_of_getElem? hfd)
      have HCF := Lib.hid (HC.out fd (List.mem_of_getElem? hfd))
      have HTK : Hid ((fs.take (q + 1)).map (brT ch) = (fs.take q).map (brT ch) ++ [brT ch fd]) := Lib.hid (by rw [List.take_add_one, hfd, List.map_append]; rfl)
      obtain ⟨tc, htc⟩ : ∃ tc, ch fd.pl 0 = tc := ⟨_, rfl⟩
      have HTT : Hid (brT ch fd = ((((fd.nm ++ ⟨#[32]⟩) ++ fd.vr) ++ ⟨#[32, 45, 62, 32]⟩) ++ tc)) := Lib.hid (by unfold brT; rw [htc])
      have HQZ : (acc q).size ≤ 62000000000 := by have := HQ.out; omega
      have HFL : Hid (fs.length = FL) := HN
      rw [htc] at hs3 HCF
      clear htc hf0 hfd hfb m0 m1 m2
      by_cases hq0 : q = 0
      · subst hq0
        have z0 : ∀ W : World, (Op.stringOp .add fd.nm ⟨#[32]⟩).run Tryz.prog W = .ok (.string (fd.nm ++ ⟨#[32]⟩)) W := fun W => run_string_add_sum W _ _ (Nat.le_trans (Nat.add_le_add hs1 (Nat.le_refl 1)) (by decide))
        have z1 : ∀ W : World, (Op.stringOp .add (fd.nm ++ ⟨#[32]⟩) fd.vr).run Tryz.prog W = .ok (.string ((fd.nm ++ ⟨#[32]⟩) ++ fd.vr)) W := fun W => run_string_add_sum W _ _ (Nat.le_trans (Nat.add_le_add (cat_le hs1 (Nat.le_refl 1)) hs2) (by decide))
        have z2 : ∀ W : World, (Op.stringOp .add ((fd.nm ++ ⟨#[32]⟩) ++ fd.vr) ⟨#[32, 45, 62, 32]⟩).run Tryz.prog W = .ok (.string (((fd.nm ++ ⟨#[32]⟩) ++ fd.vr) ++ ⟨#[32, 45, 62, 32]⟩)) W := fun W => run_string_add_sum W _ _ (Nat.le_trans (Nat.add_le_add (cat_le (cat_le hs1 (Nat.le_refl 1)) hs2) (Nat.le_refl 4)) (by decide))
        have z3 : ∀ W : World, (Op.stringOp .add (((fd.nm ++ ⟨#[32]⟩) ++ fd.vr) ++ ⟨#[32, 45, 62, 32]⟩) tc).run Tryz.prog W = .ok (.string ((((fd.nm ++ ⟨#[32]⟩) ++ fd.vr) ++ ⟨#[32, 45, 62, 32]⟩) ++ tc)) W := fun W => run_string_add_sum W _ _ (Nat.le_trans (Nat.add_le_add (cat_le (cat_le (cat_le hs1 (Nat.le_refl 1)) hs2) (Nat.le_refl 4)) hs3) (by decide))
        have z4 : ∀ W : World, (Op.stringOp .add (acc 0) ((((fd.nm ++ ⟨#[32]⟩) ++ fd.vr) ++ ⟨#[32, 45, 62, 32]⟩) ++ tc)).run Tryz.prog W = .ok (.string ((acc 0) ++ ((((fd.nm ++ ⟨#[32]⟩) ++ fd.vr) ++ ⟨#[32, 45, 62, 32]⟩) ++ tc))) W := fun W => run_string_add_sum W _ _ (Nat.le_trans (Nat.add_le_add HQZ (cat_le (cat_le (cat_le (cat_le hs1 (Nat.le_refl 1)) hs2) (Nat.le_refl 4)) hs3)) (by decide))
        have HNX : Hid (acc (0 + 1) = ((acc 0) ++ ((((fd.nm ++ ⟨#[32]⟩) ++ fd.vr) ++ ⟨#[32, 45, 62, 32]⟩) ++ tc))) := Lib.hid (by
          rw [HACC.out, HACC.out, HTK.out, acc_one _ _ _ _ (by rw [List.take_zero, List.map_nil]), HTT.out])
        have HNZ : Hid (((acc 0) ++ ((((fd.nm ++ ⟨#[32]⟩) ++ fd.vr) ++ ⟨#[32, 45, 62, 32]⟩) ++ tc)).size ≤ 2000000000 + (0 + 1) * 2000000000) := Lib.hid (by
          have h1 := HQ.out
          simp only [size_app, size_lit, List.size_toArray, List.length_cons, List.length_nil]
          omega)
        clear hs1 hs2 hs3 HQZ
        go_wp2
        have HD := Lib.hid HB.out.drew
        have M0 : Hid (w.cell? ⟨fb, fo, none⟩ = some (.string fd.nm)) := Lib.hid (by have := M0.out; rw [Nat.zero_mul, Nat.add_zero] at this; exact this)
        have M1 : Hid (w.cell? ⟨fb, fo + 1, none⟩ = some (.string fd.vr)) := Lib.hid (by have := M1.out; rw [Nat.zero_mul, Nat.add_zero] at this; exact this)
        have M2 : Hid (w.cell? ⟨fb, fo + 2, none⟩ = some (.int .i64 fd.pl)) := Lib.hid (by have := M2.out; rw [Nat.zero_mul, Nat.add_zero] at this; exact this)
        have ye := Blk_cell HE1.out 0
        have yl := Blk_cell HG1.out 7
        have y0 := (HD.out.cell (p := ⟨fb, fo, none⟩) HFB.out).trans M0.out
        have y1 := (HD.out.cell (p := ⟨fb, fo + 1, none⟩) HFB.out).trans M1.out
        have y2 := (HD.out.cell (p := ⟨fb, fo + 2, none⟩) HFB.out).trans M2.out
        go_region_held3 (fun W => W.cell? ⟨w.heap.size, 0, none⟩ = some (.slice (some ⟨b0, o, none⟩) N c0) ∧ W.cell? ⟨w.heap.size + 1, 7, none⟩ = some (.slice (some ⟨fb, fo, none⟩) FL fc) ∧ W.cell? ⟨fb, fo, none⟩ = some (.string fd.nm) ∧ W.cell? ⟨fb, fo + 1, none⟩ = some (.string fd.vr) ∧ W.cell? ⟨fb, fo + 2, none⟩ = some (.int .i64 fd.pl)) (first | exact ⟨ye, yl, y0, y1, y2⟩ | exact ⟨ue, ul, u0, u1, u2⟩) (first | (go_at_call 73; (with_reducible refine (HCF.out _ HD.out).mono ?_); rintro e w3 ⟨rfl, hb⟩; have H3 := Lib.hid (HD.out.trans (hb.mono HD.out.size)); have g := (hb.block (w.heap.size + 1) (Array.getElem?_eq_some_iff.1 HG1.out).1).trans HG1.out; have ge := (hb.block w.heap.size (Array.getElem?_eq_some_iff.1 HE1.out).1).trans HE1.out; have ue := Blk_cell ge 0; have ul := Blk_cell g 7; have u0 := (H3.out.cell (p := ⟨fb, fo, none⟩) HFB.out).trans M0.out; have u1 := (H3.out.cell (p := ⟨fb, fo + 1, none⟩) HFB.out).trans M1.out; have u2 := (H3.out.cell (p := ⟨fb, fo + 2, none⟩) HFB.out).trans M2.out; have G3 := Lib.hid g; have E3 := Lib.hid ge; clear hb g ge))
        all_goals
          go_wp2
          go_roundw
          case rel => exact ⟨0 + 1, by rw [HNX.out], by go_num, by omega, Lib.hid (by rw [HNX.out]; exact HNZ.out), H3, G3, E3⟩
          case measure => simp [intOf]; omega
      · have hq1 : 0 < q := by omega
        have z7 : ∀ W : World, (Op.stringOp .add (acc q) ⟨#[32, 124, 32]⟩).run Tryz.prog W = .ok (.string (acc q ++ ⟨#[32, 124, 32]⟩)) W := fun W => run_string_add_sum W _ _ (Nat.le_trans (Nat.add_le_add HQZ (Nat.le_refl 3)) (by decide))
        have z0 : ∀ W : World, (Op.stringOp .add fd.nm ⟨#[32]⟩).run Tryz.prog W = .ok (.string (fd.nm ++ ⟨#[32]⟩)) W := fun W => run_string_add_sum W _ _ (Nat.le_trans (Nat.add_le_add hs1 (Nat.le_refl 1)) (by decide))
        have z1 : ∀ W : World, (Op.stringOp .add (fd.nm ++ ⟨#[32]⟩) fd.vr).run Tryz.prog W = .ok (.string ((fd.nm ++ ⟨#[32]⟩) ++ fd.vr)) W := fun W => run_string_add_sum W _ _ (Nat.le_trans (Nat.add_le_add (cat_le hs1 (Nat.le_refl 1)) hs2) (by decide))
        have z2 : ∀ W : World, (Op.stringOp .add ((fd.nm ++ ⟨#[32]⟩) ++ fd.vr) ⟨#[32, 45, 62, 32]⟩).run Tryz.prog W = .ok (.string (((fd.nm ++ ⟨#[32]⟩) ++ fd.vr) ++ ⟨#[32, 45, 62, 32]⟩)) W := fun W => run_string_add_sum W _ _ (Nat.le_trans (Nat.add_le_add (cat_le (cat_le hs1 (Nat.le_refl 1)) hs2) (Nat.le_refl 4)) (by decide))
        have z3 : ∀ W : World, (Op.stringOp .add (((fd.nm ++ ⟨#[32]⟩) ++ fd.vr) ++ ⟨#[32, 45, 62, 32]⟩) tc).run Tryz.prog W = .ok (.string ((((fd.nm ++ ⟨#[32]⟩) ++ fd.vr) ++ ⟨#[32, 45, 62, 32]⟩) ++ tc)) W := fun W => run_string_add_sum W _ _ (Nat.le_trans (Nat.add_le_add (cat_le (cat_le (cat_le hs1 (Nat.le_refl 1)) hs2) (Nat.le_refl 4)) hs3) (by decide))
        have z4 : ∀ W : World, (Op.stringOp .add (acc q ++ ⟨#[32, 124, 32]⟩) ((((fd.nm ++ ⟨#[32]⟩) ++ fd.vr) ++ ⟨#[32, 45, 62, 32]⟩) ++ tc)).run Tryz.prog W = .ok (.string ((acc q ++ ⟨#[32, 124, 32]⟩) ++ ((((fd.nm ++ ⟨#[32]⟩) ++ fd.vr) ++ ⟨#[32, 45, 62, 32]⟩) ++ tc))) W := fun W => run_string_add_sum W _ _ (Nat.le_trans (Nat.add_le_add (cat_le HQZ (Nat.le_refl 3)) (cat_le (cat_le (cat_le (cat_le hs1 (Nat.le_refl 1)) hs2) (Nat.le_refl 4)) hs3)) (by decide))
        have HNX : Hid (acc (q + 1) = ((acc q ++ ⟨#[32, 124, 32]⟩) ++ ((((fd.nm ++ ⟨#[32]⟩) ++ fd.vr) ++ ⟨#[32, 45, 62, 32]⟩) ++ tc))) := Lib.hid (by
          rw [HACC.out, HACC.out, HTK.out, acc_more _ _ _ _ (fun e => by have := congrArg List.length e; simp only [List.length_map, List.length_take, List.length_nil] at this; have := HFL.out; omega), HTT.out])
        have HNZ : Hid (((acc q ++ ⟨#[32, 124, 32]⟩) ++ ((((fd.nm ++ ⟨#[32]⟩) ++ fd.vr) ++ ⟨#[32, 45, 62, 32]⟩) ++ tc)).size ≤ 2000000000 + (q + 1) * 2000000000) := Lib.hid (by
          have h1 := HQ.out
          simp only [size_app, size_lit, List.size_toArray, List.length_cons, List.length_nil]
          omega)
        clear hs1 hs2 hs3 HQZ
        go_wp2
        have HD := Lib.hid HB.out.drew
        have ye := Blk_cell HE1.out 0
        have yl := Blk_cell HG1.out 7
        have y0 := (HD.out.cell (p := ⟨fb, fo + q * 3, none⟩) HFB.out).trans M0.out
        have y1 := (HD.out.cell (p := ⟨fb, fo + q * 3 + 1, none⟩) HFB.out).trans M1.out
        have y2 := (HD.out.cell (p := ⟨fb, fo + q * 3 + 2, none⟩) HFB.out).trans M2.out
        go_region_held3 (fun W => W.cell? ⟨w.heap.size, 0, none⟩ = some (.slice (some ⟨b0, o, none⟩) N c0) ∧ W.cell? ⟨w.heap.size + 1, 7, none⟩ = some (.slice (some ⟨fb, fo, none⟩) FL fc) ∧ W.cell? ⟨fb, fo + q * 3, none⟩ = some (.string fd.nm) ∧ W.cell? ⟨fb, fo + q * 3 + 1, none⟩ = some (.string fd.vr) ∧ W.cell? ⟨fb, fo + q * 3 + 2, none⟩ = some (.int .i64 fd.pl)) (first | exact ⟨ye, yl, y0, y1, y2⟩ | exact ⟨ue, ul, u0, u1, u2⟩) (first | (go_at_call 73; (with_reducible refine (HCF.out _ HD.out).mono ?_); rintro e w3 ⟨rfl, hb⟩; have H3 := Lib.hid (HD.out.trans (hb.mono HD.out.size)); have g := (hb.block (w.heap.size + 1) (Array.getElem?_eq_some_iff.1 HG1.out).1).trans HG1.out; have ge := (hb.block w.heap.size (Array.getElem?_eq_some_iff.1 HE1.out).1).trans HE1.out; have ue := Blk_cell ge 0; have ul := Blk_cell g 7; have u0 := (H3.out.cell (p := ⟨fb, fo + q * 3, none⟩) HFB.out).trans M0.out; have u1 := (H3.out.cell (p := ⟨fb, fo + q * 3 + 1, none⟩) HFB.out).trans M1.out; have u2 := (H3.out.cell (p := ⟨fb, fo + q * 3 + 2, none⟩) HFB.out).trans M2.out; have G3 := Lib.hid g; have E3 := Lib.hid ge; clear hb g ge))
        all_goals
          go_wp2
          go_roundw
          case rel => exact ⟨q + 1, by rw [HNX.out], by go_num, by omega, Lib.hid (by rw [HNX.out]; exact HNZ.out), H3, G3, E3⟩
          case measure => simp [intOf]; omega
    · obtain rfl : q = FL := by omega
      have HQZ : (acc q).size ≤ 62000000000 := by have := HQ.out; omega
      have z0 : ∀ W : World, (Op.stringOp .add (acc q) ⟨#[32, 101, 110, 100]⟩).run Tryz.prog W = .ok (.string (acc q ++ ⟨#[32, 101, 110, 100]⟩)) W := fun W => run_string_add_sum W _ _ (Nat.le_trans (Nat.add_le_add HQZ (Nat.le_refl 4)) (by decide))
      clear HQZ
      go_wp2
      go_ret
      exact ⟨rfl, HB.out⟩
end Go.Proofs.YtjakeidbajkdcaaGreatDoor.S
/- The document's at and Text, of any node; Print. -/
namespace Go.Proofs.YtjakeidbajkdcaaGreatDoor.S
open T Go.RowKit Go.Shelf
set_option maxRecDepth 100000 in
set_option maxHeartbeats 16000000 in
theorem at_is (x : Nd) (FA : Option Addr) (FL fc : Nat) (t : Int) (i b0 o N c0 : Nat) (w : World) (s : ByteArray) (hs : s.size ≤ 1000000000) (hi : i < N) (_hN : N ≤ 600) (hb0 : b0 < w.heap.size)
    (hM : w.cell? ⟨b0, o + i * 9, none⟩ = some (.int .i64 x.kind) ∧ w.cell? ⟨b0, o + i * 9 + 1, none⟩ = some (.int .i64 x.a) ∧ w.cell? ⟨b0, o + i * 9 + 2, none⟩ = some (.int .i64 x.b) ∧ w.cell? ⟨b0, o + i * 9 + 3, none⟩ = some (.int .i64 x.c) ∧ w.cell? ⟨b0, o + i * 9 + 4, none⟩ = some (.int .i64 x.n) ∧
      w.cell? ⟨b0, o + i * 9 + 5, none⟩ = some (.string x.nm) ∧ w.cell? ⟨b0, o + i * 9 + 6, none⟩ = some (.string x.s) ∧ w.cell? ⟨b0, o + i * 9 + 7, none⟩ = some (.slice FA FL fc) ∧ w.cell? ⟨b0, o + i * 9 + 8, none⟩ = some (.int .i64 x.pos))
    (HT : Hid (∀ W, Below w.heap.size w W → Calls Tryz.prog 39 #[.agg #[.slice (some ⟨b0, o, none⟩) N c0], .int .i64 (i : Int)] W (SPost s W))) :
    Calls Tryz.prog 73 #[.agg #[.slice (some ⟨b0, o, none⟩) N c0], .int .i64 (i : Int), .int .i64 t] w (SPost (bra (tight x.kind x.n) t s) w) := by
  obtain ⟨k, a, bb, cc, n, nm, sx, l, pos⟩ := x
  simp only at hM ⊢
  obtain ⟨m0, m1, m2, m3, m4, m5, m6, m7, m8⟩ := hM
  obtain ⟨tt, htt⟩ : ∃ tt, tight k n = tt := ⟨_, rfl⟩
  have HTI := Lib.hid (rtight_is k a bb cc n pos nm sx (.slice FA FL fc) tt htt)
  have HX := Lib.hid ((Below.refl w.heap.size w).alloc (Nat.le_refl _) (.cells #[.slice (some ⟨b0, o, none⟩) N c0] 25))
  have HG := Lib.hid (World.alloc_heap_new w (.cells #[.slice (some ⟨b0, o, none⟩) N c0] 25))
  have HZ := Lib.hid hb0
  have M : Hid (∀ W, Below w.heap.size w W → ∀ k v, w.cell? ⟨b0, k, none⟩ = some v → W.cell? ⟨b0, k, none⟩ = some v) := Lib.hid fun W h k v e => (h.cell (p := ⟨b0, k, none⟩) hb0).trans e
  have N0 := Lib.hid m0
  have N1 := Lib.hid m1
  have N2 := Lib.hid m2
  have N3 := Lib.hid m3
  have N4 := Lib.hid m4
  have N5 := Lib.hid m5
  have N6 := Lib.hid m6
  have N7 := Lib.hid m7
  have N8 := Lib.hid m8
  rw [htt]
  clear htt m0 m1 m2 m3 m4 m5 m6 m7 m8 hb0
  have z0 : ∀ W : World, (Op.stringOp .add ⟨#[40]⟩ s).run Tryz.prog W = .ok (.string (⟨#[40]⟩ ++ s)) W := fun W => run_string_add_sum W _ _ (Nat.le_trans (Nat.add_le_add (Nat.le_refl 1) hs) (by decide))
  have z1 : ∀ W : World, (Op.stringOp .add (⟨#[40]⟩ ++ s) ⟨#[41]⟩).run Tryz.prog W = .ok (.string ((⟨#[40]⟩ ++ s) ++ ⟨#[41]⟩)) W := fun W => run_string_add_sum W _ _ (Nat.le_trans (Nat.add_le_add (cat_le (Nat.le_refl 1) hs) (Nat.le_refl 1)) (by decide))
  clear hs
  by_cases hlt : tt < t
  · have HS : Hid (bra tt t s = (⟨#[40]⟩ ++ s) ++ ⟨#[41]⟩) := Lib.hid (by unfold bra; rw [if_pos hlt])
    rw [HS.out]
    go_enter Tryz.func73, Tryz.ntmps73
    go_wp2_with (first | (go_at_call 18; (with_reducible refine (HTI.out _).mono ?_); rintro e w2 ⟨rfl, hb2⟩; have H2 := Lib.hid (H1.out.trans (hb2.mono H1.out.size)); clear hb2) | (go_at_call 39; (with_reducible refine (HT.out _ HX.out).mono ?_); rintro e w1 ⟨rfl, hb1⟩; have H1 := Lib.hid (HX.out.trans (hb1.mono HX.out.size)); have G1 := Lib.hid ((hb1.block w.heap.size (Array.getElem?_eq_some_iff.1 HG.out).1).trans HG.out); have q0 := Blk_cell G1.out 0; have m0 := M.out _ H1.out _ _ N0.out; have m1 := M.out _ H1.out _ _ N1.out; have m2 := M.out _ H1.out _ _ N2.out; have m3 := M.out _ H1.out _ _ N3.out; have m4 := M.out _ H1.out _ _ N4.out; have m5 := M.out _ H1.out _ _ N5.out; have m6 := M.out _ H1.out _ _ N6.out; have m7 := M.out _ H1.out _ _ N7.out; have m8 := M.out _ H1.out _ _ N8.out; clear hb1))
    go_ret
    exact ⟨rfl, H2.out⟩
  · have HS : Hid (bra tt t s = s) := Lib.hid (by unfold bra; rw [if_neg hlt])
    rw [HS.out]
    go_enter Tryz.func73, Tryz.ntmps73
    go_wp2_with (first | (go_at_call 18; (with_reducible refine (HTI.out _).mono ?_); rintro e w2 ⟨rfl, hb2⟩; have H2 := Lib.hid (H1.out.trans (hb2.mono H1.out.size)); clear hb2) | (go_at_call 39; (with_reducible refine (HT.out _ HX.out).mono ?_); rintro e w1 ⟨rfl, hb1⟩; have H1 := Lib.hid (HX.out.trans (hb1.mono HX.out.size)); have G1 := Lib.hid ((hb1.block w.heap.size (Array.getElem?_eq_some_iff.1 HG.out).1).trans HG.out); have q0 := Blk_cell G1.out 0; have m0 := M.out _ H1.out _ _ N0.out; have m1 := M.out _ H1.out _ _ N1.out; have m2 := M.out _ H1.out _ _ N2.out; have m3 := M.out _ H1.out _ _ N3.out; have m4 := M.out _ H1.out _ _ N4.out; have m5 := M.out _ H1.out _ _ N5.out; have m6 := M.out _ H1.out _ _ N6.out; have m7 := M.out _ H1.out _ _ N7.out; have m8 := M.out _ H1.out _ _ N8.out; clear hb1))
    go_ret
    exact ⟨rfl, H2.out⟩
end Go.Proofs.YtjakeidbajkdcaaGreatDoor.S
/- The document's Text of any node; Print. -/
namespace Go.Proofs.YtjakeidbajkdcaaGreatDoor.S
open T Go.RowKit Go.Shelf
/-- The nodes lie so. -/
structure Lies (B : Nat) (W : World) (b o : Nat) (l : List Nd) : Prop where
  hB : B ≤ W.heap.size
  hb : b < B
  nd : NdsAt B W b o l
theorem Lies.next {B : Nat} {W W' : World} {b o : Nat} {l : List Nd} (h : Lies B W b o l) (hb : Below B W W') : Lies B W' b o l :=
  ⟨Nat.le_trans h.hB hb.size, h.hb, h.nd.below hb h.hb⟩
theorem fst_or (n : Int) : (tight 10 n = 1 ∧ fst1 n = 2) ∨ (tight 10 n ≠ 1 ∧ fst1 n = tight 10 n) := by
  have e : tight 10 n = (if n = 5 ∨ n = 6 then 1 else if n = 3 ∨ n = 4 then 3 else 2) := by
    unfold tight
    rw [if_neg (by decide), if_pos rfl]
  by_cases h : n = 5 ∨ n = 6
  · exact .inl ⟨by rw [e, if_pos h], by unfold fst1; rw [if_pos h]⟩
  · refine .inr ⟨?_, by unfold fst1; rw [if_neg h]⟩
    rw [e, if_neg h]
    split <;> decide
theorem tight_7 (k n : Int) : 0 ≤ tight k n ∧ tight k n ≤ 7 := by unfold tight; repeat' split <;> first | omega | decide
set_option maxRecDepth 100000 in
theorem rtext_any (x : Nd) (FA : Option Addr) (fc : Nat) (ho : Own x) (hn : -9223372036854775808 ≤ x.n ∧ x.n ≤ 9223372036854775807) (i b0 o N c0 : Nat) (W : World) (hi : i < N) (hN : N ≤ 600) (hb0 : b0 < W.heap.size) (hF : Flds W.heap.size W (.slice FA x.l.length fc) x.l)
    (hM : W.cell? ⟨b0, o + i * 9, none⟩ = some (.int .i64 x.kind) ∧ W.cell? ⟨b0, o + i * 9 + 1, none⟩ = some (.int .i64 x.a) ∧ W.cell? ⟨b0, o + i * 9 + 2, none⟩ = some (.int .i64 x.b) ∧ W.cell? ⟨b0, o + i * 9 + 3, none⟩ = some (.int .i64 x.c) ∧ W.cell? ⟨b0, o + i * 9 + 4, none⟩ = some (.int .i64 x.n) ∧
      W.cell? ⟨b0, o + i * 9 + 5, none⟩ = some (.string x.nm) ∧ W.cell? ⟨b0, o + i * 9 + 6, none⟩ = some (.string x.s) ∧ W.cell? ⟨b0, o + i * 9 + 7, none⟩ = some (.slice FA x.l.length fc) ∧ W.cell? ⟨b0, o + i * 9 + 8, none⟩ = some (.int .i64 x.pos))
    (ch : Int → Int → ByteArray) (hch : ∀ k ∈ kids x, ∀ t, (ch k t).size ≤ 1000000000)
    (HC : ∀ k ∈ kids x, ∀ t W', Below W.heap.size W W' → Calls Tryz.prog 73 #[.agg #[.slice (some ⟨b0, o, none⟩) N c0], .int .i64 k, .int .i64 t] W' (SPost (ch k t) W')) :
    Calls Tryz.prog 39 #[.agg #[.slice (some ⟨b0, o, none⟩) N c0], .int .i64 (i : Int)] W (SPost (body x ch) W) := by
  have hc : x.kind = 1 ∨ x.kind = 2 ∨ x.kind = 3 ∨ x.kind = 4 ∨ x.kind = 5 ∨ x.kind = 6 ∨ x.kind = 7 ∨ x.kind = 8 ∨ x.kind = 9 ∨ x.kind = 10 ∨ x.kind = 11 ∨ x.kind = 12 ∨ x.kind = 13 ∨ x.kind = 14 := by
    have := ho.k1; have := ho.k2; omega
  have hcp : x.kind = 11 ∨ x.kind = 14 → ∀ f ∈ x.l, f.pl ∈ kids x := fun hk f hf => by
    unfold kids many
    rw [List.mem_append]
    refine .inr ?_
    rcases hk with e | e <;> simp [e] <;> exact ⟨f, hf, rfl⟩
  have hall : x.kind = 11 ∨ x.kind = 14 → ∀ f ∈ x.l, f.nm.size ≤ 20 ∧ f.vr.size ≤ 20 ∧ (ch f.pl 0).size ≤ 1000000000 := fun hk f hf => ⟨(ho.f f hf).1, (ho.f f hf).2, hch _ (hcp hk f hf) 0⟩
  have hnm := ho.nm
  have hs := ho.s
  have hl := ho.l
  have hbb := ho.b
  clear ho
  obtain ⟨k, a, b, c, n, nm, s, l, pos⟩ := x
  simp only at *
  rcases hc with rfl | rfl | rfl | rfl | rfl | rfl | rfl | rfl | rfl | rfl | rfl | rfl | rfl | rfl
  · rw [body_1 rfl]; exact rtext_1 a b c n pos nm s FA l.length fc i b0 o N c0 W hi hN hb0 hM hn.1 hn.2
  · rw [body_2 rfl]; exact rtext_2 a b c n pos nm s FA l.length fc i b0 o N c0 W hi hN hb0 hM (hbb rfl)
  · rw [body_3 rfl]; exact rtext_3 a b c n pos nm s FA l.length fc i b0 o N c0 W hi hN hb0 hM hs
  · rw [body_4 rfl]; exact rtext_4 a b c n pos nm s FA l.length fc i b0 o N c0 W hi hN hb0 hM
  · rw [body_5 rfl]; exact rtext_5 a b c n pos nm s FA l.length fc i b0 o N c0 W hi hN hb0 (ch a 0) hM hnm (hch a (by simp [kids, kids0]) 0) (Lib.hid (HC a (by simp [kids, kids0]) 0))
  · rw [body_6 rfl]; exact rtext_6 a b c n pos nm s FA l.length fc i b0 o N c0 W hi hN hb0 (ch a 5) (ch b 6) hM (hch a (by simp [kids, kids0]) 5) (Lib.hid (HC a (by simp [kids, kids0]) 5)) (hch b (by simp [kids, kids0]) 6) (Lib.hid (HC b (by simp [kids, kids0]) 6))
  · rw [body_7 rfl]; exact rtext_7 a b c n pos nm s FA l.length fc i b0 o N c0 W hi hN hb0 (ch a 0) (ch b 0) hM hnm (hch a (by simp [kids, kids0]) 0) (Lib.hid (HC a (by simp [kids, kids0]) 0)) (hch b (by simp [kids, kids0]) 0) (Lib.hid (HC b (by simp [kids, kids0]) 0))
  · rw [body_8 rfl]; exact rtext_8 a b c n pos nm s FA l.length fc i b0 o N c0 W hi hN hb0 (ch a 0) (ch b 0) hM hnm (hch a (by simp [kids, kids0]) 0) (Lib.hid (HC a (by simp [kids, kids0]) 0)) (hch b (by simp [kids, kids0]) 0) (Lib.hid (HC b (by simp [kids, kids0]) 0))
  · rw [body_9 rfl]; exact rtext_9 a b c n pos nm s FA l.length fc i b0 o N c0 W hi hN hb0 (ch a 0) (ch b 0) (ch c 0) hM (hch a (by simp [kids, kids0]) 0) (Lib.hid (HC a (by simp [kids, kids0]) 0)) (hch b (by simp [kids, kids0]) 0) (Lib.hid (HC b (by simp [kids, kids0]) 0)) (hch c (by simp [kids, kids0]) 0) (Lib.hid (HC c (by simp [kids, kids0]) 0))
  · rw [body_10 rfl]; exact rtext_10 a b c n pos nm s FA l.length fc i b0 o N c0 W hi hN hb0 (ch a (fst1 n)) (ch b (tight 10 n + 1)) (sgn n) (tight 10 n) (fst1 n) hM rfl (fst_or n) (tight_7 10 n) rfl (sgn_size n) (hch a (by simp [kids, kids0]) _) (hch b (by simp [kids, kids0]) _) (Lib.hid (HC a (by simp [kids, kids0]) _)) (Lib.hid (HC b (by simp [kids, kids0]) _))
  · rw [body_11 rfl]
    exact rtext_11 a b c n pos nm s FA l.length fc i b0 o N c0 W hi hN hb0 ch hM l hF rfl hl (hall (.inl rfl)) (Lib.hid fun f hf W' hW => HC _ (hcp (.inl rfl) f hf) 0 W' hW)
  · rw [body_12 rfl]; exact rtext_12 a b c n pos nm s FA l.length fc i b0 o N c0 W hi hN hb0 (ch a 6) hM hnm (hch a (by simp [kids, kids0]) 6) (Lib.hid (HC a (by simp [kids, kids0]) 6))
  · rw [body_13 rfl]; exact rtext_13 a b c n pos nm s FA l.length fc i b0 o N c0 W hi hN hb0 (ch a 6) hM hnm (hch a (by simp [kids, kids0]) 6) (Lib.hid (HC a (by simp [kids, kids0]) 6))
  · rw [body_14 rfl]
    exact rtext_14 a b c n pos nm s FA l.length fc i b0 o N c0 W hi hN hb0 ch (ch a 0) hM l hF rfl hl (hall (.inr rfl)) (Lib.hid fun f hf W' hW => HC _ (hcp (.inr rfl) f hf) 0 W' hW) (hch a (by simp [kids, kids0]) 0) (Lib.hid (HC a (by simp [kids, kids0]) 0))
set_option maxRecDepth 100000 in
theorem rt_any {l : List Nd} (hg : Good l) {B b o c : Nat} : ∀ i, i < l.length → ∀ W, Lies B W b o l →
    Calls Tryz.prog 39 #[.agg #[.slice (some ⟨b, o, none⟩) l.length c], .int .i64 (i : Int)] W (SPost (tx l i) W) := by
  intro i
  induction i using Nat.strongRecOn with
  | ind i ih =>
    intro hi W hC
    have hx := List.getElem?_eq_getElem hi
    generalize l[i] = x at hx
    have hm := List.mem_of_getElem? hx
    obtain ⟨fv, hfl, m⟩ := hC.nd i x hx
    obtain ⟨FA, fc, rfl⟩ : ∃ A c, fv = .slice A x.l.length c := by
      obtain ⟨A, c, e, _⟩ := hfl
      exact ⟨A, c, e⟩
    rw [tx_eq hg.kids hg.k hx]
    refine rtext_any x FA fc (hg.own x hm) (hg.n x hm) i b o l.length c W hi hg.len (Nat.lt_of_lt_of_le hC.hb hC.hB) (hfl.mono hC.hB) m (chOf l (tx l)) (fun k _ t => by have := ch_le hg k t; omega) fun k hk t W2 hW2 => ?_
    have hk2 := hg.kids _ _ hx k hk
    obtain ⟨j, rfl⟩ : ∃ j : Nat, k = (j : Int) := ⟨k.toNat, by omega⟩
    have hjl : j < l.length := by omega
    have hC2 := hC.next (hW2.mono hC.hB)
    have hy := List.getElem?_eq_getElem hjl
    generalize l[j] = y at hy
    obtain ⟨gv, hgl, m'⟩ := hC2.nd j y hy
    obtain ⟨GA, gc, rfl⟩ : ∃ A c, gv = .slice A y.l.length c := by
      obtain ⟨A, c, e, _⟩ := hgl
      exact ⟨A, c, e⟩
    have e : chOf l (tx l) (j : Int) t = bra (tight y.kind y.n) t (tx l j) := by
      unfold chOf
      rw [Int.toNat_natCast, hy]
    rw [e]
    exact at_is y GA y.l.length gc t j b o l.length c W2 (tx l j) (by have := tx_le hg hjl; omega) hjl hg.len (Nat.lt_of_lt_of_le hC2.hb hC2.hB) m' (Lib.hid fun W3 hW3 => ih j (by omega) hjl W3 (hC2.next (hW3.mono hC2.hB)))
set_option maxRecDepth 100000 in
set_option maxHeartbeats 16000000 in
/-- The document's Print. -/
theorem rprint_any (l : List Nd) (v : Value) (w : World) (hv : Nodes w.heap.size w v l) (hS : ∀ x ∈ l, Small x) (hn : ∀ x ∈ l, -9223372036854775808 ≤ x.n ∧ x.n ≤ 9223372036854775807) :
    Calls Tryz.prog 16 #[.agg #[v]] w fun e w' => e = .returned (.tuple #[.string (shown l), .int .i64 (may l)]) ∧ Below w.heap.size w w' := by
  have HX := Lib.hid ((Below.refl w.heap.size w).alloc (Nat.le_refl _) (.cells #[v] 25))
  have HG := Lib.hid (World.alloc_heap_new w (.cells #[v] 25))
  have HM := Lib.hid (rmay_all l v (w.alloc (.cells #[v] 25)) ((hv.below HX.out).mono HX.out.size) hS)
  have HV := Lib.hid hv
  clear hv
  by_cases hm : may l = 0
  · have hg := good_of hm hn
    have h1 := (may_zero hm).1
    obtain ⟨A, c, hvv, hcc, _, h3⟩ := HV.out
    obtain ⟨b, o, rfl, hb, hN⟩ := h3 (by omega)
    have hsh : shown l = tx l (l.length - 1) := by unfold shown; rw [if_pos hm]
    have HND : Hid (NdsAt w.heap.size w b o l) := Lib.hid hN
    have HCA : Hid (∀ W, Below w.heap.size w W → Calls Tryz.prog 39 #[.agg #[.slice (some ⟨b, o, none⟩) l.length c], .int .i64 ((l.length - 1 : Nat) : Int)] W (SPost (shown l) W)) := Lib.hid (fun W h => by rw [hsh]; exact rt_any hg _ (by omega) W ⟨h.size, hb, HND.out.below h hb⟩)
    obtain ⟨N, hN1⟩ : ∃ N, l.length = N := ⟨_, rfl⟩
    rw [hN1] at h1 hcc HCA hsh hvv
    have HVV := Lib.hid hvv
    have hN0 : 1 ≤ N := by omega
    have hN6 : N ≤ 600 := by omega
    rw [show ((N - 1 : Nat) : Int) = (N : Int) - 1 by omega] at HCA
    rw [hm] at HM ⊢
    clear hN hsh hg hm hN1 HV hn h3 h1 hS hcc hvv
    go_enter Tryz.func16, Tryz.ntmps16
    go_wp2_with (first | (go_at_call 39; (with_reducible refine (HCA.out _ H1.out).mono ?_); rintro e w2 ⟨rfl, hb2⟩; have H2 := Lib.hid (H1.out.trans (hb2.mono H1.out.size)); clear hb2) | (go_at_call 22; (with_reducible refine HM.out.mono ?_); rintro e w1 ⟨rfl, hb1⟩; have H1 := Lib.hid (HX.out.trans (hb1.mono HX.out.size)); have G1 := Lib.hid ((hb1.block w.heap.size (Array.getElem?_eq_some_iff.1 HG.out).1).trans HG.out); have q0 := Blk_cell G1.out 0; clear hb1; obtain rfl := HVV.out))
    go_ret2
    exact ⟨rfl, H2.out⟩
  · obtain ⟨m, hmm⟩ : ∃ m, may l = m := ⟨_, rfl⟩
    have hs : shown l = ⟨#[]⟩ := by unfold shown; rw [if_neg hm]
    rw [hmm] at hm HM
    rw [hs, hmm]
    have hne : (m != 0) = true := by simpa using hm
    clear hmm hm hs
    go_enter Tryz.func16, Tryz.ntmps16
    go_wp2_with (go_at_call 22; (with_reducible refine HM.out.mono ?_); rintro e w1 ⟨rfl, hb1⟩; have H1 := Lib.hid (HX.out.trans (hb1.mono HX.out.size)); clear hb1)
    go_ret2
    exact ⟨rfl, H1.out⟩
end Go.Proofs.YtjakeidbajkdcaaGreatDoor.S
