/- Joined by program: SM, SN5, SN6, SN7, SN8, SN9, SP. -/
import Derived.Test.YtjakeidbajkdcaaGreatDoorG38
import Derived.Test.YtjakeidbajkdcaaGreatDoorG10
import Derived.Test.YtjakeidbajkdcaaGreatDoorG27
import Derived.Test.YtjakeidbajkdcaaGreatDoorG13
import Derived.Laws.EntriesVeiled
import Derived.IntWalk
import Derived.Deep.Cut
import Derived.Deep.RegionHeld3
import Derived.Laws.Concat
/- show.Print. -/
namespace Go.Proofs.YtjakeidbajkdcaaGreatDoor.S
open T Go.RowKit Go.Shelf
theorem tight_0 (k n : Int) : 0 ≤ tight k n := by unfold tight; repeat' split <;> first | omega | decide
/-- The text of a tree, none of one that may not be. -/
noncomputable def shown (l : List Nd) : ByteArray := if may l = 0 then tx l (l.length - 1) else ⟨#[]⟩
theorem shown_le {l : List Nd} (hg : Good l) (hm : may l = 0) : (shown l).size ≤ 960000 := by
  unfold shown
  rw [if_pos hm]
  have := (may_zero hm).1
  have := tx_le hg (i := l.length - 1) (by omega)
  omega
set_option maxRecDepth 100000 in
set_option maxHeartbeats 16000000 in
theorem print_any (l : List Nd) (v : Value) (w : World) (hO : Go.Proofs.YtjakeidbajkdcaaGreatDoor.L.On w.heap.size w) (hv : Nodes w.heap.size w v l) (hS : ∀ x ∈ l, Small x) (hn : ∀ x ∈ l, -9223372036854775808 ≤ x.n ∧ x.n ≤ 9223372036854775807) :
    Calls Tryz.prog 15 #[.agg #[v]] w fun e w' => e = .returned (.tuple #[.string (shown l), .int .i64 (may l)]) ∧ Below w.heap.size w w' := by
  have HX := Lib.hid ((Below.refl w.heap.size w).alloc (Nat.le_refl _) (.cells #[v] 25))
  have HG := Lib.hid (World.alloc_heap_new w (.cells #[v] 25))
  have HM := Lib.hid (may_any l v (w.alloc (.cells #[v] 25)) (Kws_mono (hO.1.on HX.out) HX.out.size) ((hv.below HX.out).mono HX.out.size) hS)
  have HO := Lib.hid hO
  have HV := Lib.hid hv
  clear hO hv
  by_cases hm : may l = 0
  · have hg := good_of hm hn
    have h1 := (may_zero hm).1
    obtain ⟨A, c, hvv, hcc, _, h3⟩ := HV.out
    obtain ⟨b, o, rfl, hb, hN⟩ := h3 (by omega)
    have hsh : shown l = chOf l (tx l) ((l.length - 1 : Nat) : Int) 0 := by
      unfold shown chOf
      rw [if_pos hm, Int.toNat_natCast, List.getElem?_eq_getElem (by omega)]
      simp only
      unfold bra
      rw [if_neg]
      have := tight_0 (l[l.length - 1]'(by omega)).kind (l[l.length - 1]'(by omega)).n
      omega
    have HZ : Hid ((shown l).size ≤ 281474976710656) := Lib.hid (by have := shown_le hg hm; omega)
    have HCA : Hid (∀ W p1 p5, Cl W.heap.size W p1 p5 b o l.length c l → Calls Tryz.prog 36 #[.int .i64 ((l.length - 1 : Nat) : Int), .int .i64 0, .pointer (some ⟨p1, 0, none⟩), .pointer (some ⟨p5, 0, none⟩)] W (SPost (shown l) W)) := Lib.hid (fun W p1 p5 h => by rw [hsh]; exact ch_any hg _ (by omega) 0 W h)
    have HCL : Hid (∀ s : ByteArray, s.size ≤ 281474976710656 → ∀ W, Calls Tryz.prog 38 #[.string s] W fun e w' => e = .returned (.string s) ∧ Below W.heap.size W w') := Lib.hid fun s h W => Go.Proofs.YtjakeidbajkdcaaGreatDoor.L.clone_any s h W
    obtain ⟨N, hN1⟩ : ∃ N, l.length = N := ⟨_, rfl⟩
    rw [hN1] at h1 hcc HCA hsh hvv
    have HVV := Lib.hid hvv
    have hN0 : 1 ≤ N := by omega
    have hN6 : N ≤ 600 := by omega
    rw [show ((N - 1 : Nat) : Int) = (N : Int) - 1 by omega] at HCA
    rw [hm] at HM ⊢
    have HND : Hid (NdsAt w.heap.size w b o l) := Lib.hid hN
    have HPRE : Hid (∀ W, Below w.heap.size w W → W.cell? ⟨w.heap.size, 0, none⟩ = some v → w.heap.size < W.heap.size → Cl (W.alloc (.cells #[.func (.func 36) #[] #[.pointer (some ⟨w.heap.size, 0, none⟩), .pointer (some ⟨W.heap.size, 0, none⟩)]] 69)).heap.size (W.alloc (.cells #[.func (.func 36) #[] #[.pointer (some ⟨w.heap.size, 0, none⟩), .pointer (some ⟨W.heap.size, 0, none⟩)]] 69)) w.heap.size W.heap.size b o N c l) := Lib.hid fun W hb1 hc hw => by
      have hb2 := hb1.alloc hb1.size (.cells #[.func (.func 36) #[] #[.pointer (some ⟨w.heap.size, 0, none⟩), .pointer (some ⟨W.heap.size, 0, none⟩)]] 69)
      have hz : (W.alloc (.cells #[.func (.func 36) #[] #[.pointer (some ⟨w.heap.size, 0, none⟩), .pointer (some ⟨W.heap.size, 0, none⟩)]] 69)).heap.size = W.heap.size + 1 := by simp
      refine ⟨Nat.le_refl _, by omega, by omega, by have := hb1.size; omega, ?_, ?_, (HND.out.below hb2 hb).mono hb2.size, (HO.out.on hb2).up hb2.size⟩
      · exact (((Below.refl W.heap.size W).alloc (Nat.le_refl _) _).cell (p := ⟨w.heap.size, 0, none⟩) hw).trans (hc.trans (by rw [HVV.out]))
      · exact Blk_cell (World.alloc_heap_new W _) 0
    clear hN hsh hg hm hN1 HV hn h3 h1 hS hcc hvv
    go_enter Tryz.func15, Tryz.ntmps15
    go_upto_region 6 with (go_at_call 13; refine HM.out.mono ?_; rintro e w1 ⟨rfl, hb1⟩; have H1 := Lib.hid (HX.out.trans (hb1.mono HX.out.size)); have G1 := Lib.hid ((hb1.block w.heap.size (Array.getElem?_eq_some_iff.1 HG.out).1).trans HG.out); have C1 := Lib.hid (HPRE.out w1 H1.out (Blk_cell G1.out 0) (Array.getElem?_eq_some_iff.1 G1.out).1); clear hb1)
    obtain rfl := HVV.out
    have k1 := C1.out.c1
    have k5 := C1.out.c5
    go_wp2_with (first | (go_at_call 38; refine (HCL.out _ HZ.out _).mono ?_; rintro e w3 ⟨rfl, hb3⟩; have H3 := Lib.hid (H2.out.trans (hb3.mono H2.out.size)); clear hb3) | (go_at_call 36; refine (HCA.out _ _ _ C1.out).mono ?_; rintro e w2 ⟨rfl, hb2⟩; have H2 := Lib.hid ((H1.out.alloc H1.out.size _).trans (hb2.mono (H1.out.alloc H1.out.size _).size)); clear hb2))
    go_ret2
    exact ⟨rfl, H3.out⟩
  · obtain ⟨m, hmm⟩ : ∃ m, may l = m := ⟨_, rfl⟩
    have hs : shown l = ⟨#[]⟩ := by unfold shown; rw [if_neg hm]
    rw [hmm] at hm HM
    rw [hs, hmm]
    have hne : (m != 0) = true := by simpa using hm
    clear hmm hm hs
    go_enter Tryz.func15, Tryz.ntmps15
    go_wp2_with (go_at_call 13; refine HM.out.mono ?_; rintro e w1 ⟨rfl, hb1⟩; have H1 := Lib.hid (HX.out.trans (hb1.mono HX.out.size)); clear hb1)
    go_ret2
    exact ⟨rfl, H1.out⟩
end Go.Proofs.YtjakeidbajkdcaaGreatDoor.S
/- The document's Text of a node with children. -/
namespace Go.Proofs.YtjakeidbajkdcaaGreatDoor.S
open T Go.RowKit Go.Shelf
set_option maxRecDepth 100000 in
set_option maxHeartbeats 16000000 in
theorem rtext_5 (a b c n pos : Int) (nm s : ByteArray) (FA : Option Addr) (FL fc i b0 o N c0 : Nat) (w : World) (hi : i < N) (_hN : N ≤ 600) (hb0 : b0 < w.heap.size) (sa : ByteArray) (hM : w.cell? ⟨b0, o + i * 9, none⟩ = some (.int .i64 5) ∧ w.cell? ⟨b0, o + i * 9 + 1, none⟩ = some (.int .i64 a) ∧ w.cell? ⟨b0, o + i * 9 + 2, none⟩ = some (.int .i64 b) ∧ w.cell? ⟨b0, o + i * 9 + 3, none⟩ = some (.int .i64 c) ∧ w.cell? ⟨b0, o + i * 9 + 4, none⟩ = some (.int .i64 n) ∧ w.cell? ⟨b0, o + i * 9 + 5, none⟩ = some (.string nm) ∧ w.cell? ⟨b0, o + i * 9 + 6, none⟩ = some (.string s) ∧ w.cell? ⟨b0, o + i * 9 + 7, none⟩ = some (.slice FA FL fc) ∧ w.cell? ⟨b0, o + i * 9 + 8, none⟩ = some (.int .i64 pos)) (hnm : nm.size ≤ 20) (ha : sa.size ≤ 1000000000) (HA : Hid (∀ W, Below w.heap.size w W → Calls Tryz.prog 73 #[.agg #[.slice (some ⟨b0, o, none⟩) N c0], .int .i64 a, .int .i64 0] W (SPost sa W))) :
    Calls Tryz.prog 39 #[.agg #[.slice (some ⟨b0, o, none⟩) N c0], .int .i64 (i : Int)] w (SPost (((⟨#[102, 117, 110, 32]⟩ ++ nm) ++ ⟨#[32, 45, 62, 32]⟩) ++ sa) w) := by
  obtain ⟨m0, m1, m2, m3, m4, m5, m6, m7, m8⟩ := hM
  have hX0 := (Below.refl w.heap.size w).alloc (Nat.le_refl _) (.cells #[.slice (some ⟨b0, o, none⟩) N c0] 25)
  have HX := Lib.hid (hX0.alloc hX0.size (.cells #[.int .i64 5, .int .i64 a, .int .i64 b, .int .i64 c, .int .i64 n, .string nm, .string s, .slice FA FL fc, .int .i64 pos] 37))
  have HG : Hid (((w.alloc (.cells #[.slice (some ⟨b0, o, none⟩) N c0] 25)).alloc (.cells #[.int .i64 5, .int .i64 a, .int .i64 b, .int .i64 c, .int .i64 n, .string nm, .string s, .slice FA FL fc, .int .i64 pos] 37)).heap[w.heap.size + 1]? = some (.cells #[.int .i64 5, .int .i64 a, .int .i64 b, .int .i64 c, .int .i64 n, .string nm, .string s, .slice FA FL fc, .int .i64 pos] 37 (0, 0))) := Lib.hid (by have := World.alloc_heap_new (w.alloc (.cells #[.slice (some ⟨b0, o, none⟩) N c0] 25)) (.cells #[.int .i64 5, .int .i64 a, .int .i64 b, .int .i64 c, .int .i64 n, .string nm, .string s, .slice FA FL fc, .int .i64 pos] 37); simpa using this)
  have HE : Hid (((w.alloc (.cells #[.slice (some ⟨b0, o, none⟩) N c0] 25)).alloc (.cells #[.int .i64 5, .int .i64 a, .int .i64 b, .int .i64 c, .int .i64 n, .string nm, .string s, .slice FA FL fc, .int .i64 pos] 37)).heap[w.heap.size]? = some (.cells #[.slice (some ⟨b0, o, none⟩) N c0] 25 (0, 0))) := Lib.hid (nextAt (World.alloc_heap_new w _))
  have lo : ∀ k, (w.alloc (.cells #[.slice (some ⟨b0, o, none⟩) N c0] 25)).cell? ⟨b0, k, none⟩ = w.cell? ⟨b0, k, none⟩ := fun k => hX0.cell (p := ⟨b0, k, none⟩) hb0
  rw [← lo] at m0 m1 m2 m3 m4 m5 m6 m7 m8
  clear hX0 lo
  have z0 : ∀ W : World, (Op.stringOp .add ⟨#[102, 117, 110, 32]⟩ nm).run Tryz.prog W = .ok (.string (⟨#[102, 117, 110, 32]⟩ ++ nm)) W := fun W => run_string_add_sum W _ _ (Nat.le_trans (Nat.add_le_add (Nat.le_refl 4) hnm) (by decide))
  have z1 : ∀ W : World, (Op.stringOp .add (⟨#[102, 117, 110, 32]⟩ ++ nm) ⟨#[32, 45, 62, 32]⟩).run Tryz.prog W = .ok (.string ((⟨#[102, 117, 110, 32]⟩ ++ nm) ++ ⟨#[32, 45, 62, 32]⟩)) W := fun W => run_string_add_sum W _ _ (Nat.le_trans (Nat.add_le_add (cat_le (Nat.le_refl 4) hnm) (Nat.le_refl 4)) (by decide))
  have z2 : ∀ W : World, (Op.stringOp .add ((⟨#[102, 117, 110, 32]⟩ ++ nm) ++ ⟨#[32, 45, 62, 32]⟩) sa).run Tryz.prog W = .ok (.string (((⟨#[102, 117, 110, 32]⟩ ++ nm) ++ ⟨#[32, 45, 62, 32]⟩) ++ sa)) W := fun W => run_string_add_sum W _ _ (Nat.le_trans (Nat.add_le_add (cat_le (cat_le (Nat.le_refl 4) hnm) (Nat.le_refl 4)) ha) (by decide))
  go_enter Tryz.func39, Tryz.ntmps39
  go_wp2
  have HD := Lib.hid HX.out.drew
  have ye := Blk_cell HE.out 0
  have y1 := Blk_cell HG.out 1
  have y5 := Blk_cell HG.out 5
  go_region_held3 (fun W => W.cell? ⟨w.heap.size, 0, none⟩ = some (.slice (some ⟨b0, o, none⟩) N c0) ∧ W.cell? ⟨w.heap.size + 1, 1, none⟩ = some (.int .i64 a) ∧ W.cell? ⟨w.heap.size + 1, 5, none⟩ = some (.string nm)) (first | exact ⟨ye, y1, y5⟩ | exact ⟨u1e, u11, u15⟩) (first | (go_at_call 73; (with_reducible refine (HA.out _ HD.out).mono ?_); rintro e w1 ⟨rfl, hb⟩; have H1 := Lib.hid (HD.out.trans (hb.mono HD.out.size)); have g := (hb.block (w.heap.size + 1) (Array.getElem?_eq_some_iff.1 HG.out).1).trans HG.out; have ge := (hb.block w.heap.size (Array.getElem?_eq_some_iff.1 HE.out).1).trans HE.out; have u1e := Blk_cell ge 0; have u11 := Blk_cell g 1; have u15 := Blk_cell g 5; have G1 := Lib.hid g; have E1 := Lib.hid ge; clear hb g ge))
  all_goals
    go_wp2
    go_ret
    exact ⟨rfl, H1.out⟩
end Go.Proofs.YtjakeidbajkdcaaGreatDoor.S
/- The document's Text of a node with children. -/
namespace Go.Proofs.YtjakeidbajkdcaaGreatDoor.S
open T Go.RowKit Go.Shelf
set_option maxRecDepth 100000 in
set_option maxHeartbeats 16000000 in
theorem rtext_6 (a b c n pos : Int) (nm s : ByteArray) (FA : Option Addr) (FL fc i b0 o N c0 : Nat) (w : World) (hi : i < N) (_hN : N ≤ 600) (hb0 : b0 < w.heap.size) (sa : ByteArray) (sb : ByteArray) (hM : w.cell? ⟨b0, o + i * 9, none⟩ = some (.int .i64 6) ∧ w.cell? ⟨b0, o + i * 9 + 1, none⟩ = some (.int .i64 a) ∧ w.cell? ⟨b0, o + i * 9 + 2, none⟩ = some (.int .i64 b) ∧ w.cell? ⟨b0, o + i * 9 + 3, none⟩ = some (.int .i64 c) ∧ w.cell? ⟨b0, o + i * 9 + 4, none⟩ = some (.int .i64 n) ∧ w.cell? ⟨b0, o + i * 9 + 5, none⟩ = some (.string nm) ∧ w.cell? ⟨b0, o + i * 9 + 6, none⟩ = some (.string s) ∧ w.cell? ⟨b0, o + i * 9 + 7, none⟩ = some (.slice FA FL fc) ∧ w.cell? ⟨b0, o + i * 9 + 8, none⟩ = some (.int .i64 pos)) (ha : sa.size ≤ 1000000000) (HA : Hid (∀ W, Below w.heap.size w W → Calls Tryz.prog 73 #[.agg #[.slice (some ⟨b0, o, none⟩) N c0], .int .i64 a, .int .i64 5] W (SPost sa W))) (hb : sb.size ≤ 1000000000) (HB : Hid (∀ W, Below w.heap.size w W → Calls Tryz.prog 73 #[.agg #[.slice (some ⟨b0, o, none⟩) N c0], .int .i64 b, .int .i64 6] W (SPost sb W))) :
    Calls Tryz.prog 39 #[.agg #[.slice (some ⟨b0, o, none⟩) N c0], .int .i64 (i : Int)] w (SPost ((sa ++ ⟨#[32]⟩) ++ sb) w) := by
  obtain ⟨m0, m1, m2, m3, m4, m5, m6, m7, m8⟩ := hM
  have hX0 := (Below.refl w.heap.size w).alloc (Nat.le_refl _) (.cells #[.slice (some ⟨b0, o, none⟩) N c0] 25)
  have HX := Lib.hid (hX0.alloc hX0.size (.cells #[.int .i64 6, .int .i64 a, .int .i64 b, .int .i64 c, .int .i64 n, .string nm, .string s, .slice FA FL fc, .int .i64 pos] 37))
  have HG : Hid (((w.alloc (.cells #[.slice (some ⟨b0, o, none⟩) N c0] 25)).alloc (.cells #[.int .i64 6, .int .i64 a, .int .i64 b, .int .i64 c, .int .i64 n, .string nm, .string s, .slice FA FL fc, .int .i64 pos] 37)).heap[w.heap.size + 1]? = some (.cells #[.int .i64 6, .int .i64 a, .int .i64 b, .int .i64 c, .int .i64 n, .string nm, .string s, .slice FA FL fc, .int .i64 pos] 37 (0, 0))) := Lib.hid (by have := World.alloc_heap_new (w.alloc (.cells #[.slice (some ⟨b0, o, none⟩) N c0] 25)) (.cells #[.int .i64 6, .int .i64 a, .int .i64 b, .int .i64 c, .int .i64 n, .string nm, .string s, .slice FA FL fc, .int .i64 pos] 37); simpa using this)
  have HE : Hid (((w.alloc (.cells #[.slice (some ⟨b0, o, none⟩) N c0] 25)).alloc (.cells #[.int .i64 6, .int .i64 a, .int .i64 b, .int .i64 c, .int .i64 n, .string nm, .string s, .slice FA FL fc, .int .i64 pos] 37)).heap[w.heap.size]? = some (.cells #[.slice (some ⟨b0, o, none⟩) N c0] 25 (0, 0))) := Lib.hid (nextAt (World.alloc_heap_new w _))
  have lo : ∀ k, (w.alloc (.cells #[.slice (some ⟨b0, o, none⟩) N c0] 25)).cell? ⟨b0, k, none⟩ = w.cell? ⟨b0, k, none⟩ := fun k => hX0.cell (p := ⟨b0, k, none⟩) hb0
  rw [← lo] at m0 m1 m2 m3 m4 m5 m6 m7 m8
  clear hX0 lo
  have z0 : ∀ W : World, (Op.stringOp .add sa ⟨#[32]⟩).run Tryz.prog W = .ok (.string (sa ++ ⟨#[32]⟩)) W := fun W => run_string_add_sum W _ _ (Nat.le_trans (Nat.add_le_add ha (Nat.le_refl 1)) (by decide))
  have z1 : ∀ W : World, (Op.stringOp .add (sa ++ ⟨#[32]⟩) sb).run Tryz.prog W = .ok (.string ((sa ++ ⟨#[32]⟩) ++ sb)) W := fun W => run_string_add_sum W _ _ (Nat.le_trans (Nat.add_le_add (cat_le ha (Nat.le_refl 1)) hb) (by decide))
  go_enter Tryz.func39, Tryz.ntmps39
  go_wp2
  have HD := Lib.hid HX.out.drew
  have ye := Blk_cell HE.out 0
  have y1 := Blk_cell HG.out 1
  have y2 := Blk_cell HG.out 2
  go_region_held3 (fun W => W.cell? ⟨w.heap.size, 0, none⟩ = some (.slice (some ⟨b0, o, none⟩) N c0) ∧ W.cell? ⟨w.heap.size + 1, 1, none⟩ = some (.int .i64 a) ∧ W.cell? ⟨w.heap.size + 1, 2, none⟩ = some (.int .i64 b)) (first | exact ⟨ye, y1, y2⟩ | exact ⟨u1e, u11, u12⟩ | exact ⟨u2e, u21, u22⟩) (first | (go_at_call 73; (with_reducible refine (HB.out _ H1.out).mono ?_); rintro e w2 ⟨rfl, hb⟩; have H2 := Lib.hid (H1.out.trans (hb.mono H1.out.size)); have g := (hb.block (w.heap.size + 1) (Array.getElem?_eq_some_iff.1 G1.out).1).trans G1.out; have ge := (hb.block w.heap.size (Array.getElem?_eq_some_iff.1 E1.out).1).trans E1.out; have u2e := Blk_cell ge 0; have u21 := Blk_cell g 1; have u22 := Blk_cell g 2; have G2 := Lib.hid g; have E2 := Lib.hid ge; clear hb g ge) | (go_at_call 73; (with_reducible refine (HA.out _ HD.out).mono ?_); rintro e w1 ⟨rfl, hb⟩; have H1 := Lib.hid (HD.out.trans (hb.mono HD.out.size)); have g := (hb.block (w.heap.size + 1) (Array.getElem?_eq_some_iff.1 HG.out).1).trans HG.out; have ge := (hb.block w.heap.size (Array.getElem?_eq_some_iff.1 HE.out).1).trans HE.out; have u1e := Blk_cell ge 0; have u11 := Blk_cell g 1; have u12 := Blk_cell g 2; have G1 := Lib.hid g; have E1 := Lib.hid ge; clear hb g ge))
  all_goals
    go_wp2
    go_ret
    exact ⟨rfl, H2.out⟩
end Go.Proofs.YtjakeidbajkdcaaGreatDoor.S
/- The document's Text of a node with children. -/
namespace Go.Proofs.YtjakeidbajkdcaaGreatDoor.S
open T Go.RowKit Go.Shelf
set_option maxRecDepth 100000 in
set_option maxHeartbeats 16000000 in
theorem rtext_7 (a b c n pos : Int) (nm s : ByteArray) (FA : Option Addr) (FL fc i b0 o N c0 : Nat) (w : World) (hi : i < N) (_hN : N ≤ 600) (hb0 : b0 < w.heap.size) (sa : ByteArray) (sb : ByteArray) (hM : w.cell? ⟨b0, o + i * 9, none⟩ = some (.int .i64 7) ∧ w.cell? ⟨b0, o + i * 9 + 1, none⟩ = some (.int .i64 a) ∧ w.cell? ⟨b0, o + i * 9 + 2, none⟩ = some (.int .i64 b) ∧ w.cell? ⟨b0, o + i * 9 + 3, none⟩ = some (.int .i64 c) ∧ w.cell? ⟨b0, o + i * 9 + 4, none⟩ = some (.int .i64 n) ∧ w.cell? ⟨b0, o + i * 9 + 5, none⟩ = some (.string nm) ∧ w.cell? ⟨b0, o + i * 9 + 6, none⟩ = some (.string s) ∧ w.cell? ⟨b0, o + i * 9 + 7, none⟩ = some (.slice FA FL fc) ∧ w.cell? ⟨b0, o + i * 9 + 8, none⟩ = some (.int .i64 pos)) (hnm : nm.size ≤ 20) (ha : sa.size ≤ 1000000000) (HA : Hid (∀ W, Below w.heap.size w W → Calls Tryz.prog 73 #[.agg #[.slice (some ⟨b0, o, none⟩) N c0], .int .i64 a, .int .i64 0] W (SPost sa W))) (hb : sb.size ≤ 1000000000) (HB : Hid (∀ W, Below w.heap.size w W → Calls Tryz.prog 73 #[.agg #[.slice (some ⟨b0, o, none⟩) N c0], .int .i64 b, .int .i64 0] W (SPost sb W))) :
    Calls Tryz.prog 39 #[.agg #[.slice (some ⟨b0, o, none⟩) N c0], .int .i64 (i : Int)] w (SPost (((((⟨#[108, 101, 116, 32]⟩ ++ nm) ++ ⟨#[32, 61, 32]⟩) ++ sa) ++ ⟨#[32, 105, 110, 32]⟩) ++ sb) w) := by
  obtain ⟨m0, m1, m2, m3, m4, m5, m6, m7, m8⟩ := hM
  have hX0 := (Below.refl w.heap.size w).alloc (Nat.le_refl _) (.cells #[.slice (some ⟨b0, o, none⟩) N c0] 25)
  have HX := Lib.hid (hX0.alloc hX0.size (.cells #[.int .i64 7, .int .i64 a, .int .i64 b, .int .i64 c, .int .i64 n, .string nm, .string s, .slice FA FL fc, .int .i64 pos] 37))
  have HG : Hid (((w.alloc (.cells #[.slice (some ⟨b0, o, none⟩) N c0] 25)).alloc (.cells #[.int .i64 7, .int .i64 a, .int .i64 b, .int .i64 c, .int .i64 n, .string nm, .string s, .slice FA FL fc, .int .i64 pos] 37)).heap[w.heap.size + 1]? = some (.cells #[.int .i64 7, .int .i64 a, .int .i64 b, .int .i64 c, .int .i64 n, .string nm, .string s, .slice FA FL fc, .int .i64 pos] 37 (0, 0))) := Lib.hid (by have := World.alloc_heap_new (w.alloc (.cells #[.slice (some ⟨b0, o, none⟩) N c0] 25)) (.cells #[.int .i64 7, .int .i64 a, .int .i64 b, .int .i64 c, .int .i64 n, .string nm, .string s, .slice FA FL fc, .int .i64 pos] 37); simpa using this)
  have HE : Hid (((w.alloc (.cells #[.slice (some ⟨b0, o, none⟩) N c0] 25)).alloc (.cells #[.int .i64 7, .int .i64 a, .int .i64 b, .int .i64 c, .int .i64 n, .string nm, .string s, .slice FA FL fc, .int .i64 pos] 37)).heap[w.heap.size]? = some (.cells #[.slice (some ⟨b0, o, none⟩) N c0] 25 (0, 0))) := Lib.hid (nextAt (World.alloc_heap_new w _))
  have lo : ∀ k, (w.alloc (.cells #[.slice (some ⟨b0, o, none⟩) N c0] 25)).cell? ⟨b0, k, none⟩ = w.cell? ⟨b0, k, none⟩ := fun k => hX0.cell (p := ⟨b0, k, none⟩) hb0
  rw [← lo] at m0 m1 m2 m3 m4 m5 m6 m7 m8
  clear hX0 lo
  have z0 : ∀ W : World, (Op.stringOp .add ⟨#[108, 101, 116, 32]⟩ nm).run Tryz.prog W = .ok (.string (⟨#[108, 101, 116, 32]⟩ ++ nm)) W := fun W => run_string_add_sum W _ _ (Nat.le_trans (Nat.add_le_add (Nat.le_refl 4) hnm) (by decide))
  have z1 : ∀ W : World, (Op.stringOp .add (⟨#[108, 101, 116, 32]⟩ ++ nm) ⟨#[32, 61, 32]⟩).run Tryz.prog W = .ok (.string ((⟨#[108, 101, 116, 32]⟩ ++ nm) ++ ⟨#[32, 61, 32]⟩)) W := fun W => run_string_add_sum W _ _ (Nat.le_trans (Nat.add_le_add (cat_le (Nat.le_refl 4) hnm) (Nat.le_refl 3)) (by decide))
  have z2 : ∀ W : World, (Op.stringOp .add ((⟨#[108, 101, 116, 32]⟩ ++ nm) ++ ⟨#[32, 61, 32]⟩) sa).run Tryz.prog W = .ok (.string (((⟨#[108, 101, 116, 32]⟩ ++ nm) ++ ⟨#[32, 61, 32]⟩) ++ sa)) W := fun W => run_string_add_sum W _ _ (Nat.le_trans (Nat.add_le_add (cat_le (cat_le (Nat.le_refl 4) hnm) (Nat.le_refl 3)) ha) (by decide))
  have z3 : ∀ W : World, (Op.stringOp .add (((⟨#[108, 101, 116, 32]⟩ ++ nm) ++ ⟨#[32, 61, 32]⟩) ++ sa) ⟨#[32, 105, 110, 32]⟩).run Tryz.prog W = .ok (.string ((((⟨#[108, 101, 116, 32]⟩ ++ nm) ++ ⟨#[32, 61, 32]⟩) ++ sa) ++ ⟨#[32, 105, 110, 32]⟩)) W := fun W => run_string_add_sum W _ _ (Nat.le_trans (Nat.add_le_add (cat_le (cat_le (cat_le (Nat.le_refl 4) hnm) (Nat.le_refl 3)) ha) (Nat.le_refl 4)) (by decide))
  have z4 : ∀ W : World, (Op.stringOp .add ((((⟨#[108, 101, 116, 32]⟩ ++ nm) ++ ⟨#[32, 61, 32]⟩) ++ sa) ++ ⟨#[32, 105, 110, 32]⟩) sb).run Tryz.prog W = .ok (.string (((((⟨#[108, 101, 116, 32]⟩ ++ nm) ++ ⟨#[32, 61, 32]⟩) ++ sa) ++ ⟨#[32, 105, 110, 32]⟩) ++ sb)) W := fun W => run_string_add_sum W _ _ (Nat.le_trans (Nat.add_le_add (cat_le (cat_le (cat_le (cat_le (Nat.le_refl 4) hnm) (Nat.le_refl 3)) ha) (Nat.le_refl 4)) hb) (by decide))
  go_enter Tryz.func39, Tryz.ntmps39
  go_wp2
  have HD := Lib.hid HX.out.drew
  have ye := Blk_cell HE.out 0
  have y1 := Blk_cell HG.out 1
  have y2 := Blk_cell HG.out 2
  have y5 := Blk_cell HG.out 5
  go_region_held3 (fun W => W.cell? ⟨w.heap.size, 0, none⟩ = some (.slice (some ⟨b0, o, none⟩) N c0) ∧ W.cell? ⟨w.heap.size + 1, 1, none⟩ = some (.int .i64 a) ∧ W.cell? ⟨w.heap.size + 1, 2, none⟩ = some (.int .i64 b) ∧ W.cell? ⟨w.heap.size + 1, 5, none⟩ = some (.string nm)) (first | exact ⟨ye, y1, y2, y5⟩ | exact ⟨u1e, u11, u12, u15⟩ | exact ⟨u2e, u21, u22, u25⟩) (first | (go_at_call 73; (with_reducible refine (HB.out _ H1.out).mono ?_); rintro e w2 ⟨rfl, hb⟩; have H2 := Lib.hid (H1.out.trans (hb.mono H1.out.size)); have g := (hb.block (w.heap.size + 1) (Array.getElem?_eq_some_iff.1 G1.out).1).trans G1.out; have ge := (hb.block w.heap.size (Array.getElem?_eq_some_iff.1 E1.out).1).trans E1.out; have u2e := Blk_cell ge 0; have u21 := Blk_cell g 1; have u22 := Blk_cell g 2; have u25 := Blk_cell g 5; have G2 := Lib.hid g; have E2 := Lib.hid ge; clear hb g ge) | (go_at_call 73; (with_reducible refine (HA.out _ HD.out).mono ?_); rintro e w1 ⟨rfl, hb⟩; have H1 := Lib.hid (HD.out.trans (hb.mono HD.out.size)); have g := (hb.block (w.heap.size + 1) (Array.getElem?_eq_some_iff.1 HG.out).1).trans HG.out; have ge := (hb.block w.heap.size (Array.getElem?_eq_some_iff.1 HE.out).1).trans HE.out; have u1e := Blk_cell ge 0; have u11 := Blk_cell g 1; have u12 := Blk_cell g 2; have u15 := Blk_cell g 5; have G1 := Lib.hid g; have E1 := Lib.hid ge; clear hb g ge))
  all_goals
    go_wp2
    go_ret
    exact ⟨rfl, H2.out⟩
end Go.Proofs.YtjakeidbajkdcaaGreatDoor.S
/- The document's Text of a node with children. -/
namespace Go.Proofs.YtjakeidbajkdcaaGreatDoor.S
open T Go.RowKit Go.Shelf
set_option maxRecDepth 100000 in
set_option maxHeartbeats 16000000 in
theorem rtext_8 (a b c n pos : Int) (nm s : ByteArray) (FA : Option Addr) (FL fc i b0 o N c0 : Nat) (w : World) (hi : i < N) (_hN : N ≤ 600) (hb0 : b0 < w.heap.size) (sa : ByteArray) (sb : ByteArray) (hM : w.cell? ⟨b0, o + i * 9, none⟩ = some (.int .i64 8) ∧ w.cell? ⟨b0, o + i * 9 + 1, none⟩ = some (.int .i64 a) ∧ w.cell? ⟨b0, o + i * 9 + 2, none⟩ = some (.int .i64 b) ∧ w.cell? ⟨b0, o + i * 9 + 3, none⟩ = some (.int .i64 c) ∧ w.cell? ⟨b0, o + i * 9 + 4, none⟩ = some (.int .i64 n) ∧ w.cell? ⟨b0, o + i * 9 + 5, none⟩ = some (.string nm) ∧ w.cell? ⟨b0, o + i * 9 + 6, none⟩ = some (.string s) ∧ w.cell? ⟨b0, o + i * 9 + 7, none⟩ = some (.slice FA FL fc) ∧ w.cell? ⟨b0, o + i * 9 + 8, none⟩ = some (.int .i64 pos)) (hnm : nm.size ≤ 20) (ha : sa.size ≤ 1000000000) (HA : Hid (∀ W, Below w.heap.size w W → Calls Tryz.prog 73 #[.agg #[.slice (some ⟨b0, o, none⟩) N c0], .int .i64 a, .int .i64 0] W (SPost sa W))) (hb : sb.size ≤ 1000000000) (HB : Hid (∀ W, Below w.heap.size w W → Calls Tryz.prog 73 #[.agg #[.slice (some ⟨b0, o, none⟩) N c0], .int .i64 b, .int .i64 0] W (SPost sb W))) :
    Calls Tryz.prog 39 #[.agg #[.slice (some ⟨b0, o, none⟩) N c0], .int .i64 (i : Int)] w (SPost (((((⟨#[108, 101, 116, 32, 114, 101, 99, 32]⟩ ++ nm) ++ ⟨#[32, 61, 32]⟩) ++ sa) ++ ⟨#[32, 105, 110, 32]⟩) ++ sb) w) := by
  obtain ⟨m0, m1, m2, m3, m4, m5, m6, m7, m8⟩ := hM
  have hX0 := (Below.refl w.heap.size w).alloc (Nat.le_refl _) (.cells #[.slice (some ⟨b0, o, none⟩) N c0] 25)
  have HX := Lib.hid (hX0.alloc hX0.size (.cells #[.int .i64 8, .int .i64 a, .int .i64 b, .int .i64 c, .int .i64 n, .string nm, .string s, .slice FA FL fc, .int .i64 pos] 37))
  have HG : Hid (((w.alloc (.cells #[.slice (some ⟨b0, o, none⟩) N c0] 25)).alloc (.cells #[.int .i64 8, .int .i64 a, .int .i64 b, .int .i64 c, .int .i64 n, .string nm, .string s, .slice FA FL fc, .int .i64 pos] 37)).heap[w.heap.size + 1]? = some (.cells #[.int .i64 8, .int .i64 a, .int .i64 b, .int .i64 c, .int .i64 n, .string nm, .string s, .slice FA FL fc, .int .i64 pos] 37 (0, 0))) := Lib.hid (by have := World.alloc_heap_new (w.alloc (.cells #[.slice (some ⟨b0, o, none⟩) N c0] 25)) (.cells #[.int .i64 8, .int .i64 a, .int .i64 b, .int .i64 c, .int .i64 n, .string nm, .string s, .slice FA FL fc, .int .i64 pos] 37); simpa using this)
  have HE : Hid (((w.alloc (.cells #[.slice (some ⟨b0, o, none⟩) N c0] 25)).alloc (.cells #[.int .i64 8, .int .i64 a, .int .i64 b, .int .i64 c, .int .i64 n, .string nm, .string s, .slice FA FL fc, .int .i64 pos] 37)).heap[w.heap.size]? = some (.cells #[.slice (some ⟨b0, o, none⟩) N c0] 25 (0, 0))) := Lib.hid (nextAt (World.alloc_heap_new w _))
  have lo : ∀ k, (w.alloc (.cells #[.slice (some ⟨b0, o, none⟩) N c0] 25)).cell? ⟨b0, k, none⟩ = w.cell? ⟨b0, k, none⟩ := fun k => hX0.cell (p := ⟨b0, k, none⟩) hb0
  rw [← lo] at m0 m1 m2 m3 m4 m5 m6 m7 m8
  clear hX0 lo
  have z0 : ∀ W : World, (Op.stringOp .add ⟨#[108, 101, 116, 32, 114, 101, 99, 32]⟩ nm).run Tryz.prog W = .ok (.string (⟨#[108, 101, 116, 32, 114, 101, 99, 32]⟩ ++ nm)) W := fun W => run_string_add_sum W _ _ (Nat.le_trans (Nat.add_le_add (Nat.le_refl 8) hnm) (by decide))
  have z1 : ∀ W : World, (Op.stringOp .add (⟨#[108, 101, 116, 32, 114, 101, 99, 32]⟩ ++ nm) ⟨#[32, 61, 32]⟩).run Tryz.prog W = .ok (.string ((⟨#[108, 101, 116, 32, 114, 101, 99, 32]⟩ ++ nm) ++ ⟨#[32, 61, 32]⟩)) W := fun W => run_string_add_sum W _ _ (Nat.le_trans (Nat.add_le_add (cat_le (Nat.le_refl 8) hnm) (Nat.le_refl 3)) (by decide))
  have z2 : ∀ W : World, (Op.stringOp .add ((⟨#[108, 101, 116, 32, 114, 101, 99, 32]⟩ ++ nm) ++ ⟨#[32, 61, 32]⟩) sa).run Tryz.prog W = .ok (.string (((⟨#[108, 101, 116, 32, 114, 101, 99, 32]⟩ ++ nm) ++ ⟨#[32, 61, 32]⟩) ++ sa)) W := fun W => run_string_add_sum W _ _ (Nat.le_trans (Nat.add_le_add (cat_le (cat_le (Nat.le_refl 8) hnm) (Nat.le_refl 3)) ha) (by decide))
  have z3 : ∀ W : World, (Op.stringOp .add (((⟨#[108, 101, 116, 32, 114, 101, 99, 32]⟩ ++ nm) ++ ⟨#[32, 61, 32]⟩) ++ sa) ⟨#[32, 105, 110, 32]⟩).run Tryz.prog W = .ok (.string ((((⟨#[108, 101, 116, 32, 114, 101, 99, 32]⟩ ++ nm) ++ ⟨#[32, 61, 32]⟩) ++ sa) ++ ⟨#[32, 105, 110, 32]⟩)) W := fun W => run_string_add_sum W _ _ (Nat.le_trans (Nat.add_le_add (cat_le (cat_le (cat_le (Nat.le_refl 8) hnm) (Nat.le_refl 3)) ha) (Nat.le_refl 4)) (by decide))
  have z4 : ∀ W : World, (Op.stringOp .add ((((⟨#[108, 101, 116, 32, 114, 101, 99, 32]⟩ ++ nm) ++ ⟨#[32, 61, 32]⟩) ++ sa) ++ ⟨#[32, 105, 110, 32]⟩) sb).run Tryz.prog W = .ok (.string (((((⟨#[108, 101, 116, 32, 114, 101, 99, 32]⟩ ++ nm) ++ ⟨#[32, 61, 32]⟩) ++ sa) ++ ⟨#[32, 105, 110, 32]⟩) ++ sb)) W := fun W => run_string_add_sum W _ _ (Nat.le_trans (Nat.add_le_add (cat_le (cat_le (cat_le (cat_le (Nat.le_refl 8) hnm) (Nat.le_refl 3)) ha) (Nat.le_refl 4)) hb) (by decide))
  go_enter Tryz.func39, Tryz.ntmps39
  go_wp2
  have HD := Lib.hid HX.out.drew
  have ye := Blk_cell HE.out 0
  have y1 := Blk_cell HG.out 1
  have y2 := Blk_cell HG.out 2
  have y5 := Blk_cell HG.out 5
  go_region_held3 (fun W => W.cell? ⟨w.heap.size, 0, none⟩ = some (.slice (some ⟨b0, o, none⟩) N c0) ∧ W.cell? ⟨w.heap.size + 1, 1, none⟩ = some (.int .i64 a) ∧ W.cell? ⟨w.heap.size + 1, 2, none⟩ = some (.int .i64 b) ∧ W.cell? ⟨w.heap.size + 1, 5, none⟩ = some (.string nm)) (first | exact ⟨ye, y1, y2, y5⟩ | exact ⟨u1e, u11, u12, u15⟩ | exact ⟨u2e, u21, u22, u25⟩) (first | (go_at_call 73; (with_reducible refine (HB.out _ H1.out).mono ?_); rintro e w2 ⟨rfl, hb⟩; have H2 := Lib.hid (H1.out.trans (hb.mono H1.out.size)); have g := (hb.block (w.heap.size + 1) (Array.getElem?_eq_some_iff.1 G1.out).1).trans G1.out; have ge := (hb.block w.heap.size (Array.getElem?_eq_some_iff.1 E1.out).1).trans E1.out; have u2e := Blk_cell ge 0; have u21 := Blk_cell g 1; have u22 := Blk_cell g 2; have u25 := Blk_cell g 5; have G2 := Lib.hid g; have E2 := Lib.hid ge; clear hb g ge) | (go_at_call 73; (with_reducible refine (HA.out _ HD.out).mono ?_); rintro e w1 ⟨rfl, hb⟩; have H1 := Lib.hid (HD.out.trans (hb.mono HD.out.size)); have g := (hb.block (w.heap.size + 1) (Array.getElem?_eq_some_iff.1 HG.out).1).trans HG.out; have ge := (hb.block w.heap.size (Array.getElem?_eq_some_iff.1 HE.out).1).trans HE.out; have u1e := Blk_cell ge 0; have u11 := Blk_cell g 1; have u12 := Blk_cell g 2; have u15 := Blk_cell g 5; have G1 := Lib.hid g; have E1 := Lib.hid ge; clear hb g ge))
  all_goals
    go_wp2
    go_ret
    exact ⟨rfl, H2.out⟩
end Go.Proofs.YtjakeidbajkdcaaGreatDoor.S
/- The document's Text of a node with children. -/
namespace Go.Proofs.YtjakeidbajkdcaaGreatDoor.S
open T Go.RowKit Go.Shelf
set_option maxRecDepth 100000 in
set_option maxHeartbeats 16000000 in
theorem rtext_9 (a b c n pos : Int) (nm s : ByteArray) (FA : Option Addr) (FL fc i b0 o N c0 : Nat) (w : World) (hi : i < N) (_hN : N ≤ 600) (hb0 : b0 < w.heap.size) (sa : ByteArray) (sb : ByteArray) (sc : ByteArray) (hM : w.cell? ⟨b0, o + i * 9, none⟩ = some (.int .i64 9) ∧ w.cell? ⟨b0, o + i * 9 + 1, none⟩ = some (.int .i64 a) ∧ w.cell? ⟨b0, o + i * 9 + 2, none⟩ = some (.int .i64 b) ∧ w.cell? ⟨b0, o + i * 9 + 3, none⟩ = some (.int .i64 c) ∧ w.cell? ⟨b0, o + i * 9 + 4, none⟩ = some (.int .i64 n) ∧ w.cell? ⟨b0, o + i * 9 + 5, none⟩ = some (.string nm) ∧ w.cell? ⟨b0, o + i * 9 + 6, none⟩ = some (.string s) ∧ w.cell? ⟨b0, o + i * 9 + 7, none⟩ = some (.slice FA FL fc) ∧ w.cell? ⟨b0, o + i * 9 + 8, none⟩ = some (.int .i64 pos)) (ha : sa.size ≤ 1000000000) (HA : Hid (∀ W, Below w.heap.size w W → Calls Tryz.prog 73 #[.agg #[.slice (some ⟨b0, o, none⟩) N c0], .int .i64 a, .int .i64 0] W (SPost sa W))) (hb : sb.size ≤ 1000000000) (HB : Hid (∀ W, Below w.heap.size w W → Calls Tryz.prog 73 #[.agg #[.slice (some ⟨b0, o, none⟩) N c0], .int .i64 b, .int .i64 0] W (SPost sb W))) (hc : sc.size ≤ 1000000000) (HC : Hid (∀ W, Below w.heap.size w W → Calls Tryz.prog 73 #[.agg #[.slice (some ⟨b0, o, none⟩) N c0], .int .i64 c, .int .i64 0] W (SPost sc W))) :
    Calls Tryz.prog 39 #[.agg #[.slice (some ⟨b0, o, none⟩) N c0], .int .i64 (i : Int)] w (SPost (((((⟨#[105, 102, 32]⟩ ++ sa) ++ ⟨#[32, 116, 104, 101, 110, 32]⟩) ++ sb) ++ ⟨#[32, 101, 108, 115, 101, 32]⟩) ++ sc) w) := by
  obtain ⟨m0, m1, m2, m3, m4, m5, m6, m7, m8⟩ := hM
  have hX0 := (Below.refl w.heap.size w).alloc (Nat.le_refl _) (.cells #[.slice (some ⟨b0, o, none⟩) N c0] 25)
  have HX := Lib.hid (hX0.alloc hX0.size (.cells #[.int .i64 9, .int .i64 a, .int .i64 b, .int .i64 c, .int .i64 n, .string nm, .string s, .slice FA FL fc, .int .i64 pos] 37))
  have HG : Hid (((w.alloc (.cells #[.slice (some ⟨b0, o, none⟩) N c0] 25)).alloc (.cells #[.int .i64 9, .int .i64 a, .int .i64 b, .int .i64 c, .int .i64 n, .string nm, .string s, .slice FA FL fc, .int .i64 pos] 37)).heap[w.heap.size + 1]? = some (.cells #[.int .i64 9, .int .i64 a, .int .i64 b, .int .i64 c, .int .i64 n, .string nm, .string s, .slice FA FL fc, .int .i64 pos] 37 (0, 0))) := Lib.hid (by have := World.alloc_heap_new (w.alloc (.cells #[.slice (some ⟨b0, o, none⟩) N c0] 25)) (.cells #[.int .i64 9, .int .i64 a, .int .i64 b, .int .i64 c, .int .i64 n, .string nm, .string s, .slice FA FL fc, .int .i64 pos] 37); simpa using this)
  have HE : Hid (((w.alloc (.cells #[.slice (some ⟨b0, o, none⟩) N c0] 25)).alloc (.cells #[.int .i64 9, .int .i64 a, .int .i64 b, .int .i64 c, .int .i64 n, .string nm, .string s, .slice FA FL fc, .int .i64 pos] 37)).heap[w.heap.size]? = some (.cells #[.slice (some ⟨b0, o, none⟩) N c0] 25 (0, 0))) := Lib.hid (nextAt (World.alloc_heap_new w _))
  have lo : ∀ k, (w.alloc (.cells #[.slice (some ⟨b0, o, none⟩) N c0] 25)).cell? ⟨b0, k, none⟩ = w.cell? ⟨b0, k, none⟩ := fun k => hX0.cell (p := ⟨b0, k, none⟩) hb0
  rw [← lo] at m0 m1 m2 m3 m4 m5 m6 m7 m8
  clear hX0 lo
  have z0 : ∀ W : World, (Op.stringOp .add ⟨#[105, 102, 32]⟩ sa).run Tryz.prog W = .ok (.string (⟨#[105, 102, 32]⟩ ++ sa)) W := fun W => run_string_add_sum W _ _ (Nat.le_trans (Nat.add_le_add (Nat.le_refl 3) ha) (by decide))
  have z1 : ∀ W : World, (Op.stringOp .add (⟨#[105, 102, 32]⟩ ++ sa) ⟨#[32, 116, 104, 101, 110, 32]⟩).run Tryz.prog W = .ok (.string ((⟨#[105, 102, 32]⟩ ++ sa) ++ ⟨#[32, 116, 104, 101, 110, 32]⟩)) W := fun W => run_string_add_sum W _ _ (Nat.le_trans (Nat.add_le_add (cat_le (Nat.le_refl 3) ha) (Nat.le_refl 6)) (by decide))
  have z2 : ∀ W : World, (Op.stringOp .add ((⟨#[105, 102, 32]⟩ ++ sa) ++ ⟨#[32, 116, 104, 101, 110, 32]⟩) sb).run Tryz.prog W = .ok (.string (((⟨#[105, 102, 32]⟩ ++ sa) ++ ⟨#[32, 116, 104, 101, 110, 32]⟩) ++ sb)) W := fun W => run_string_add_sum W _ _ (Nat.le_trans (Nat.add_le_add (cat_le (cat_le (Nat.le_refl 3) ha) (Nat.le_refl 6)) hb) (by decide))
  have z3 : ∀ W : World, (Op.stringOp .add (((⟨#[105, 102, 32]⟩ ++ sa) ++ ⟨#[32, 116, 104, 101, 110, 32]⟩) ++ sb) ⟨#[32, 101, 108, 115, 101, 32]⟩).run Tryz.prog W = .ok (.string ((((⟨#[105, 102, 32]⟩ ++ sa) ++ ⟨#[32, 116, 104, 101, 110, 32]⟩) ++ sb) ++ ⟨#[32, 101, 108, 115, 101, 32]⟩)) W := fun W => run_string_add_sum W _ _ (Nat.le_trans (Nat.add_le_add (cat_le (cat_le (cat_le (Nat.le_refl 3) ha) (Nat.le_refl 6)) hb) (Nat.le_refl 6)) (by decide))
  have z4 : ∀ W : World, (Op.stringOp .add ((((⟨#[105, 102, 32]⟩ ++ sa) ++ ⟨#[32, 116, 104, 101, 110, 32]⟩) ++ sb) ++ ⟨#[32, 101, 108, 115, 101, 32]⟩) sc).run Tryz.prog W = .ok (.string (((((⟨#[105, 102, 32]⟩ ++ sa) ++ ⟨#[32, 116, 104, 101, 110, 32]⟩) ++ sb) ++ ⟨#[32, 101, 108, 115, 101, 32]⟩) ++ sc)) W := fun W => run_string_add_sum W _ _ (Nat.le_trans (Nat.add_le_add (cat_le (cat_le (cat_le (cat_le (Nat.le_refl 3) ha) (Nat.le_refl 6)) hb) (Nat.le_refl 6)) hc) (by decide))
  go_enter Tryz.func39, Tryz.ntmps39
  go_wp2
  have HD := Lib.hid HX.out.drew
  have ye := Blk_cell HE.out 0
  have y1 := Blk_cell HG.out 1
  have y2 := Blk_cell HG.out 2
  have y3 := Blk_cell HG.out 3
  go_region_held3 (fun W => W.cell? ⟨w.heap.size, 0, none⟩ = some (.slice (some ⟨b0, o, none⟩) N c0) ∧ W.cell? ⟨w.heap.size + 1, 1, none⟩ = some (.int .i64 a) ∧ W.cell? ⟨w.heap.size + 1, 2, none⟩ = some (.int .i64 b) ∧ W.cell? ⟨w.heap.size + 1, 3, none⟩ = some (.int .i64 c)) (first | exact ⟨ye, y1, y2, y3⟩ | exact ⟨u1e, u11, u12, u13⟩ | exact ⟨u2e, u21, u22, u23⟩ | exact ⟨u3e, u31, u32, u33⟩) (first | (go_at_call 73; (with_reducible refine (HC.out _ H2.out).mono ?_); rintro e w3 ⟨rfl, hb⟩; have H3 := Lib.hid (H2.out.trans (hb.mono H2.out.size)); have g := (hb.block (w.heap.size + 1) (Array.getElem?_eq_some_iff.1 G2.out).1).trans G2.out; have ge := (hb.block w.heap.size (Array.getElem?_eq_some_iff.1 E2.out).1).trans E2.out; have u3e := Blk_cell ge 0; have u31 := Blk_cell g 1; have u32 := Blk_cell g 2; have u33 := Blk_cell g 3; have G3 := Lib.hid g; have E3 := Lib.hid ge; clear hb g ge) | (go_at_call 73; (with_reducible refine (HB.out _ H1.out).mono ?_); rintro e w2 ⟨rfl, hb⟩; have H2 := Lib.hid (H1.out.trans (hb.mono H1.out.size)); have g := (hb.block (w.heap.size + 1) (Array.getElem?_eq_some_iff.1 G1.out).1).trans G1.out; have ge := (hb.block w.heap.size (Array.getElem?_eq_some_iff.1 E1.out).1).trans E1.out; have u2e := Blk_cell ge 0; have u21 := Blk_cell g 1; have u22 := Blk_cell g 2; have u23 := Blk_cell g 3; have G2 := Lib.hid g; have E2 := Lib.hid ge; clear hb g ge) | (go_at_call 73; (with_reducible refine (HA.out _ HD.out).mono ?_); rintro e w1 ⟨rfl, hb⟩; have H1 := Lib.hid (HD.out.trans (hb.mono HD.out.size)); have g := (hb.block (w.heap.size + 1) (Array.getElem?_eq_some_iff.1 HG.out).1).trans HG.out; have ge := (hb.block w.heap.size (Array.getElem?_eq_some_iff.1 HE.out).1).trans HE.out; have u1e := Blk_cell ge 0; have u11 := Blk_cell g 1; have u12 := Blk_cell g 2; have u13 := Blk_cell g 3; have G1 := Lib.hid g; have E1 := Lib.hid ge; clear hb g ge))
  all_goals
    go_wp2
    go_ret
    exact ⟨rfl, H3.out⟩
end Go.Proofs.YtjakeidbajkdcaaGreatDoor.S
/- Joined texts, one more at a time. -/
namespace Go.Proofs.YtjakeidbajkdcaaGreatDoor.S
open T Go.RowKit Go.Shelf
theorem mk_app (a b : List UInt8) : (⟨(a ++ b).toArray⟩ : ByteArray) = ⟨a.toArray⟩ ++ ⟨b.toArray⟩ := by
  apply ByteArray.ext
  simp [ByteArray.data_append]
theorem mk_of (a : ByteArray) : (⟨a.data.toList.toArray⟩ : ByteArray) = a := by
  apply ByteArray.ext
  simp
theorem joinB_nil (sep : List UInt8) : joinB sep [] = ⟨#[]⟩ := rfl
theorem joinB_one (sep : List UInt8) (x : ByteArray) : joinB sep [x] = x := by
  unfold joinB
  rw [List.map_cons, List.map_nil, Lib.join_one, mk_of]
theorem joinB_snoc (sep : List UInt8) (x y : ByteArray) (xs : List ByteArray) : joinB sep ((x :: xs) ++ [y]) = (joinB sep (x :: xs) ++ ⟨sep.toArray⟩) ++ y := by
  unfold joinB
  have e : Lib.join (((x :: xs) ++ [y]).map (·.data.toList)) sep = (Lib.join ((x :: xs).map (·.data.toList)) sep ++ sep) ++ y.data.toList := by
    rw [List.map_append, List.map_cons, List.cons_append, Lib.join_cons, Lib.join_cons, List.map_cons, List.map_nil]
    unfold Lib.joinTail
    simp
  rw [e, mk_app, mk_app, mk_of]
theorem acc_nil (s0 : ByteArray) (sep : List UInt8) : s0 ++ joinB sep [] = s0 := by rw [joinB_nil]; exact ByteArray.append_empty
theorem acc_one (s0 : ByteArray) (sep : List UInt8) (xs : List ByteArray) (y : ByteArray) (h : xs = []) : s0 ++ joinB sep (xs ++ [y]) = (s0 ++ joinB sep xs) ++ y := by
  subst h
  rw [acc_nil, List.nil_append, joinB_one]
theorem acc_more (s0 : ByteArray) (sep : List UInt8) (xs : List ByteArray) (y : ByteArray) (h : xs ≠ []) : s0 ++ joinB sep (xs ++ [y]) = ((s0 ++ joinB sep xs) ++ ⟨sep.toArray⟩) ++ y := by
  cases xs with
  | nil => exact absurd rfl h
  | cons x xs => rw [joinB_snoc, ByteArray.append_assoc, ByteArray.append_assoc, ByteArray.append_assoc]
end Go.Proofs.YtjakeidbajkdcaaGreatDoor.S
