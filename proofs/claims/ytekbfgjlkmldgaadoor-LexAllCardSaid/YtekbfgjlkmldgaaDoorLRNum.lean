/- one, the document's, of digits. -/
import Derived.Test.YtekbfgjlkmldgaaDoorLROne
import Derived.LoopTactic
namespace Go.Proofs.YtekbfgjlkmldgaaDoor.L
open Go.RowKit
set_option maxRecDepth 100000 in
set_option maxHeartbeats 4000000 in
theorem one_nd0 {B : Nat} (s x : ByteArray) (p : Nat) (hp : p ≤ s.size) (hx : s.extract p s.size = x) (h0 : 0 < x.size) (HS : Hid (x.size ≤ 140737488351232)) (w : World) (hB : B ≤ w.heap.size) (HL : Hid (M.wl x = 0)) (HSS : x.size ≤ 140737488351232) (h39 : ((x[0].toNat : Int) == 39) = false) (h48 : (48 : Int) ≤ x[0].toNat) (h57 : (x[0].toNat : Int) ≤ 57) (n : Nat) (HN : Hid (n = 1 + dl x 1)) (hn : n ≤ x.size) (y : ByteArray) (HY : Hid (x.extract 0 n = y)) (v : Int) (HC : Hid (∀ w1, Below B w w1 → B ≤ w1.heap.size → Calls Tryd.prog 23 #[.string y] w1 fun e w' => e = .returned (.tuple #[.int .i64 v, .int .i64 0]) ∧ Below w1.heap.size w1 w')) :
    Calls Tryd.prog 16 #[.string s, .int .i64 (p : Int)] w (EP 4 ⟨#[]⟩ v p n 0 B w) := by
  go_enter Tryd.func16, Tryd.ntmps16
  go_wp2_with (first
    | (go_at_call 21; (with_reducible refine (M.rword_is HL.out HS.out _).mono ?_); rintro e w' ⟨rfl, rfl⟩))
  go_loop [13] (fun i => ∃ k : Nat, 1 ≤ k ∧ k ≤ x.size ∧ i = .int .i64 k ∧ Hid (n = k + dl x k)) (fun i => x.size - (intOf i).toNat)
  case atStart => exact ⟨1, by omega, by omega, rfl, HN⟩
  case round =>
    obtain ⟨k, hk1, hk, rfl, HK⟩ := hrel
    by_cases hlt : k < x.size
    · by_cases ha : 48 ≤ x[k].toNat
      · have ha' : (48 : Int) ≤ x[k].toNat := by omega
        by_cases hb' : x[k].toNat ≤ 57
        · have hb'' : (x[k].toNat : Int) ≤ 57 := by omega
          have hg : M.isD x[k].toNat = true := M.isD_iff.2 ⟨ha, hb'⟩
          have HN' : Hid (n = (k + 1 : Nat) + dl x (k + 1)) := by have := HK.out; rw [dl_go hlt hg] at this; exact Lib.hid (by omega)
          clear hg ha hb'
          go_wp2_with (fail)
          go_round
          case rel => exact ⟨k + 1, by omega, by omega, by go_num, HN'⟩
          case measure => simp [intOf]; omega
        · have hb'' : (57 : Int) < x[k].toNat := by omega
          have hg : M.isD x[k].toNat = false := by simp only [M.isD, decide_eq_false_iff_not]; omega
          have hk2 : n = k := by have := HK.out; rw [dl_stop hlt hg] at this; omega
          subst hk2
          have ht := HY.out
          clear hg ha hb'
          go_wp2_with (go_at_call 23; refine (HC.out _ ((Below.refl _ _).alloc hB _) (by simp; omega)).mono ?_; rintro e w' ⟨rfl, hb⟩; obtain ⟨hc, hf⟩ := bcell hb)
          exact bodyPost_ret (v := .tuple #[.agg #[.int .i64 4, .string ⟨#[]⟩, .int .i64 v, .int .i64 (p : Int)], .int .i64 (n : Int), .int .i64 0]) (by simp [results, Tryd.results16, go_sem, hc]) rfl ⟨rfl, below4 hB hb (by simp) _ _ _ _⟩
      · have ha' : (x[k].toNat : Int) < 48 := by omega
        have hg : M.isD x[k].toNat = false := by simp only [M.isD, decide_eq_false_iff_not]; omega
        have hk2 : n = k := by have := HK.out; rw [dl_stop hlt hg] at this; omega
        subst hk2
        have ht := HY.out
        clear hg ha
        go_wp2_with (go_at_call 23; refine (HC.out _ ((Below.refl _ _).alloc hB _) (by simp; omega)).mono ?_; rintro e w' ⟨rfl, hb⟩; obtain ⟨hc, hf⟩ := bcell hb)
        exact bodyPost_ret (v := .tuple #[.agg #[.int .i64 4, .string ⟨#[]⟩, .int .i64 v, .int .i64 (p : Int)], .int .i64 (n : Int), .int .i64 0]) (by simp [results, Tryd.results16, go_sem, hc]) rfl ⟨rfl, below4 hB hb (by simp) _ _ _ _⟩
    · have hk2 : n = k := by have := HK.out; rw [dl_end (by omega)] at this; omega
      subst hk2
      have ht := HY.out
      go_wp2_with (go_at_call 23; refine (HC.out _ ((Below.refl _ _).alloc hB _) (by simp; omega)).mono ?_; rintro e w' ⟨rfl, hb⟩; obtain ⟨hc, hf⟩ := bcell hb)
      exact bodyPost_ret (v := .tuple #[.agg #[.int .i64 4, .string ⟨#[]⟩, .int .i64 v, .int .i64 (p : Int)], .int .i64 (n : Int), .int .i64 0]) (by simp [results, Tryd.results16, go_sem, hc]) rfl ⟨rfl, below4 hB hb (by simp) _ _ _ _⟩
set_option maxRecDepth 100000 in
set_option maxHeartbeats 4000000 in
theorem one_nd1 {B : Nat} (s x : ByteArray) (p : Nat) (hp : p ≤ s.size) (hx : s.extract p s.size = x) (h0 : 0 < x.size) (HS : Hid (x.size ≤ 140737488351232)) (w : World) (hB : B ≤ w.heap.size) (HL : Hid (M.wl x = 0)) (HSS : x.size ≤ 140737488351232) (h39 : ((x[0].toNat : Int) == 39) = false) (h48 : (48 : Int) ≤ x[0].toNat) (h57 : (x[0].toNat : Int) ≤ 57) (n : Nat) (HN : Hid (n = 1 + dl x 1)) (hn : n ≤ x.size) (y : ByteArray) (HY : Hid (x.extract 0 n = y)) (v : Int) (q : Int) (hq : (q != 0) = true) (HC : Hid (∀ w1, Below B w w1 → B ≤ w1.heap.size → Calls Tryd.prog 23 #[.string y] w1 fun e w' => e = .returned (.tuple #[.int .i64 v, .int .i64 q]) ∧ Below w1.heap.size w1 w')) :
    Calls Tryd.prog 16 #[.string s, .int .i64 (p : Int)] w (EP 0 ⟨#[]⟩ 0 0 0 q B w) := by
  go_enter Tryd.func16, Tryd.ntmps16
  go_wp2_with (first
    | (go_at_call 21; (with_reducible refine (M.rword_is HL.out HS.out _).mono ?_); rintro e w' ⟨rfl, rfl⟩))
  go_loop [13] (fun i => ∃ k : Nat, 1 ≤ k ∧ k ≤ x.size ∧ i = .int .i64 k ∧ Hid (n = k + dl x k)) (fun i => x.size - (intOf i).toNat)
  case atStart => exact ⟨1, by omega, by omega, rfl, HN⟩
  case round =>
    obtain ⟨k, hk1, hk, rfl, HK⟩ := hrel
    by_cases hlt : k < x.size
    · by_cases ha : 48 ≤ x[k].toNat
      · have ha' : (48 : Int) ≤ x[k].toNat := by omega
        by_cases hb' : x[k].toNat ≤ 57
        · have hb'' : (x[k].toNat : Int) ≤ 57 := by omega
          have hg : M.isD x[k].toNat = true := M.isD_iff.2 ⟨ha, hb'⟩
          have HN' : Hid (n = (k + 1 : Nat) + dl x (k + 1)) := by have := HK.out; rw [dl_go hlt hg] at this; exact Lib.hid (by omega)
          clear hg ha hb'
          go_wp2_with (fail)
          go_round
          case rel => exact ⟨k + 1, by omega, by omega, by go_num, HN'⟩
          case measure => simp [intOf]; omega
        · have hb'' : (57 : Int) < x[k].toNat := by omega
          have hg : M.isD x[k].toNat = false := by simp only [M.isD, decide_eq_false_iff_not]; omega
          have hk2 : n = k := by have := HK.out; rw [dl_stop hlt hg] at this; omega
          subst hk2
          have ht := HY.out
          clear hg ha hb'
          go_wp2_with (go_at_call 23; refine (HC.out _ ((Below.refl _ _).alloc hB _) (by simp; omega)).mono ?_; rintro e w' ⟨rfl, hb⟩; obtain ⟨hc, hf⟩ := bcell hb)
          exact bodyPost_ret (v := .tuple #[.agg #[.int .i64 0, .string ⟨#[]⟩, .int .i64 0, .int .i64 0], .int .i64 0, .int .i64 q]) (by simp [results, Tryd.results16, go_sem, hc]) rfl ⟨rfl, below4 hB hb (by simp) _ _ _ _⟩
      · have ha' : (x[k].toNat : Int) < 48 := by omega
        have hg : M.isD x[k].toNat = false := by simp only [M.isD, decide_eq_false_iff_not]; omega
        have hk2 : n = k := by have := HK.out; rw [dl_stop hlt hg] at this; omega
        subst hk2
        have ht := HY.out
        clear hg ha
        go_wp2_with (go_at_call 23; refine (HC.out _ ((Below.refl _ _).alloc hB _) (by simp; omega)).mono ?_; rintro e w' ⟨rfl, hb⟩; obtain ⟨hc, hf⟩ := bcell hb)
        exact bodyPost_ret (v := .tuple #[.agg #[.int .i64 0, .string ⟨#[]⟩, .int .i64 0, .int .i64 0], .int .i64 0, .int .i64 q]) (by simp [results, Tryd.results16, go_sem, hc]) rfl ⟨rfl, below4 hB hb (by simp) _ _ _ _⟩
    · have hk2 : n = k := by have := HK.out; rw [dl_end (by omega)] at this; omega
      subst hk2
      have ht := HY.out
      go_wp2_with (go_at_call 23; refine (HC.out _ ((Below.refl _ _).alloc hB _) (by simp; omega)).mono ?_; rintro e w' ⟨rfl, hb⟩; obtain ⟨hc, hf⟩ := bcell hb)
      exact bodyPost_ret (v := .tuple #[.agg #[.int .i64 0, .string ⟨#[]⟩, .int .i64 0, .int .i64 0], .int .i64 0, .int .i64 q]) (by simp [results, Tryd.results16, go_sem, hc]) rfl ⟨rfl, below4 hB hb (by simp) _ _ _ _⟩
set_option maxRecDepth 100000 in
set_option maxHeartbeats 4000000 in
theorem one_nt0 {B : Nat} (s x : ByteArray) (p : Nat) (hp : p ≤ s.size) (hx : s.extract p s.size = x) (h0 : 0 < x.size) (HS : Hid (x.size ≤ 140737488351232)) (w : World) (hB : B ≤ w.heap.size) (HL : Hid (M.wl x = 0)) (HSS : x.size ≤ 140737488351232) (h39 : ((x[0].toNat : Int) == 39) = false) (h48 : (48 : Int) ≤ x[0].toNat) (h57 : (57 : Int) < x[0].toNat) (h126 : ((x[0].toNat : Int) == 126) = true) (n : Nat) (HN : Hid (n = 1 + dl x 1)) (hn : n ≤ x.size) (y : ByteArray) (HY : Hid (x.extract 0 n = y)) (v : Int) (HC : Hid (∀ w1, Below B w w1 → B ≤ w1.heap.size → Calls Tryd.prog 23 #[.string y] w1 fun e w' => e = .returned (.tuple #[.int .i64 v, .int .i64 0]) ∧ Below w1.heap.size w1 w')) :
    Calls Tryd.prog 16 #[.string s, .int .i64 (p : Int)] w (EP 4 ⟨#[]⟩ v p n 0 B w) := by
  go_enter Tryd.func16, Tryd.ntmps16
  go_wp2_with (first
    | (go_at_call 21; (with_reducible refine (M.rword_is HL.out HS.out _).mono ?_); rintro e w' ⟨rfl, rfl⟩))
  go_loop [13] (fun i => ∃ k : Nat, 1 ≤ k ∧ k ≤ x.size ∧ i = .int .i64 k ∧ Hid (n = k + dl x k)) (fun i => x.size - (intOf i).toNat)
  case atStart => exact ⟨1, by omega, by omega, rfl, HN⟩
  case round =>
    obtain ⟨k, hk1, hk, rfl, HK⟩ := hrel
    by_cases hlt : k < x.size
    · by_cases ha : 48 ≤ x[k].toNat
      · have ha' : (48 : Int) ≤ x[k].toNat := by omega
        by_cases hb' : x[k].toNat ≤ 57
        · have hb'' : (x[k].toNat : Int) ≤ 57 := by omega
          have hg : M.isD x[k].toNat = true := M.isD_iff.2 ⟨ha, hb'⟩
          have HN' : Hid (n = (k + 1 : Nat) + dl x (k + 1)) := by have := HK.out; rw [dl_go hlt hg] at this; exact Lib.hid (by omega)
          clear hg ha hb'
          go_wp2_with (fail)
          go_round
          case rel => exact ⟨k + 1, by omega, by omega, by go_num, HN'⟩
          case measure => simp [intOf]; omega
        · have hb'' : (57 : Int) < x[k].toNat := by omega
          have hg : M.isD x[k].toNat = false := by simp only [M.isD, decide_eq_false_iff_not]; omega
          have hk2 : n = k := by have := HK.out; rw [dl_stop hlt hg] at this; omega
          subst hk2
          have ht := HY.out
          clear hg ha hb'
          go_wp2_with (go_at_call 23; refine (HC.out _ ((Below.refl _ _).alloc hB _) (by simp; omega)).mono ?_; rintro e w' ⟨rfl, hb⟩; obtain ⟨hc, hf⟩ := bcell hb)
          exact bodyPost_ret (v := .tuple #[.agg #[.int .i64 4, .string ⟨#[]⟩, .int .i64 v, .int .i64 (p : Int)], .int .i64 (n : Int), .int .i64 0]) (by simp [results, Tryd.results16, go_sem, hc]) rfl ⟨rfl, below4 hB hb (by simp) _ _ _ _⟩
      · have ha' : (x[k].toNat : Int) < 48 := by omega
        have hg : M.isD x[k].toNat = false := by simp only [M.isD, decide_eq_false_iff_not]; omega
        have hk2 : n = k := by have := HK.out; rw [dl_stop hlt hg] at this; omega
        subst hk2
        have ht := HY.out
        clear hg ha
        go_wp2_with (go_at_call 23; refine (HC.out _ ((Below.refl _ _).alloc hB _) (by simp; omega)).mono ?_; rintro e w' ⟨rfl, hb⟩; obtain ⟨hc, hf⟩ := bcell hb)
        exact bodyPost_ret (v := .tuple #[.agg #[.int .i64 4, .string ⟨#[]⟩, .int .i64 v, .int .i64 (p : Int)], .int .i64 (n : Int), .int .i64 0]) (by simp [results, Tryd.results16, go_sem, hc]) rfl ⟨rfl, below4 hB hb (by simp) _ _ _ _⟩
    · have hk2 : n = k := by have := HK.out; rw [dl_end (by omega)] at this; omega
      subst hk2
      have ht := HY.out
      go_wp2_with (go_at_call 23; refine (HC.out _ ((Below.refl _ _).alloc hB _) (by simp; omega)).mono ?_; rintro e w' ⟨rfl, hb⟩; obtain ⟨hc, hf⟩ := bcell hb)
      exact bodyPost_ret (v := .tuple #[.agg #[.int .i64 4, .string ⟨#[]⟩, .int .i64 v, .int .i64 (p : Int)], .int .i64 (n : Int), .int .i64 0]) (by simp [results, Tryd.results16, go_sem, hc]) rfl ⟨rfl, below4 hB hb (by simp) _ _ _ _⟩
set_option maxRecDepth 100000 in
set_option maxHeartbeats 4000000 in
theorem one_nt1 {B : Nat} (s x : ByteArray) (p : Nat) (hp : p ≤ s.size) (hx : s.extract p s.size = x) (h0 : 0 < x.size) (HS : Hid (x.size ≤ 140737488351232)) (w : World) (hB : B ≤ w.heap.size) (HL : Hid (M.wl x = 0)) (HSS : x.size ≤ 140737488351232) (h39 : ((x[0].toNat : Int) == 39) = false) (h48 : (48 : Int) ≤ x[0].toNat) (h57 : (57 : Int) < x[0].toNat) (h126 : ((x[0].toNat : Int) == 126) = true) (n : Nat) (HN : Hid (n = 1 + dl x 1)) (hn : n ≤ x.size) (y : ByteArray) (HY : Hid (x.extract 0 n = y)) (v : Int) (q : Int) (hq : (q != 0) = true) (HC : Hid (∀ w1, Below B w w1 → B ≤ w1.heap.size → Calls Tryd.prog 23 #[.string y] w1 fun e w' => e = .returned (.tuple #[.int .i64 v, .int .i64 q]) ∧ Below w1.heap.size w1 w')) :
    Calls Tryd.prog 16 #[.string s, .int .i64 (p : Int)] w (EP 0 ⟨#[]⟩ 0 0 0 q B w) := by
  go_enter Tryd.func16, Tryd.ntmps16
  go_wp2_with (first
    | (go_at_call 21; (with_reducible refine (M.rword_is HL.out HS.out _).mono ?_); rintro e w' ⟨rfl, rfl⟩))
  go_loop [13] (fun i => ∃ k : Nat, 1 ≤ k ∧ k ≤ x.size ∧ i = .int .i64 k ∧ Hid (n = k + dl x k)) (fun i => x.size - (intOf i).toNat)
  case atStart => exact ⟨1, by omega, by omega, rfl, HN⟩
  case round =>
    obtain ⟨k, hk1, hk, rfl, HK⟩ := hrel
    by_cases hlt : k < x.size
    · by_cases ha : 48 ≤ x[k].toNat
      · have ha' : (48 : Int) ≤ x[k].toNat := by omega
        by_cases hb' : x[k].toNat ≤ 57
        · have hb'' : (x[k].toNat : Int) ≤ 57 := by omega
          have hg : M.isD x[k].toNat = true := M.isD_iff.2 ⟨ha, hb'⟩
          have HN' : Hid (n = (k + 1 : Nat) + dl x (k + 1)) := by have := HK.out; rw [dl_go hlt hg] at this; exact Lib.hid (by omega)
          clear hg ha hb'
          go_wp2_with (fail)
          go_round
          case rel => exact ⟨k + 1, by omega, by omega, by go_num, HN'⟩
          case measure => simp [intOf]; omega
        · have hb'' : (57 : Int) < x[k].toNat := by omega
          have hg : M.isD x[k].toNat = false := by simp only [M.isD, decide_eq_false_iff_not]; omega
          have hk2 : n = k := by have := HK.out; rw [dl_stop hlt hg] at this; omega
          subst hk2
          have ht := HY.out
          clear hg ha hb'
          go_wp2_with (go_at_call 23; refine (HC.out _ ((Below.refl _ _).alloc hB _) (by simp; omega)).mono ?_; rintro e w' ⟨rfl, hb⟩; obtain ⟨hc, hf⟩ := bcell hb)
          exact bodyPost_ret (v := .tuple #[.agg #[.int .i64 0, .string ⟨#[]⟩, .int .i64 0, .int .i64 0], .int .i64 0, .int .i64 q]) (by simp [results, Tryd.results16, go_sem, hc]) rfl ⟨rfl, below4 hB hb (by simp) _ _ _ _⟩
      · have ha' : (x[k].toNat : Int) < 48 := by omega
        have hg : M.isD x[k].toNat = false := by simp only [M.isD, decide_eq_false_iff_not]; omega
        have hk2 : n = k := by have := HK.out; rw [dl_stop hlt hg] at this; omega
        subst hk2
        have ht := HY.out
        clear hg ha
        go_wp2_with (go_at_call 23; refine (HC.out _ ((Below.refl _ _).alloc hB _) (by simp; omega)).mono ?_; rintro e w' ⟨rfl, hb⟩; obtain ⟨hc, hf⟩ := bcell hb)
        exact bodyPost_ret (v := .tuple #[.agg #[.int .i64 0, .string ⟨#[]⟩, .int .i64 0, .int .i64 0], .int .i64 0, .int .i64 q]) (by simp [results, Tryd.results16, go_sem, hc]) rfl ⟨rfl, below4 hB hb (by simp) _ _ _ _⟩
    · have hk2 : n = k := by have := HK.out; rw [dl_end (by omega)] at this; omega
      subst hk2
      have ht := HY.out
      go_wp2_with (go_at_call 23; refine (HC.out _ ((Below.refl _ _).alloc hB _) (by simp; omega)).mono ?_; rintro e w' ⟨rfl, hb⟩; obtain ⟨hc, hf⟩ := bcell hb)
      exact bodyPost_ret (v := .tuple #[.agg #[.int .i64 0, .string ⟨#[]⟩, .int .i64 0, .int .i64 0], .int .i64 0, .int .i64 q]) (by simp [results, Tryd.results16, go_sem, hc]) rfl ⟨rfl, below4 hB hb (by simp) _ _ _ _⟩
end Go.Proofs.YtekbfgjlkmldgaaDoor.L
