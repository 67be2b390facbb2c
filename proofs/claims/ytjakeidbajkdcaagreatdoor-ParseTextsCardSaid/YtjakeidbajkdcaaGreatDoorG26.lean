/- Joined by program. -/
import Derived.Test.YtjakeidbajkdcaaGreatDoorG23
import Derived.Test.YtjakeidbajkdcaaGreatDoorG25
set_option maxHeartbeats 1000000
namespace Go.Proofs.YtjakeidbajkdcaaGreatDoor.L
open Go.RowKit
def smalls : ByteArray := ⟨#[97, 98, 99, 100, 101, 102, 103, 104, 105, 106, 107, 108, 109, 110, 111, 112, 113, 114, 115, 116, 117, 118, 119, 120, 121, 122, 95]⟩
def digits : ByteArray := ⟨#[48, 49, 50, 51, 52, 53, 54, 55, 56, 57]⟩
def blanks : ByteArray := ⟨#[32, 9, 10]⟩
def isB (n : Nat) : Bool := decide (n = 32 ∨ n = 9 ∨ n = 10)
theorem zpo : ∀ n : Nat, n < 256 -> decide (0 <= Lib.indexByte smalls.data.toList n.toUInt8) = M.begW n := by decide +kernel
theorem zns : ∀ n : Nat, n < 256 -> decide (0 <= Lib.indexByte digits.data.toList n.toUInt8) = M.isD n := by decide +kernel
theorem zo0 : ∀ n : Nat, n < 256 -> decide (0 <= Lib.indexByte blanks.data.toList n.toUInt8) = isB n := by decide +kernel
theorem back8 (c : UInt8) : c.toNat.toUInt8 = c := by simp
theorem zhs {c : UInt8} {b : Bool} (h : M.begW c.toNat = b) (w : World) : Calls Tryz.prog 116 #[.string smalls, .int .u8 (c.toNat : Int)] w fun e w' => e = .returned (.bool b) /\ w = w' :=
 zl4 smalls c b (jj (by have := zpo c.toNat c.toNat_lt; rw [back8] at this; rw [this, h])) w
theorem zdp {c : UInt8} {b : Bool} (h : M.isD c.toNat = b) (w : World) : Calls Tryz.prog 116 #[.string digits, .int .u8 (c.toNat : Int)] w fun e w' => e = .returned (.bool b) /\ w = w' :=
 zl4 digits c b (jj (by have := zns c.toNat c.toNat_lt; rw [back8] at this; rw [this, h])) w
theorem zhi {c : UInt8} {b : Bool} (h : isB c.toNat = b) (w : World) : Calls Tryz.prog 116 #[.string blanks, .int .u8 (c.toNat : Int)] w fun e w' => e = .returned (.bool b) /\ w = w' :=
 zl4 blanks c b (jj (by have := zo0 c.toNat c.toNat_lt; rw [back8] at this; rw [this, h])) w
theorem zoo {c : UInt8} {b : Bool} (h : isSign c = b) (w : World) : Calls Tryz.prog 116 #[.string signs, .int .u8 (c.toNat : Int)] w fun e w' => e = .returned (.bool b) /\ w = w' :=
 zl4 signs c b (jj h) w
theorem z1o {B : Nat} (s x : ByteArray) (hs : s.size <= 140737488351232) (h0 : 1 <= s.size) (hx : s.extract 1 s.size = x) (HX : Hid (x.size <= 140737488351232)) (w : World) (hB : B <= w.heap.size) (HL : Hid (M.wl x = 0)) :
  Calls Tryz.prog 120 #[.string s] w (FP (bad 5) B w) := by
 go_enter Tryz.func120, Tryz.ntmps120
 go_wp2_with (first | (go_at_call 118; refine (zck HL.out HX.out _).mono ?_; rintro e w' ⟨rfl, rfl⟩) | (go_at_call 156; refine (zcm 5 _).mono ?_; rintro e w' ⟨rfl, hb⟩; obtain ⟨hc, hf⟩ := bcell hb))
 exact bodyPost_ret (v := .tuple #[.agg #[.int .i64 0, .string ⟨#[]⟩, .int .i64 0, .int .i64 0], .int .i64 0, .int .i64 5]) (by simp [results, Tryz.results120, go_sem, hc]) rfl ⟨rfl, below4 hB hb (by simp) _ _ _ _⟩
theorem z08 {B : Nat} (s x : ByteArray) (n : Nat) (hs : s.size <= 140737488351232) (h0 : 1 < s.size) (hx : s.extract 1 s.size = x) (HX : Hid (x.size <= 140737488351232)) (w : World) (hB : B <= w.heap.size) (HL : Hid (M.wl x = n))
  (hn0 : ((n : Int) == 0) = false) (HW : Hid (M.begW s[1].toNat = false)) :
  Calls Tryz.prog 120 #[.string s] w (FP (bad 5) B w) := by
 go_enter Tryz.func120, Tryz.ntmps120
 go_wp2_with (first | (go_at_call 118; refine (zck HL.out HX.out _).mono ?_; rintro e w' ⟨rfl, rfl⟩) | (go_at_call 116; refine (zhs HW.out _).mono ?_; rintro e w' ⟨rfl, rfl⟩) | (go_at_call 156; refine (zcm 5 _).mono ?_; rintro e w' ⟨rfl, hb⟩; obtain ⟨hc, hf⟩ := bcell hb))
 exact bodyPost_ret (v := .tuple #[.agg #[.int .i64 0, .string ⟨#[]⟩, .int .i64 0, .int .i64 0], .int .i64 0, .int .i64 5]) (by simp [results, Tryz.results120, go_sem, hc]) rfl ⟨rfl, below4 hB hb (by simp) _ _ _ _⟩
theorem z1z {B : Nat} (s x : ByteArray) (n : Nat) (hs : s.size <= 140737488351232) (h0 : 1 < s.size) (hx : s.extract 1 s.size = x) (HX : Hid (x.size <= 140737488351232)) (w : World) (hB : B <= w.heap.size) (HL : Hid (M.wl x = n))
  (hn0 : ((n : Int) == 0) = false) (HW : Hid (M.begW s[1].toNat = true)) (h20 : 20 < n) :
  Calls Tryz.prog 120 #[.string s] w (FP (bad 7) B w) := by
 go_enter Tryz.func120, Tryz.ntmps120
 go_wp2_with (first | (go_at_call 118; refine (zck HL.out HX.out _).mono ?_; rintro e w' ⟨rfl, rfl⟩) | (go_at_call 116; refine (zhs HW.out _).mono ?_; rintro e w' ⟨rfl, rfl⟩) | (go_at_call 156; refine (zcm 7 _).mono ?_; rintro e w' ⟨rfl, hb⟩; obtain ⟨hc, hf⟩ := bcell hb))
 exact bodyPost_ret (v := .tuple #[.agg #[.int .i64 0, .string ⟨#[]⟩, .int .i64 0, .int .i64 0], .int .i64 0, .int .i64 7]) (by simp [results, Tryz.results120, go_sem, hc]) rfl ⟨rfl, below4 hB hb (by simp) _ _ _ _⟩
theorem z1y {B : Nat} (s x y : ByteArray) (n : Nat) (hs : s.size <= 140737488351232) (h0 : 1 < s.size) (hx : s.extract 1 s.size = x) (HX : Hid (x.size <= 140737488351232)) (hy : s.extract 1 (1 + n) = y) (hns : 1 + n <= s.size) (HY : Hid (y.size <= 281474976710656)) (w : World) (hB : B <= w.heap.size) (HL : Hid (M.wl x = n))
  (hn0 : ((n : Int) == 0) = false) (HW : Hid (M.begW s[1].toNat = true)) (h20 : n <= 20) :
  Calls Tryz.prog 120 #[.string s] w (FP ⟨6, y, 0, 1 + n, 0⟩ B w) := by
 go_enter Tryz.func120, Tryz.ntmps120
 go_wp2_with (first | (go_at_call 118; refine (zck HL.out HX.out _).mono ?_; rintro e w' ⟨rfl, rfl⟩) | (go_at_call 116; refine (zhs HW.out _).mono ?_; rintro e w' ⟨rfl, rfl⟩) | (go_at_call 153; refine (zd4 6 y _ (1 + n) (by omega) HY.out _).mono ?_; rintro e w' ⟨rfl, hb⟩; obtain ⟨hc, hf⟩ := bcell hb))
 exact bodyPost_ret (v := .tuple #[.agg #[.int .i64 6, .string y, .int .i64 0, .int .i64 0], .int .i64 ((1 + n : Nat) : Int), .int .i64 0]) (by simp [results, Tryz.results120, go_sem, hc]) rfl ⟨rfl, below4 hB hb (by simp) _ _ _ _⟩
theorem zvi {B : Nat} (s : ByteArray) (hs : s.size <= 140737488351232) (h0 : 0 < s.size) (w : World) (hB : B <= w.heap.size) :
  Calls Tryz.prog 120 #[.string s] w (FP (varR s) B w) := by
 obtain ⟨x, hx⟩ : ∃ x, s.extract 1 s.size = x := ⟨_, rfl⟩
 have hxs : x.size = s.size - 1 := by rw [<- hx, size_extract]; omega
 have hle := M.zj8 x
 rw [varR, hx]
 by_cases hn : M.wl x = 0
 ·rw [if_pos (Or.inl hn)]
  exact z1o s x hs (by omega) hx (jj (by omega)) w hB (jj hn)
 ·have h1 : 1 < s.size := by omega
  have hx0 : 0 < x.size := by omega
  have hf : M.fst x = s[1].toNat := by
   rw [M.zc5 hx0]
   subst hx
   rw [ByteArray.getElem_extract]
  have hbeg : (M.begW (M.fst x) || M.begT (M.fst x)) = true := by
   by_cases h : (M.begW (M.fst x) || M.begT (M.fst x)) = true
   ·exact h
   ·exact absurd (by rw [M.wl, if_neg (fun z => h z.2)]) hn
  have hn0 : ((M.wl x : Int) == 0) = false := by simpa using hn
  by_cases ht : M.begT (M.fst x) = true
  ·rw [if_pos (Or.inr ht)]
   have hw : M.begW s[1].toNat = false := by
    rw [<- hf]
    cases h : M.begW (M.fst x) with
    | false => rfl
    | true => rw [M.zkq h] at ht; cases ht
   exact z08 s x _ hs h1 hx (jj (by omega)) w hB (jj rfl) hn0 (jj hw)
  ·have ht' : M.begT (M.fst x) = false := by simpa using ht
   have hw : M.begW s[1].toNat = true := by rw [<- hf]; rw [ht', Bool.or_false] at hbeg; exact hbeg
   rw [if_neg (by rintro (h | h); exact hn h; exact ht h)]
   by_cases h20 : 20 < M.wl x
   ·rw [if_pos h20]
    exact z1z s x _ hs h1 hx (jj (by omega)) w hB (jj rfl) hn0 (jj hw) h20
   ·rw [if_neg h20]
    exact z1y s x _ _ hs h1 hx (jj (by omega)) rfl (by omega) (jj (by rw [size_extract]; omega)) w hB (jj rfl) hn0 (jj hw) (by omega)
end Go.Proofs.YtjakeidbajkdcaaGreatDoor.L
