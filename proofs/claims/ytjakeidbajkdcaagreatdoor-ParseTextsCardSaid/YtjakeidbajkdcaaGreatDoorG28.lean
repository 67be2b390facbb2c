/- Joined by program. -/
import Derived.Test.YtjakeidbajkdcaaGreatDoorG26
import Derived.Test.YtjakeidbajkdcaaGreatDoorG27
import Derived.LoopTactic
set_option maxHeartbeats 2000000
namespace Go.Proofs.YtjakeidbajkdcaaGreatDoor.L
open Go.RowKit
theorem zky {s p : List UInt8} (h : Lib.hasPrefix s p = true) : p.length <= s.length := by
 unfold Lib.hasPrefix at h; exact (List.isPrefixOf_iff_prefix.1 h).length_le
theorem zx0 {B : Nat} (s y : ByteArray) (h2 : 2 <= s.size) (hy : s.extract 0 2 = y) (HY : Hid (y.size <= 281474976710656)) (w : World) (hB : B <= w.heap.size) (h1 : Lib.hasPrefix s.data.toList [45, 62] = true) :
  Calls Tryz.prog 123 #[.string s] w (FP ⟨7, y, 0, 2, 0⟩ B w) := by
 go_enter Tryz.func123, Tryz.ntmps123
 go_wp2_with (first | (go_at_call 159; refine (Tryz.strings_HasPrefix _ _ _).mono ?_; rintro e w' ⟨rfl, rfl⟩) | (go_at_call 153; refine (zd4 7 y _ 2 (by omega) HY.out _).mono ?_; rintro e w' ⟨rfl, hb⟩; obtain ⟨hc, hf⟩ := bcell hb))
 exact bodyPost_ret (v := .tuple #[.agg #[.int .i64 7, .string y, .int .i64 0, .int .i64 0], .int .i64 ((2 : Nat) : Int), .int .i64 0]) (by simp [results, Tryz.results123, go_sem, hc]) rfl ⟨rfl, below4 hB hb (by simp) _ _ _ _⟩
theorem zv9 {B : Nat} (s y : ByteArray) (h2 : 2 <= s.size) (hy : s.extract 0 2 = y) (HY : Hid (y.size <= 281474976710656)) (w : World) (hB : B <= w.heap.size) (h1 : Lib.hasPrefix s.data.toList [45, 62] = false) (h1' : Lib.hasPrefix s.data.toList [61, 61] = true) :
  Calls Tryz.prog 123 #[.string s] w (FP ⟨7, y, 0, 2, 0⟩ B w) := by
 go_enter Tryz.func123, Tryz.ntmps123
 go_wp2_with (first | (go_at_call 159; refine (Tryz.strings_HasPrefix _ _ _).mono ?_; rintro e w' ⟨rfl, rfl⟩) | (go_at_call 153; refine (zd4 7 y _ 2 (by omega) HY.out _).mono ?_; rintro e w' ⟨rfl, hb⟩; obtain ⟨hc, hf⟩ := bcell hb))
 exact bodyPost_ret (v := .tuple #[.agg #[.int .i64 7, .string y, .int .i64 0, .int .i64 0], .int .i64 ((2 : Nat) : Int), .int .i64 0]) (by simp [results, Tryz.results123, go_sem, hc]) rfl ⟨rfl, below4 hB hb (by simp) _ _ _ _⟩
theorem zzb {B : Nat} (s y : ByteArray) (h2 : 0 < s.size) (hy : s.extract 0 1 = y) (HY : Hid (y.size <= 281474976710656)) (w : World) (hB : B <= w.heap.size) (h1 : Lib.hasPrefix s.data.toList [45, 62] = false) (h1' : Lib.hasPrefix s.data.toList [61, 61] = false) (HS : Hid (isSign s[0] = true)) :
  Calls Tryz.prog 123 #[.string s] w (FP ⟨7, y, 0, 1, 0⟩ B w) := by
 go_enter Tryz.func123, Tryz.ntmps123
 go_wp2_with (first | (go_at_call 159; refine (Tryz.strings_HasPrefix _ _ _).mono ?_; rintro e w' ⟨rfl, rfl⟩) | (go_at_call 116; refine (zoo HS.out _).mono ?_; rintro e w' ⟨rfl, rfl⟩) | (go_at_call 153; refine (zd4 7 y _ 1 (by omega) HY.out _).mono ?_; rintro e w' ⟨rfl, hb⟩; obtain ⟨hc, hf⟩ := bcell hb))
 exact bodyPost_ret (v := .tuple #[.agg #[.int .i64 7, .string y, .int .i64 0, .int .i64 0], .int .i64 ((1 : Nat) : Int), .int .i64 0]) (by simp [results, Tryz.results123, go_sem, hc]) rfl ⟨rfl, below4 hB hb (by simp) _ _ _ _⟩
theorem z0b {B : Nat} (s : ByteArray) (h2 : 0 < s.size) (w : World) (hB : B <= w.heap.size) (h1 : Lib.hasPrefix s.data.toList [45, 62] = false) (h1' : Lib.hasPrefix s.data.toList [61, 61] = false) (HS : Hid (isSign s[0] = false)) :
  Calls Tryz.prog 123 #[.string s] w (FP (bad 5) B w) := by
 go_enter Tryz.func123, Tryz.ntmps123
 go_wp2_with (first | (go_at_call 159; refine (Tryz.strings_HasPrefix _ _ _).mono ?_; rintro e w' ⟨rfl, rfl⟩) | (go_at_call 116; refine (zoo HS.out _).mono ?_; rintro e w' ⟨rfl, rfl⟩) | (go_at_call 156; refine (zcm 5 _).mono ?_; rintro e w' ⟨rfl, hb⟩; obtain ⟨hc, hf⟩ := bcell hb))
 exact bodyPost_ret (v := .tuple #[.agg #[.int .i64 0, .string ⟨#[]⟩, .int .i64 0, .int .i64 0], .int .i64 0, .int .i64 5]) (by simp [results, Tryz.results123, go_sem, hc]) rfl ⟨rfl, below4 hB hb (by simp) _ _ _ _⟩
theorem zfz {s : ByteArray} (h : 0 < s.size) : s.data.toList.headD 0 = s[0] := by
 have := M.zal s 0 h
 rw [List.drop_zero] at this
 rw [this]; rfl
theorem zhr {B : Nat} (s : ByteArray) (hs : s.size <= 140737488351232) (h0 : 0 < s.size) (w : World) (hB : B <= w.heap.size) :
  Calls Tryz.prog 123 #[.string s] w (FP (signR s) B w) := by
 cases h1 : Lib.hasPrefix s.data.toList [45, 62] with
 | true =>
  have h2 := zky h1
  rw [M.size_len] at h2
  have e : sg s = 2 := by rw [sg, two, h1]; rfl
  rw [signR, e, if_neg (by omega)]
  exact zx0 s _ h2 rfl (jj (by rw [size_extract]; omega)) w hB h1
 | false =>
  cases h1' : Lib.hasPrefix s.data.toList [61, 61] with
  | true =>
   have h2 := zky h1'
   rw [M.size_len] at h2
   have e : sg s = 2 := by rw [sg, two, h1, h1']; rfl
   rw [signR, e, if_neg (by omega)]
   exact zv9 s _ h2 rfl (jj (by rw [size_extract]; omega)) w hB h1 h1'
  | false =>
   cases hS : isSign s[0] with
   | true =>
    have e : sg s = 1 := by rw [sg, two, h1, h1', zfz h0, hS]; rfl
    rw [signR, e, if_neg (by omega)]
    exact zzb s _ h0 rfl (jj (by rw [size_extract]; omega)) w hB h1 h1' (jj hS)
   | false =>
    have e : sg s = 0 := by rw [sg, two, h1, h1', zfz h0, hS]; rfl
    rw [signR, e, if_pos rfl]
    exact z0b s h0 w hB h1 h1' (jj hS)
theorem zbx {B : Nat} (s T : ByteArray) (n : Nat) (HT : Hid (T.size <= 281474976710656)) (w : World) (hB : B <= w.heap.size)
  (HC : Hid (∀ w1, Calls Tryz.prog 158 #[.string s] w1 fun e w' => e = .returned (.tuple #[.string T, .int .i64 (n : Int), .int .i64 0]) /\ Below w1.heap.size w1 w')) :
  Calls Tryz.prog 122 #[.string s] w (FP ⟨5, T, 0, n, 0⟩ B w) := by
 go_enter Tryz.func122, Tryz.ntmps122
 go_wp2_with (first | (go_at_call 158; refine (HC.out _).mono ?_; rintro e w1 ⟨rfl, hb1⟩) | (go_at_call 153; refine (zd4 5 T _ n rfl HT.out _).mono ?_; rintro e w' ⟨rfl, hb2⟩; have hb := hb1.trans (hb2.mono hb1.size); obtain ⟨hc, hf⟩ := bcell hb))
 exact bodyPost_ret (v := .tuple #[.agg #[.int .i64 5, .string T, .int .i64 0, .int .i64 0], .int .i64 (n : Int), .int .i64 0]) (by simp [results, Tryz.results122, go_sem, hc]) rfl ⟨rfl, below4 hB hb (by simp) _ _ _ _⟩
theorem zvl {B : Nat} (s T : ByteArray) (n : Nat) (x : Int) (hx : (x != 0) = true) (w : World) (hB : B <= w.heap.size)
  (HC : Hid (∀ w1, Calls Tryz.prog 158 #[.string s] w1 fun e w' => e = .returned (.tuple #[.string T, .int .i64 (n : Int), .int .i64 x]) /\ Below w1.heap.size w1 w')) :
  Calls Tryz.prog 122 #[.string s] w (FP (bad x) B w) := by
 go_enter Tryz.func122, Tryz.ntmps122
 go_wp2_with (first | (go_at_call 158; refine (HC.out _).mono ?_; rintro e w1 ⟨rfl, hb1⟩) | (go_at_call 156; refine (zcm x _).mono ?_; rintro e w' ⟨rfl, hb2⟩; have hb := hb1.trans (hb2.mono hb1.size); obtain ⟨hc, hf⟩ := bcell hb))
 exact bodyPost_ret (v := .tuple #[.agg #[.int .i64 0, .string ⟨#[]⟩, .int .i64 0, .int .i64 0], .int .i64 0, .int .i64 x]) (by simp [results, Tryz.results122, go_sem, hc]) rfl ⟨rfl, below4 hB hb (by simp) _ _ _ _⟩
theorem zzj (o : Option (List UInt8 × Nat)) : (Q.tT o).length <= 200 := by
 unfold Q.tT
 split
 ·simp
 ·split
  ·simp
  ·omega
theorem zb3 {B : Nat} (s : ByteArray) (hs : s.size <= 140737488351232) (w : World) (hB : B <= w.heap.size) :
  Calls Tryz.prog 122 #[.string s] w (FP (strR s) B w) := by
 have HC : Hid (∀ w1 : World, Calls Tryz.prog 158 #[.string s] w1 (Q.TkPost (Q.tq s.data.toList) w1.heap.size w1)) := jj fun w1 => Q.zls s (by omega) w1 (lrf _)
 have hl := zzj (Q.tq s.data.toList)
 rw [strR]
 unfold Q.TkPost Q.TkEnd at HC
 generalize Q.tT (Q.tq s.data.toList) = T at *
 generalize Q.tN (Q.tq s.data.toList) = n at *
 generalize Q.tE (Q.tq s.data.toList) = x at *
 by_cases hx : x = 0
 ·subst hx
  rw [if_pos rfl]
  exact zbx s _ n (jj (by rw [<- M.size_len]; simp; omega)) w hB HC
 ·rw [if_neg hx]
  exact zvl s _ n x (by simpa using hx) w hB HC
open Go.RowKit
theorem zop {B : Nat} (s t : ByteArray) (n : Nat) (v : Int) (hs : s.size <= 140737488351232) (h0 : 1 <= s.size) (HN : Hid (n = 1 + dl s 1)) (hn : n <= s.size) (HTT : Hid (s.extract 0 n = t)) (w : World) (hB : B <= w.heap.size)
  (HC : Hid (∀ w1, Below B w w1 -> B <= w1.heap.size -> Calls Tryz.prog 157 #[.string t] w1 fun e w' => e = .returned (.tuple #[.int .i64 v, .int .i64 0]) /\ Below w1.heap.size w1 w')) :
  Calls Tryz.prog 121 #[.string s] w (FP ⟨4, ⟨#[]⟩, v, n, 0⟩ B w) := by
 go_enter Tryz.func121, Tryz.ntmps121
 go_wp2
 go_loop [5] (fun i => ∃ k : Nat, 1 <= k /\ k <= s.size /\ i = .int .i64 k /\ Hid (n = k + dl s k)) (fun i => s.size - (intOf i).toNat)
 case atStart => exact ⟨1, by omega, by omega, rfl, HN⟩
 case round =>
  obtain ⟨k, hk1, hk, rfl, HK⟩ := hrel
  by_cases hlt : k < s.size
  ·cases hg : M.isD s[k].toNat with
   | true =>
    have HN' : Hid (n = (k + 1 : Nat) + dl s (k + 1)) := by have := HK.out; rw [zmc hlt hg] at this; exact jj (by omega)
    have HG := jj hg
    clear hg
    go_wp2_with (go_at_call 116; refine (zdp HG.out _).mono ?_; rintro e w' ⟨rfl, rfl⟩)
    go_round
    case rel => exact ⟨k + 1, by omega, by omega, by go_num, HN'⟩
    case measure => simp [intOf]; omega
   | false =>
    have hk2 : n = k := by have := HK.out; rw [zc6 hlt hg] at this; omega
    subst hk2
    have ht := HTT.out
    have HG := jj hg
    clear hg
    go_wp2_with (first | (go_at_call 116; refine (zdp HG.out _).mono ?_; rintro e w' ⟨rfl, rfl⟩) | (go_at_call 157; refine (HC.out _ ((br _ _).alloc hB _) (by simp; omega)).mono ?_; rintro e w' ⟨rfl, hb⟩; obtain ⟨hc, hf⟩ := bcell hb))
    exact bodyPost_ret (v := .tuple #[.agg #[.int .i64 4, .string ⟨#[]⟩, .int .i64 v, .int .i64 0], .int .i64 (n : Int), .int .i64 0]) (by simp [results, Tryz.results121, go_sem, hc]) rfl ⟨rfl, below4 hB hb (by simp) _ _ _ _⟩
  ·have hk2 : n = k := by have := HK.out; rw [zha (by omega)] at this; omega
   subst hk2
   have ht := HTT.out
   go_wp2_with (first | (go_at_call 157; refine (HC.out _ ((br _ _).alloc hB _) (by simp; omega)).mono ?_; rintro e w' ⟨rfl, hb⟩; obtain ⟨hc, hf⟩ := bcell hb))
   exact bodyPost_ret (v := .tuple #[.agg #[.int .i64 4, .string ⟨#[]⟩, .int .i64 v, .int .i64 0], .int .i64 (n : Int), .int .i64 0]) (by simp [results, Tryz.results121, go_sem, hc]) rfl ⟨rfl, below4 hB hb (by simp) _ _ _ _⟩
theorem zni {B : Nat} (s t : ByteArray) (n : Nat) (v x : Int) (hx : (x != 0) = true) (hs : s.size <= 140737488351232) (h0 : 1 <= s.size) (HN : Hid (n = 1 + dl s 1)) (hn : n <= s.size) (HTT : Hid (s.extract 0 n = t)) (w : World) (hB : B <= w.heap.size)
  (HC : Hid (∀ w1, Below B w w1 -> B <= w1.heap.size -> Calls Tryz.prog 157 #[.string t] w1 fun e w' => e = .returned (.tuple #[.int .i64 v, .int .i64 x]) /\ Below w1.heap.size w1 w')) :
  Calls Tryz.prog 121 #[.string s] w (FP (bad x) B w) := by
 go_enter Tryz.func121, Tryz.ntmps121
 go_wp2
 go_loop [5] (fun i => ∃ k : Nat, 1 <= k /\ k <= s.size /\ i = .int .i64 k /\ Hid (n = k + dl s k)) (fun i => s.size - (intOf i).toNat)
 case atStart => exact ⟨1, by omega, by omega, rfl, HN⟩
 case round =>
  obtain ⟨k, hk1, hk, rfl, HK⟩ := hrel
  by_cases hlt : k < s.size
  ·cases hg : M.isD s[k].toNat with
   | true =>
    have HN' : Hid (n = (k + 1 : Nat) + dl s (k + 1)) := by have := HK.out; rw [zmc hlt hg] at this; exact jj (by omega)
    have HG := jj hg
    clear hg
    go_wp2_with (go_at_call 116; refine (zdp HG.out _).mono ?_; rintro e w' ⟨rfl, rfl⟩)
    go_round
    case rel => exact ⟨k + 1, by omega, by omega, by go_num, HN'⟩
    case measure => simp [intOf]; omega
   | false =>
    have hk2 : n = k := by have := HK.out; rw [zc6 hlt hg] at this; omega
    subst hk2
    have ht := HTT.out
    have HG := jj hg
    clear hg
    go_wp2_with (first | (go_at_call 116; refine (zdp HG.out _).mono ?_; rintro e w' ⟨rfl, rfl⟩) | (go_at_call 157; refine (HC.out _ ((br _ _).alloc hB _) (by simp; omega)).mono ?_; rintro e w1 ⟨rfl, hb1⟩) | (go_at_call 156; refine (zcm x _).mono ?_; rintro e w' ⟨rfl, hb2⟩; have hb := hb1.trans (hb2.mono hb1.size); obtain ⟨hc, hf⟩ := bcell hb))
    exact bodyPost_ret (v := .tuple #[.agg #[.int .i64 0, .string ⟨#[]⟩, .int .i64 0, .int .i64 0], .int .i64 0, .int .i64 x]) (by simp [results, Tryz.results121, go_sem, hc]) rfl ⟨rfl, below4 hB hb (by simp) _ _ _ _⟩
  ·have hk2 : n = k := by have := HK.out; rw [zha (by omega)] at this; omega
   subst hk2
   have ht := HTT.out
   go_wp2_with (first | (go_at_call 157; refine (HC.out _ ((br _ _).alloc hB _) (by simp; omega)).mono ?_; rintro e w1 ⟨rfl, hb1⟩) | (go_at_call 156; refine (zcm x _).mono ?_; rintro e w' ⟨rfl, hb2⟩; have hb := hb1.trans (hb2.mono hb1.size); obtain ⟨hc, hf⟩ := bcell hb))
   exact bodyPost_ret (v := .tuple #[.agg #[.int .i64 0, .string ⟨#[]⟩, .int .i64 0, .int .i64 0], .int .i64 0, .int .i64 x]) (by simp [results, Tryz.results121, go_sem, hc]) rfl ⟨rfl, below4 hB hb (by simp) _ _ _ _⟩
theorem zgx {B : Nat} (s : ByteArray) (hs : s.size <= 140737488351232) (h0 : 1 <= s.size) (w : World) (hB : B <= w.heap.size) (hP : Pow B w) :
  Calls Tryz.prog 121 #[.string s] w (FP (numR (s.extract 0 (1 + dl s 1))) B w) := by
 have hle := zwj s 1 h0
 obtain ⟨t, ht⟩ : ∃ t, s.extract 0 (1 + dl s 1) = t := ⟨_, rfl⟩
 have hts : t.size = 1 + dl s 1 := by rw [<- ht, size_extract]; omega
 rw [ht]
 have HC : Hid (∀ w1, Below B w w1 -> B <= w1.heap.size -> Calls Tryz.prog 157 #[.string t] w1 fun e w' => e = .returned (.tuple #[.int .i64 (W.pv t.data.toList), .int .i64 (W.pe t.data.toList)]) /\ Below w1.heap.size w1 w') :=
  jj fun w1 hb h1 => W.zd1 t (by omega) w1 (fun w' h' => (hP.on hb) w' (h'.mono h1)) (lrf _)
 rw [numR]
 generalize W.pv t.data.toList = v at *
 generalize W.pe t.data.toList = x at *
 by_cases hx : x = 0
 ·subst hx
  rw [if_pos rfl, hts]
  exact zop s t _ v hs h0 (jj rfl) hle (jj ht) w hB HC
 ·rw [if_neg hx]
  exact zni s t _ v x (by simpa using hx) hs h0 (jj rfl) hle (jj ht) w hB HC
def On (B : Nat) (w : World) : Prop := Kws B w /\ Pow B w
theorem On.on {B : Nat} {w w1 : World} (h : On B w) (hb : Below B w w1) : On B w1 := ⟨h.1.on hb, h.2.on hb⟩
theorem On.up {B B' : Nat} {w : World} (h : On B w) (hb : B <= B') : On B' w := ⟨⟨lltl h.1.1 hb, h.1.2⟩, fun w' h' => h.2 w' (h'.mono hb)⟩
def Gives (f : Nat) (a : ByteArray) (B : Nat) (w : World) (k : Int) (t : ByteArray) (n : Int) (l : Nat) (x : Int) : Prop :=
 ∀ w1, Below B w w1 -> B <= w1.heap.size -> Calls Tryz.prog f #[.string a] w1 fun e w' => e = .returned (.tuple #[.agg #[.int .i64 k, .string t, .int .i64 n, .int .i64 0], .int .i64 (l : Int), .int .i64 x]) /\ Below w1.heap.size w1 w'
theorem zu7 {B : Nat} (s : ByteArray) (k : Int) (t : ByteArray) (n : Int) (l : Nat) (x : Int) (hs : s.size <= 140737488351232) (_ : 0 < s.size) (w : World) (hB : B <= w.heap.size) (m : Nat) (hm : 0 < m) (hms : m <= s.size) (y : ByteArray) (hy : s.extract 0 m = y) (HL : Hid (M.wl s = m)) (HC : Hid (Gives 119 y B w k t n l x)) :
  Calls Tryz.prog 80 #[.string s] w (FP ⟨k, t, n, l, x⟩ B w) := by
 have HS := jj hs
 go_enter Tryz.func80, Tryz.ntmps80
 go_wp2_with (first | (go_at_call 118; refine (zck HL.out HS.out _).mono ?_; rintro e w' ⟨rfl, rfl⟩) | (go_at_call 119; refine (HC.out _ ((br _ _).alloc hB _) (by simp; omega)).mono ?_; rintro e w' ⟨rfl, hb⟩; obtain ⟨hc, hf⟩ := bcell hb))
 exact bodyPost_ret (v := .tuple #[.agg #[.int .i64 k, .string t, .int .i64 n, .int .i64 0], .int .i64 (l : Int), .int .i64 x]) (by simp [results, Tryz.results80, go_sem, hc]) rfl ⟨rfl, below4 hB hb (by simp) _ _ _ _⟩
theorem zxx {B : Nat} (s : ByteArray) (k : Int) (t : ByteArray) (n : Int) (l : Nat) (x : Int) (hs : s.size <= 140737488351232) (h0 : 0 < s.size) (w : World) (hB : B <= w.heap.size) (HL : Hid (M.wl s = 0)) (h39 : ((s[0].toNat : Int) == 39) = true) (HC : Hid (Gives 120 s B w k t n l x)) :
  Calls Tryz.prog 80 #[.string s] w (FP ⟨k, t, n, l, x⟩ B w) := by
 have HS := jj hs
 go_enter Tryz.func80, Tryz.ntmps80
 go_wp2_with (first | (go_at_call 118; refine (zck HL.out HS.out _).mono ?_; rintro e w' ⟨rfl, rfl⟩) | (go_at_call 120; refine (HC.out _ ((br _ _).alloc hB _) (by simp; omega)).mono ?_; rintro e w' ⟨rfl, hb⟩; obtain ⟨hc, hf⟩ := bcell hb))
 exact bodyPost_ret (v := .tuple #[.agg #[.int .i64 k, .string t, .int .i64 n, .int .i64 0], .int .i64 (l : Int), .int .i64 x]) (by simp [results, Tryz.results80, go_sem, hc]) rfl ⟨rfl, below4 hB hb (by simp) _ _ _ _⟩
theorem zta {B : Nat} (s : ByteArray) (k : Int) (t : ByteArray) (n : Int) (l : Nat) (x : Int) (hs : s.size <= 140737488351232) (h0 : 0 < s.size) (w : World) (hB : B <= w.heap.size) (HL : Hid (M.wl s = 0)) (h39 : ((s[0].toNat : Int) == 39) = false) (h126 : ((s[0].toNat : Int) == 126) = true) (HC : Hid (Gives 121 s B w k t n l x)) :
  Calls Tryz.prog 80 #[.string s] w (FP ⟨k, t, n, l, x⟩ B w) := by
 have HS := jj hs
 go_enter Tryz.func80, Tryz.ntmps80
 go_wp2_with (first | (go_at_call 118; refine (zck HL.out HS.out _).mono ?_; rintro e w' ⟨rfl, rfl⟩) | (go_at_call 121; refine (HC.out _ ((br _ _).alloc hB _) (by simp; omega)).mono ?_; rintro e w' ⟨rfl, hb⟩; obtain ⟨hc, hf⟩ := bcell hb))
 exact bodyPost_ret (v := .tuple #[.agg #[.int .i64 k, .string t, .int .i64 n, .int .i64 0], .int .i64 (l : Int), .int .i64 x]) (by simp [results, Tryz.results80, go_sem, hc]) rfl ⟨rfl, below4 hB hb (by simp) _ _ _ _⟩
theorem zs0 {B : Nat} (s : ByteArray) (k : Int) (t : ByteArray) (n : Int) (l : Nat) (x : Int) (hs : s.size <= 140737488351232) (h0 : 0 < s.size) (w : World) (hB : B <= w.heap.size) (HL : Hid (M.wl s = 0)) (h39 : ((s[0].toNat : Int) == 39) = false) (h126 : ((s[0].toNat : Int) == 126) = false) (HD : Hid (M.isD s[0].toNat = true)) (HC : Hid (Gives 121 s B w k t n l x)) :
  Calls Tryz.prog 80 #[.string s] w (FP ⟨k, t, n, l, x⟩ B w) := by
 have HS := jj hs
 go_enter Tryz.func80, Tryz.ntmps80
 go_wp2_with (first | (go_at_call 118; refine (zck HL.out HS.out _).mono ?_; rintro e w' ⟨rfl, rfl⟩) | (go_at_call 116; refine (zdp HD.out _).mono ?_; rintro e w' ⟨rfl, rfl⟩) | (go_at_call 121; refine (HC.out _ ((br _ _).alloc hB _) (by simp; omega)).mono ?_; rintro e w' ⟨rfl, hb⟩; obtain ⟨hc, hf⟩ := bcell hb))
 exact bodyPost_ret (v := .tuple #[.agg #[.int .i64 k, .string t, .int .i64 n, .int .i64 0], .int .i64 (l : Int), .int .i64 x]) (by simp [results, Tryz.results80, go_sem, hc]) rfl ⟨rfl, below4 hB hb (by simp) _ _ _ _⟩
theorem zvj {B : Nat} (s : ByteArray) (k : Int) (t : ByteArray) (n : Int) (l : Nat) (x : Int) (hs : s.size <= 140737488351232) (h0 : 0 < s.size) (w : World) (hB : B <= w.heap.size) (HL : Hid (M.wl s = 0)) (h39 : ((s[0].toNat : Int) == 39) = false) (h126 : ((s[0].toNat : Int) == 126) = false) (HD : Hid (M.isD s[0].toNat = false)) (h34 : ((s[0].toNat : Int) == 34) = true) (HC : Hid (Gives 122 s B w k t n l x)) :
  Calls Tryz.prog 80 #[.string s] w (FP ⟨k, t, n, l, x⟩ B w) := by
 have HS := jj hs
 go_enter Tryz.func80, Tryz.ntmps80
 go_wp2_with (first | (go_at_call 118; refine (zck HL.out HS.out _).mono ?_; rintro e w' ⟨rfl, rfl⟩) | (go_at_call 116; refine (zdp HD.out _).mono ?_; rintro e w' ⟨rfl, rfl⟩) | (go_at_call 122; refine (HC.out _ ((br _ _).alloc hB _) (by simp; omega)).mono ?_; rintro e w' ⟨rfl, hb⟩; obtain ⟨hc, hf⟩ := bcell hb))
 exact bodyPost_ret (v := .tuple #[.agg #[.int .i64 k, .string t, .int .i64 n, .int .i64 0], .int .i64 (l : Int), .int .i64 x]) (by simp [results, Tryz.results80, go_sem, hc]) rfl ⟨rfl, below4 hB hb (by simp) _ _ _ _⟩
theorem zx1 {B : Nat} (s : ByteArray) (k : Int) (t : ByteArray) (n : Int) (l : Nat) (x : Int) (hs : s.size <= 140737488351232) (h0 : 0 < s.size) (w : World) (hB : B <= w.heap.size) (HL : Hid (M.wl s = 0)) (h39 : ((s[0].toNat : Int) == 39) = false) (h126 : ((s[0].toNat : Int) == 126) = false) (HD : Hid (M.isD s[0].toNat = false)) (h34 : ((s[0].toNat : Int) == 34) = false) (HC : Hid (Gives 123 s B w k t n l x)) :
  Calls Tryz.prog 80 #[.string s] w (FP ⟨k, t, n, l, x⟩ B w) := by
 have HS := jj hs
 go_enter Tryz.func80, Tryz.ntmps80
 go_wp2_with (first | (go_at_call 118; refine (zck HL.out HS.out _).mono ?_; rintro e w' ⟨rfl, rfl⟩) | (go_at_call 116; refine (zdp HD.out _).mono ?_; rintro e w' ⟨rfl, rfl⟩) | (go_at_call 123; refine (HC.out _ ((br _ _).alloc hB _) (by simp; omega)).mono ?_; rintro e w' ⟨rfl, hb⟩; obtain ⟨hc, hf⟩ := bcell hb))
 exact bodyPost_ret (v := .tuple #[.agg #[.int .i64 k, .string t, .int .i64 n, .int .i64 0], .int .i64 (l : Int), .int .i64 x]) (by simp [results, Tryz.results80, go_sem, hc]) rfl ⟨rfl, below4 hB hb (by simp) _ _ _ _⟩
theorem zd7 {f : Nat} {a : ByteArray} {B : Nat} {w : World} {r : R} (h : ∀ w1, Below B w w1 -> B <= w1.heap.size -> Calls Tryz.prog f #[.string a] w1 (FP r w1.heap.size w1)) : Hid (Gives f a B w r.k r.t r.n r.long r.e) := jj h
theorem eqb {a b : Nat} (h : a = b) : ((a : Int) == (b : Int)) = true := by simp [h]
theorem neb {a b : Nat} (h : a ≠ b) : ((a : Int) == (b : Int)) = false := by simp; omega
theorem zwv (s : ByteArray) (h : 0 < M.wl s) : M.wl (s.extract 0 (M.wl s)) = (s.extract 0 (M.wl s)).size := by
 have hle := M.zj8 s
 have h0 : 0 < s.size := by omega
 have hb : (M.begW (M.fst s) || M.begT (M.fst s)) = true := by
  by_cases h' : (M.begW (M.fst s) || M.begT (M.fst s)) = true
  ·exact h'
  ·rw [M.wl, if_neg (fun x => h' x.2)] at h; omega
 have hsz : (s.extract 0 (M.wl s)).size = M.wl s := by rw [size_extract]; omega
 have hw : M.wl s = 1 + M.more s 1 := M.wl_w h0 hb
 have hf : M.fst (s.extract 0 (M.wl s)) = M.fst s := by
  rw [M.zc5 (by omega), M.zc5 h0, ByteArray.getElem_extract]
 rw [hsz, M.wl_w (by omega) (by rw [hf]; exact hb), hw]
 rw [M.more, data_extract]
 have e : ((s.data.toList.drop 0).take (1 + M.more s 1 - 0)).drop 1 = (s.data.toList.drop 1).take (M.more s 1) := by
  rw [List.drop_zero, List.drop_take]; congr 1; omega
 rw [e]
 have h2 : M.more s 1 = ((s.data.toList.drop 1).takeWhile fun c => M.goes c.toNat).length := rfl
 rw [h2]
 generalize s.data.toList.drop 1 = l
 congr 1
 induction l with
 | nil => rfl
 | cons c r ih =>
  rw [List.takeWhile_cons]
  by_cases hc : M.goes c.toNat = true
  ·rw [if_pos hc, List.length_cons, List.take_succ_cons, List.takeWhile_cons, if_pos hc, List.length_cons, ih]
  ·rw [if_neg hc]; rfl
theorem zgk {B : Nat} (s : ByteArray) (hs : s.size <= 140737488351232) (h0 : 0 < s.size) (w : World) (hB : B <= w.heap.size) (hO : On B w) :
  Calls Tryz.prog 80 #[.string s] w (FP (tok s) B w) := by
 have hf := M.zc5 h0
 have hle := M.zj8 s
 rw [tok]
 by_cases h1 : 0 < M.wl s
 ·rw [if_pos h1]
  have hsz : (s.extract 0 (M.wl s)).size = M.wl s := by rw [size_extract]; omega
  exact zu7 s _ _ _ _ _ hs h0 w hB _ h1 hle _ rfl (jj rfl) (zd7 fun w1 hb h => zev _ (by omega) (by omega) (zwv s h1) w1 (lrf _) ((hO.on hb).up h).1)
 ·rw [if_neg h1]
  have HL : Hid (M.wl s = 0) := jj (by omega)
  by_cases h39 : M.fst s = 39
  ·rw [if_pos h39]
   exact zxx s _ _ _ _ _ hs h0 w hB HL (eqb (by rw [<- hf]; exact h39)) (zd7 fun w1 _ _ => zvi s hs h0 w1 (lrf _))
  ·rw [if_neg h39]
   have n39 : ((s[0].toNat : Int) == 39) = false := neb (b := 39) (by rw [<- hf]; exact h39)
   by_cases h126 : M.fst s = 126
   ·rw [if_pos (Or.inl h126)]
    exact zta s _ _ _ _ _ hs h0 w hB HL n39 (eqb (by rw [<- hf]; exact h126)) (zd7 fun w1 hb h => zgx s hs h0 w1 (lrf _) ((hO.on hb).up h).2)
   ·have n126 : ((s[0].toNat : Int) == 126) = false := neb (b := 126) (by rw [<- hf]; exact h126)
    by_cases hd : M.isD (M.fst s) = true
    ·rw [if_pos (Or.inr hd)]
     exact zs0 s _ _ _ _ _ hs h0 w hB HL n39 n126 (jj (by rw [<- hf]; exact hd)) (zd7 fun w1 hb h => zgx s hs h0 w1 (lrf _) ((hO.on hb).up h).2)
    ·rw [if_neg (by rintro (h | h); exact h126 h; exact hd h)]
     have nd : Hid (M.isD s[0].toNat = false) := jj (by rw [<- hf]; simpa using hd)
     by_cases h34 : M.fst s = 34
     ·rw [if_pos h34]
      exact zvj s _ _ _ _ _ hs h0 w hB HL n39 n126 nd (eqb (by rw [<- hf]; exact h34)) (zd7 fun w1 _ _ => zb3 s hs w1 (lrf _))
     ·rw [if_neg h34]
      exact zx1 s _ _ _ _ _ hs h0 w hB HL n39 n126 nd (neb (b := 34) (by rw [<- hf]; exact h34)) (zd7 fun w1 _ _ => zhr s hs h0 w1 (lrf _))
open Go.RowKit
def gp : Bool -> List UInt8 -> Nat
 | _, [] => 0
 | true, c :: r => if c.toNat = 10 then 1 + gp false r else 1 + gp true r
 | false, c :: r => if isB c.toNat = true then 1 + gp false r else if c.toNat = 35 then 1 + gp true r else 0
theorem zmf : ∀ (l : List UInt8) (b : Bool), gp b l <= l.length
 | [], b => by cases b <;> simp [gp]
 | c :: r, true => by
  have h1 := zmf r true
  have h2 := zmf r false
  simp only [gp, List.length_cons]; split <;> omega
 | c :: r, false => by
  have h1 := zmf r true
  have h2 := zmf r false
  simp only [gp, List.length_cons]; split
  ·omega
  ·split <;> omega
theorem zhv {c : UInt8} {r : List UInt8} (h : isB c.toNat = true) : gp false (c :: r) = 1 + gp false r := by rw [gp, if_pos h]
theorem znm {c : UInt8} {r : List UInt8} (h : c.toNat = 35) : gp false (c :: r) = 1 + gp true r := by
 rw [gp, if_neg (by rw [h]; decide), if_pos h]
theorem zua {c : UInt8} {r : List UInt8} (h : isB c.toNat = false) (h' : c.toNat ≠ 35) : gp false (c :: r) = 0 := by
 rw [gp, if_neg (by rw [h]; decide), if_neg h']
theorem zrr {c : UInt8} {r : List UInt8} (h : c.toNat ≠ 10) : gp true (c :: r) = 1 + gp true r := by rw [gp, if_neg h]
theorem zt3 {c : UInt8} {r : List UInt8} (h : c.toNat = 10) : gp true (c :: r) = gp false (c :: r) := by
 rw [gp, if_pos h, zhv (by rw [h]; decide)]
theorem zuh : ∀ (l : List UInt8), (Lib.indexByte l 10 = -1 /\ gp true l = l.length) ∨ ∃ k : Nat, Lib.indexByte l 10 = k /\ k <= l.length /\ gp true l = k + gp false (l.drop k)
 | [] => .inl ⟨rfl, rfl⟩
 | c :: r => by
  by_cases hc : c.toNat = 10
  ·have e : c = 10 := UInt8.toNat_inj.1 (by rw [hc]; rfl)
   exact .inr ⟨0, by rw [e]; rfl, by omega, by rw [zt3 hc, List.drop_zero]; omega⟩
  ·have e : ¬ c = 10 := fun e => hc (by rw [e]; rfl)
   rw [zrr hc]
   rcases zuh r with ⟨h1, h2⟩ | ⟨k, h1, hk, h2⟩
   ·exact .inl ⟨by simp [Lib.indexByte, e, h1], by rw [h2, List.length_cons]; omega⟩
   ·refine .inr ⟨k + 1, ?_, by rw [List.length_cons]; omega, by rw [h2, List.drop_succ_cons]; omega⟩
    simp [Lib.indexByte, e, h1]
theorem zjd (s : ByteArray) (k : Nat) : (s.extract k s.size).data.toList = s.data.toList.drop k := by
 rw [data_extract]
 exact List.take_of_length_le (by rw [List.length_drop, M.size_len]; omega)
theorem blank35 (w : World) : Calls Tryz.prog 116 #[.string blanks, .int .u8 35] w fun e w' => e = .returned (.bool false) /\ w = w' := zhi (c := 35) (by decide) w
theorem zmg (s : ByteArray) (hs : s.size <= 140737488351232) (w : World) :
  Calls Tryz.prog 79 #[.string s] w fun e w' => e = .returned (.int .i64 (gp false s.data.toList)) /\ w = w' := by
 obtain ⟨G, hG⟩ : ∃ G, gp false s.data.toList = G := ⟨_, rfl⟩
 have HG0 : Hid (G = 0 + gp false (s.data.toList.drop 0)) := jj (by rw [List.drop_zero]; omega)
 rw [hG]
 clear hG
 go_enter Tryz.func79, Tryz.ntmps79
 go_wp2
 go_loop [3] (fun i => ∃ k : Nat, k <= s.size /\ i = .int .i64 k /\ Hid (G = k + gp false (s.data.toList.drop k))) (fun i => s.size - (intOf i).toNat)
 case atStart => exact ⟨0, by omega, rfl, HG0⟩
 case round =>
  obtain ⟨k, hk, rfl, HK⟩ := hrel
  by_cases hlt : k < s.size
  ·have hd := M.zal s k hlt
   cases hb : isB s[k].toNat with
   | true =>
    have HN : Hid (G = (k + 1 : Nat) + gp false (s.data.toList.drop (k + 1))) := by have := HK.out; rw [hd, zhv hb] at this; exact jj (by omega)
    have HB := jj hb
    clear hb hd
    go_wp2_with (go_at_call 116; refine (zhi HB.out _).mono ?_; rintro e w' ⟨rfl, rfl⟩)
    go_round
    case rel => exact ⟨k + 1, by omega, by go_num, HN⟩
    case measure => simp [intOf]; omega
   | false =>
    by_cases h35 : s[k].toNat = 35
    ·have e1 : gp false (s.data.toList.drop k) = gp true (s.data.toList.drop k) := by
      rw [hd, znm h35, zrr (by omega)]
     obtain ⟨x, hx⟩ : ∃ x, s.extract k s.size = x := ⟨_, rfl⟩
     have hxl : x.data.toList = s.data.toList.drop k := by rw [<- hx]; exact zjd s k
     have hxs : x.size = s.size - k := by rw [<- hx, size_extract]; omega
     have hq := eqb h35
     rcases zuh x.data.toList with ⟨h1, h2⟩ | ⟨j, h1, hj, h2⟩
     ·have HN : Hid (G = s.size) := by have := HK.out; rw [e1, <- hxl, h2, M.size_len, hxs] at this; exact jj (by omega)
      have HR := jj h1
      have HB := jj hb
      clear hb hd h1 h2 hxl e1
      go_wp2_with (first | (go_at_call 116; refine (blank35 _).mono ?_; rintro e w' ⟨rfl, rfl⟩) | (go_at_call 117; refine (zov x HR _).mono ?_; rintro e w' ⟨rfl, rfl⟩))
      go_round
      case rel => exact ⟨s.size, by omega, by go_num, jj (by rw [HN.out, List.drop_of_length_le (by rw [M.size_len]; omega)]; rfl)⟩
      case measure => simp [intOf]; omega
     ·have hj1 : 1 <= j := by
       rcases Nat.eq_zero_or_pos j with e | e
       ·subst e
        rw [hxl, hd] at h1
        have : ¬ s[k] = 10 := fun e => by rw [e] at h35; exact absurd h35 (by decide)
        simp [Lib.indexByte, this] at h1
        split at h1 <;> omega
       ·exact e
      have hjk : k + j <= s.size := by rw [M.size_len] at hj; omega
      have HN : Hid (G = (k + j : Nat) + gp false (s.data.toList.drop (k + j))) := by
       have := HK.out
       rw [e1, <- hxl, h2, hxl, List.drop_drop] at this
       exact jj (by omega)
      have HR := jj h1
      have HB := jj hb
      clear hb hd h1 h2 hxl e1
      go_wp2_with (first | (go_at_call 116; refine (blank35 _).mono ?_; rintro e w' ⟨rfl, rfl⟩) | (go_at_call 117; refine (zml x j HR _).mono ?_; rintro e w' ⟨rfl, rfl⟩))
      go_round
      case rel => exact ⟨k + j, by omega, by go_num, HN⟩
      case measure => simp [intOf]; omega
    ·have HN : Hid (G = k) := by have := HK.out; rw [hd, zua hb h35] at this; exact jj (by omega)
     have hq := neb h35
     have HB := jj hb
     clear hb hd
     go_wp2_with (first | (go_at_call 116; refine (zhi HB.out _).mono ?_; rintro e w' ⟨rfl, rfl⟩))
     go_ret
     exact ⟨M.zbz (by rw [HN.out]), rfl⟩
  ·have HN : Hid (G = k) := by have := HK.out; rw [List.drop_of_length_le (by rw [M.size_len]; omega), gp] at this; exact jj (by omega)
   go_wp2
   go_ret
   exact ⟨M.zbz (by rw [HN.out]), rfl⟩
theorem zjh {s : ByteArray} {n : Nat} (h : gp false s.data.toList = n) (hs : s.size <= 140737488351232) (w : World) :
  Calls Tryz.prog 79 #[.string s] w fun e w' => e = .returned (.int .i64 n) /\ w = w' := by subst h; exact zmg s hs w
theorem zrb (s : ByteArray) (h0 : 0 < s.size) (h : (tok s).e = 0) : 1 <= (tok s).long /\ (tok s).long <= s.size := by
 have hle := M.zj8 s
 unfold tok at h ⊢
 by_cases h1 : 0 < M.wl s
 ·simp only [if_pos h1] at h ⊢
  have hsz : (s.extract 0 (M.wl s)).size = M.wl s := by rw [size_extract]; omega
  unfold wordR at h ⊢
  split at h
  ·rename_i hk; rw [if_pos hk]; simp only [hsz]; omega
  ·rename_i hk; rw [if_neg hk]
   split at h
   ·simp [bad] at h
   ·rename_i hk2; rw [if_neg hk2]
    split <;> (simp only [hsz]; omega)
 ·simp only [if_neg h1] at h ⊢
  by_cases h39 : M.fst s = 39
  ·simp only [if_pos h39] at h ⊢
   have hx := M.zj8 (s.extract 1 s.size)
   rw [size_extract] at hx
   unfold varR at h ⊢
   split at h
   ·simp [bad] at h
   ·rename_i hk; rw [if_neg hk]
    split at h
    ·simp [bad] at h
    ·rename_i hk2; rw [if_neg hk2]
     show 1 <= 1 + _ /\ 1 + _ <= s.size
     have : M.wl (s.extract 1 s.size) ≠ 0 := fun e => hk (Or.inl e)
     omega
  ·simp only [if_neg h39] at h ⊢
   by_cases hd : M.fst s = 126 ∨ M.isD (M.fst s) = true
   ·simp only [if_pos hd] at h ⊢
    have hl := zwj s 1 h0
    unfold numR at h ⊢
    split at h
    ·rename_i hk; rw [if_pos hk]
     show 1 <= (s.extract 0 _).size /\ (s.extract 0 _).size <= s.size
     rw [size_extract]; omega
    ·rename_i hk; exact absurd h hk
   ·simp only [if_neg hd] at h ⊢
    by_cases h34 : M.fst s = 34
    ·simp only [if_pos h34] at h ⊢
     unfold strR at h ⊢
     split at h
     ·rename_i hk; rw [if_pos hk]
      show 1 <= Q.tN _ /\ Q.tN _ <= s.size
      cases ho : Q.tq s.data.toList with
      | none => rw [ho] at hk; simp [Q.tE] at hk
      | some p =>
       obtain ⟨t, m⟩ := p
       rw [ho] at hk
       have hm : Q.tN (some (t, m)) = m := by
        unfold Q.tE at hk
        unfold Q.tN
        simp only at hk ⊢
        split at hk
        ·simp at hk
        ·rename_i hh; rw [if_neg hh]
       rw [hm]
       have hs := M.size_len s
       cases hl : s.data.toList with
       | nil => rw [hl] at hs; simp at hs; omega
       | cons c r =>
        rw [hl] at ho hs
        unfold Q.tq at ho
        simp only at ho
        split at ho
        ·unfold Q.tkAt at ho
         have := Q.zuj _ _ _ _ _ _ ho
         simp at this hs; omega
        ·cases ho
     ·rename_i hk; exact absurd h hk
    ·simp only [if_neg h34] at h ⊢
     unfold signR at h ⊢
     split at h
     ·simp [bad] at h
     ·rename_i hk; rw [if_neg hk]
      show 1 <= sg s /\ sg s <= s.size
      refine ⟨by omega, ?_⟩
      unfold sg
      split
      ·rename_i h2
       unfold two at h2
       rw [Bool.or_eq_true] at h2
       have := M.size_len s
       rcases h2 with h2 | h2 <;> (have := zky h2; simp at this; omega)
      ·split <;> omega
def nx (s : ByteArray) (b : Nat) : Nat := b + gp false (s.data.toList.drop b)
theorem zyx (s : ByteArray) (b : Nat) (h : b <= s.size) : nx s b <= s.size := by
 have := zmf (s.data.toList.drop b) false
 rw [List.length_drop, M.size_len] at this
 rw [nx]; omega
theorem zvo (s : ByteArray) (b : Nat) : b <= nx s b := by rw [nx]; omega
abbrev Item := R × Nat
def its : Nat -> ByteArray -> Nat -> List Item
 | 0, _, _ => []
 | f + 1, s, a => if a < s.size then if (tok (s.extract a s.size)).e = 0 then (tok (s.extract a s.size), a) :: its f s (nx s (a + (tok (s.extract a s.size)).long)) else [(tok (s.extract a s.size), a)] else []
def items (s : ByteArray) : List Item := its (s.size + 1) s (nx s 0)
theorem znf {f : Nat} {s : ByteArray} {a : Nat} (h : ¬ a < s.size) : its f s a = [] := by
 cases f with
 | zero => rfl
 | succ f => rw [its, if_neg h]
theorem zex (s : ByteArray) (a : Nat) (h : a < s.size) (he : (tok (s.extract a s.size)).e = 0) : 1 <= (tok (s.extract a s.size)).long /\ a + (tok (s.extract a s.size)).long <= s.size := by
 have hsz : (s.extract a s.size).size = s.size - a := by rw [size_extract]; omega
 have := zrb (s.extract a s.size) (by omega) he
 omega
theorem ztp {f : Nat} {s : ByteArray} {a : Nat} (h : a < s.size) (hf : s.size < a + f) (he : (tok (s.extract a s.size)).e = 0) :
  ∃ g, s.size < nx s (a + (tok (s.extract a s.size)).long) + g /\ its f s a = (tok (s.extract a s.size), a) :: its g s (nx s (a + (tok (s.extract a s.size)).long)) := by
 obtain ⟨g, rfl⟩ : ∃ g, f = g + 1 := ⟨f - 1, by omega⟩
 have := zex s a h he
 have := zvo s (a + (tok (s.extract a s.size)).long)
 exact ⟨g, by omega, by rw [its, if_pos h, if_pos he]⟩
theorem znj {f : Nat} {s : ByteArray} {a : Nat} (h : a < s.size) (hf : s.size < a + f) (he : (tok (s.extract a s.size)).e ≠ 0) : its f s a = [(tok (s.extract a s.size), a)] := by
 obtain ⟨g, rfl⟩ : ∃ g, f = g + 1 := ⟨f - 1, by omega⟩
 rw [its, if_pos h, if_neg he]
theorem zng : ∀ (f : Nat) (s : ByteArray) (a : Nat), (its f s a).length <= s.size - a
 | 0, _, _ => by simp [its]
 | f + 1, s, a => by
  rw [its]
  split
  ·rename_i h
   split
   ·rename_i he
    have h1 := zex s a h he
    have h2 := zvo s (a + (tok (s.extract a s.size)).long)
    have := zng f s (nx s (a + (tok (s.extract a s.size)).long))
    rw [List.length_cons]; omega
   ·simp; omega
  ·simp
theorem zf9 (s : ByteArray) : (items s).length <= s.size := ltr (zng _ _ _) (by omega)
def isBad (x : Item) : Bool := decide (x.1.e ≠ 0)
def wrong (s : ByteArray) : Option Item := (items s).find? isBad
def toks (s : ByteArray) : List Item := match wrong s with | none => items s | some _ => []
def place (s : ByteArray) : Int := match wrong s with | none => s.size | some x => x.2
def err (s : ByteArray) : Int := match wrong s with | none => 0 | some x => x.1.e
theorem zf3 {s : ByteArray} {l : List Item} (h : l = items s) (hg : ∀ x ∈ l, x.1.e = 0) : toks s = l /\ place s = s.size /\ err s = 0 := by
 have e : wrong s = none := by
  rw [wrong, <- h, List.find?_eq_none]
  intro x hx; simp [isBad, hg x hx]
 rw [toks, place, err, e]; exact ⟨h.symm, rfl, rfl⟩
theorem zkw {s : ByteArray} {pre : List Item} {x : Item} {post : List Item} (h : items s = pre ++ x :: post) (hg : ∀ y ∈ pre, y.1.e = 0) (hx : x.1.e ≠ 0) : toks s = [] /\ place s = x.2 /\ err s = x.1.e := by
 have e : wrong s = some x := by
  rw [wrong, h, List.find?_append, List.find?_eq_none.2 (fun y hy => by simp [isBad, hg y hy])]
  simp [isBad, hx]
 rw [toks, place, err, e]; exact ⟨rfl, rfl, rfl⟩
theorem zes (s : ByteArray) : (toks s).length <= s.size := by
 rw [toks]; split
 ·exact zf9 s
 ·simp
def cellsOf1 (x : Item) : List Value := [.int .i64 x.1.k, .string x.1.t, .int .i64 x.1.n, .int .i64 (x.2 : Int)]
def cellsL (l : List Item) : List Value := l.flatMap cellsOf1
theorem zgu (l : List Item) (x : Item) : cellsL (l ++ [x]) = cellsL l ++ cellsOf1 x := by simp [cellsL]
theorem zis : ∀ l : List Item, (cellsL l).length = l.length * 4
 | [] => rfl
 | x :: r => by
  have := zis r
  have e : cellsL (x :: r) = cellsOf1 x ++ cellsL r := by simp [cellsL]
  rw [e, List.length_append, this, List.length_cons]; simp [cellsOf1]; omega
theorem zlm : ∀ (l : List Item) (j : Nat) (x : Item), l[j]? = some x -> (cellsL l)[j * 4]? = some (.int .i64 x.1.k) /\ (cellsL l)[j * 4 + 1]? = some (.string x.1.t) /\ (cellsL l)[j * 4 + 2]? = some (.int .i64 x.1.n) /\ (cellsL l)[j * 4 + 3]? = some (.int .i64 (x.2 : Int))
 | [], _, _, h => by simp at h
 | y :: r, 0, x, h => by
  simp at h; subst h
  have e : cellsL (y :: r) = cellsOf1 y ++ cellsL r := by simp [cellsL]
  rw [e]; simp [cellsOf1]
 | y :: r, j + 1, x, h => by
  have ih := zlm r j x (by simpa using h)
  have e : cellsL (y :: r) = cellsOf1 y ++ cellsL r := by simp [cellsL]
  have hl : (cellsOf1 y).length = 4 := rfl
  rw [e]
  refine ⟨?_, ?_, ?_, ?_⟩
  ·rw [List.getElem?_append_right (by omega), hl, show (j + 1) * 4 - 4 = j * 4 by omega]; exact ih.1
  ·rw [List.getElem?_append_right (by omega), hl, show (j + 1) * 4 + 1 - 4 = j * 4 + 1 by omega]; exact ih.2.1
  ·rw [List.getElem?_append_right (by omega), hl, show (j + 1) * 4 + 2 - 4 = j * 4 + 2 by omega]; exact ih.2.2.1
  ·rw [List.getElem?_append_right (by omega), hl, show (j + 1) * 4 + 3 - 4 = j * 4 + 3 by omega]; exact ih.2.2.2
end Go.Proofs.YtjakeidbajkdcaaGreatDoor.L
