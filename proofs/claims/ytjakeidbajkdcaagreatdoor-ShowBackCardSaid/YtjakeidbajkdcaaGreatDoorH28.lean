/- Joined by program. -/
import Derived.Test.YtjakeidbajkdcaaGreatDoorH26
import Derived.Test.YtjakeidbajkdcaaGreatDoorH27
import Derived.LoopTactic
set_option maxHeartbeats 2000000
namespace Go.Proofs.YtjakeidbajkdcaaGreatDoor.L
open Go.RowKit
def smalls : ByteArray := ⟨#[97, 98, 99, 100, 101, 102, 103, 104, 105, 106, 107, 108, 109, 110, 111, 112, 113, 114, 115, 116, 117, 118, 119, 120, 121, 122, 95]⟩
def digits : ByteArray := ⟨#[48, 49, 50, 51, 52, 53, 54, 55, 56, 57]⟩
def blanks : ByteArray := ⟨#[32, 9, 10]⟩
def isB (n : Nat) : Bool := decide (n = 32 ∨ n = 9 ∨ n = 10)
theorem small_all : ∀ n : Nat, n < 256 -> decide (0 <= Lib.indexByte smalls.data.toList n.toUInt8) = M.begW n := by decide +kernel
theorem digit_all : ∀ n : Nat, n < 256 -> decide (0 <= Lib.indexByte digits.data.toList n.toUInt8) = M.isD n := by decide +kernel
theorem blank_all : ∀ n : Nat, n < 256 -> decide (0 <= Lib.indexByte blanks.data.toList n.toUInt8) = isB n := by decide +kernel
theorem back8 (c : UInt8) : c.toNat.toUInt8 = c := by simp
theorem small_is {c : UInt8} {b : Bool} (h : M.begW c.toNat = b) (w : World) : Calls Tryz.prog 116 #[.string smalls, .int .u8 (c.toNat : Int)] w fun e w' => e = .returned (.bool b) /\ w = w' :=
  is_of smalls c b (Lib.hid (by have := small_all c.toNat c.toNat_lt; rw [back8] at this; rw [this, h])) w
theorem digit_is {c : UInt8} {b : Bool} (h : M.isD c.toNat = b) (w : World) : Calls Tryz.prog 116 #[.string digits, .int .u8 (c.toNat : Int)] w fun e w' => e = .returned (.bool b) /\ w = w' :=
  is_of digits c b (Lib.hid (by have := digit_all c.toNat c.toNat_lt; rw [back8] at this; rw [this, h])) w
theorem blank_is {c : UInt8} {b : Bool} (h : isB c.toNat = b) (w : World) : Calls Tryz.prog 116 #[.string blanks, .int .u8 (c.toNat : Int)] w fun e w' => e = .returned (.bool b) /\ w = w' :=
  is_of blanks c b (Lib.hid (by have := blank_all c.toNat c.toNat_lt; rw [back8] at this; rw [this, h])) w
theorem sign_is {c : UInt8} {b : Bool} (h : isSign c = b) (w : World) : Calls Tryz.prog 116 #[.string signs, .int .u8 (c.toNat : Int)] w fun e w' => e = .returned (.bool b) /\ w = w' :=
  is_of signs c b (Lib.hid h) w
theorem var_0 {B : Nat} (s x : ByteArray) (hs : s.size <= 140737488351232) (h0 : 1 <= s.size) (hx : s.extract 1 s.size = x) (HX : Hid (x.size <= 140737488351232)) (w : World) (hB : B <= w.heap.size) (HL : Hid (M.wl x = 0)) :
    Calls Tryz.prog 120 #[.string s] w (FP (bad 5) B w) := by
  go_enter Tryz.func120, Tryz.ntmps120
  go_wp2_with (first | (go_at_call 118; refine (word_isL HL.out HX.out _).mono ?_; rintro e w' ⟨rfl, rfl⟩) | (go_at_call 156; refine (refused_x 5 _).mono ?_; rintro e w' ⟨rfl, hb⟩; obtain ⟨hc, hf⟩ := bcell hb))
  exact bodyPost_ret (v := .tuple #[.agg #[.int .i64 0, .string ⟨#[]⟩, .int .i64 0, .int .i64 0], .int .i64 0, .int .i64 5]) (by simp [results, Tryz.results120, go_sem, hc]) rfl ⟨rfl, below4 hB hb (by simp) _ _ _ _⟩
theorem var_1 {B : Nat} (s x : ByteArray) (n : Nat) (hs : s.size <= 140737488351232) (h0 : 1 < s.size) (hx : s.extract 1 s.size = x) (HX : Hid (x.size <= 140737488351232)) (w : World) (hB : B <= w.heap.size) (HL : Hid (M.wl x = n))
    (hn0 : ((n : Int) == 0) = false) (HW : Hid (M.begW s[1].toNat = false)) :
    Calls Tryz.prog 120 #[.string s] w (FP (bad 5) B w) := by
  go_enter Tryz.func120, Tryz.ntmps120
  go_wp2_with (first | (go_at_call 118; refine (word_isL HL.out HX.out _).mono ?_; rintro e w' ⟨rfl, rfl⟩) | (go_at_call 116; refine (small_is HW.out _).mono ?_; rintro e w' ⟨rfl, rfl⟩) | (go_at_call 156; refine (refused_x 5 _).mono ?_; rintro e w' ⟨rfl, hb⟩; obtain ⟨hc, hf⟩ := bcell hb))
  exact bodyPost_ret (v := .tuple #[.agg #[.int .i64 0, .string ⟨#[]⟩, .int .i64 0, .int .i64 0], .int .i64 0, .int .i64 5]) (by simp [results, Tryz.results120, go_sem, hc]) rfl ⟨rfl, below4 hB hb (by simp) _ _ _ _⟩
theorem var_2 {B : Nat} (s x : ByteArray) (n : Nat) (hs : s.size <= 140737488351232) (h0 : 1 < s.size) (hx : s.extract 1 s.size = x) (HX : Hid (x.size <= 140737488351232)) (w : World) (hB : B <= w.heap.size) (HL : Hid (M.wl x = n))
    (hn0 : ((n : Int) == 0) = false) (HW : Hid (M.begW s[1].toNat = true)) (h20 : 20 < n) :
    Calls Tryz.prog 120 #[.string s] w (FP (bad 7) B w) := by
  go_enter Tryz.func120, Tryz.ntmps120
  go_wp2_with (first | (go_at_call 118; refine (word_isL HL.out HX.out _).mono ?_; rintro e w' ⟨rfl, rfl⟩) | (go_at_call 116; refine (small_is HW.out _).mono ?_; rintro e w' ⟨rfl, rfl⟩) | (go_at_call 156; refine (refused_x 7 _).mono ?_; rintro e w' ⟨rfl, hb⟩; obtain ⟨hc, hf⟩ := bcell hb))
  exact bodyPost_ret (v := .tuple #[.agg #[.int .i64 0, .string ⟨#[]⟩, .int .i64 0, .int .i64 0], .int .i64 0, .int .i64 7]) (by simp [results, Tryz.results120, go_sem, hc]) rfl ⟨rfl, below4 hB hb (by simp) _ _ _ _⟩
theorem var_3 {B : Nat} (s x y : ByteArray) (n : Nat) (hs : s.size <= 140737488351232) (h0 : 1 < s.size) (hx : s.extract 1 s.size = x) (HX : Hid (x.size <= 140737488351232)) (hy : s.extract 1 (1 + n) = y) (hns : 1 + n <= s.size) (HY : Hid (y.size <= 281474976710656)) (w : World) (hB : B <= w.heap.size) (HL : Hid (M.wl x = n))
    (hn0 : ((n : Int) == 0) = false) (HW : Hid (M.begW s[1].toNat = true)) (h20 : n <= 20) :
    Calls Tryz.prog 120 #[.string s] w (FP ⟨6, y, 0, 1 + n, 0⟩ B w) := by
  go_enter Tryz.func120, Tryz.ntmps120
  go_wp2_with (first | (go_at_call 118; refine (word_isL HL.out HX.out _).mono ?_; rintro e w' ⟨rfl, rfl⟩) | (go_at_call 116; refine (small_is HW.out _).mono ?_; rintro e w' ⟨rfl, rfl⟩) | (go_at_call 153; refine (taken_x 6 y _ (1 + n) (by omega) HY.out _).mono ?_; rintro e w' ⟨rfl, hb⟩; obtain ⟨hc, hf⟩ := bcell hb))
  exact bodyPost_ret (v := .tuple #[.agg #[.int .i64 6, .string y, .int .i64 0, .int .i64 0], .int .i64 ((1 + n : Nat) : Int), .int .i64 0]) (by simp [results, Tryz.results120, go_sem, hc]) rfl ⟨rfl, below4 hB hb (by simp) _ _ _ _⟩
theorem var_any {B : Nat} (s : ByteArray) (hs : s.size <= 140737488351232) (h0 : 0 < s.size) (w : World) (hB : B <= w.heap.size) :
    Calls Tryz.prog 120 #[.string s] w (FP (varR s) B w) := by
  obtain ⟨x, hx⟩ : ∃ x, s.extract 1 s.size = x := ⟨_, rfl⟩
  have hxs : x.size = s.size - 1 := by rw [<- hx, size_extract]; omega
  have hle := M.wl_le x
  rw [varR, hx]
  by_cases hn : M.wl x = 0
  · rw [if_pos (Or.inl hn)]
    exact var_0 s x hs (by omega) hx (Lib.hid (by omega)) w hB (Lib.hid hn)
  · have h1 : 1 < s.size := by omega
    have hx0 : 0 < x.size := by omega
    have hf : M.fst x = s[1].toNat := by
      rw [M.fst_at hx0]
      subst hx
      rw [ByteArray.getElem_extract]
    have hbeg : (M.begW (M.fst x) || M.begT (M.fst x)) = true := by
      by_cases h : (M.begW (M.fst x) || M.begT (M.fst x)) = true
      · exact h
      · exact absurd (by rw [M.wl, if_neg (fun z => h z.2)]) hn
    have hn0 : ((M.wl x : Int) == 0) = false := by simpa using hn
    by_cases ht : M.begT (M.fst x) = true
    · rw [if_pos (Or.inr ht)]
      have hw : M.begW s[1].toNat = false := by
        rw [<- hf]
        cases h : M.begW (M.fst x) with
        | false => rfl
        | true => rw [M.begT_not h] at ht; cases ht
      exact var_1 s x _ hs h1 hx (Lib.hid (by omega)) w hB (Lib.hid rfl) hn0 (Lib.hid hw)
    · have ht' : M.begT (M.fst x) = false := by simpa using ht
      have hw : M.begW s[1].toNat = true := by rw [<- hf]; rw [ht', Bool.or_false] at hbeg; exact hbeg
      rw [if_neg (by rintro (h | h); exact hn h; exact ht h)]
      by_cases h20 : 20 < M.wl x
      · rw [if_pos h20]
        exact var_2 s x _ hs h1 hx (Lib.hid (by omega)) w hB (Lib.hid rfl) hn0 (Lib.hid hw) h20
      · rw [if_neg h20]
        exact var_3 s x _ _ hs h1 hx (Lib.hid (by omega)) rfl (by omega) (Lib.hid (by rw [size_extract]; omega)) w hB (Lib.hid rfl) hn0 (Lib.hid hw) (by omega)
open Go.RowKit
theorem pre_le {s p : List UInt8} (h : Lib.hasPrefix s p = true) : p.length <= s.length := by
  unfold Lib.hasPrefix at h; exact (List.isPrefixOf_iff_prefix.1 h).length_le
theorem sign_2a {B : Nat} (s y : ByteArray) (h2 : 2 <= s.size) (hy : s.extract 0 2 = y) (HY : Hid (y.size <= 281474976710656)) (w : World) (hB : B <= w.heap.size) (h1 : Lib.hasPrefix s.data.toList [45, 62] = true) :
    Calls Tryz.prog 123 #[.string s] w (FP ⟨7, y, 0, 2, 0⟩ B w) := by
  go_enter Tryz.func123, Tryz.ntmps123
  go_wp2_with (first | (go_at_call 159; refine (Tryz.strings_HasPrefix _ _ _).mono ?_; rintro e w' ⟨rfl, rfl⟩) | (go_at_call 153; refine (taken_x 7 y _ 2 (by omega) HY.out _).mono ?_; rintro e w' ⟨rfl, hb⟩; obtain ⟨hc, hf⟩ := bcell hb))
  exact bodyPost_ret (v := .tuple #[.agg #[.int .i64 7, .string y, .int .i64 0, .int .i64 0], .int .i64 ((2 : Nat) : Int), .int .i64 0]) (by simp [results, Tryz.results123, go_sem, hc]) rfl ⟨rfl, below4 hB hb (by simp) _ _ _ _⟩
theorem sign_2b {B : Nat} (s y : ByteArray) (h2 : 2 <= s.size) (hy : s.extract 0 2 = y) (HY : Hid (y.size <= 281474976710656)) (w : World) (hB : B <= w.heap.size) (h1 : Lib.hasPrefix s.data.toList [45, 62] = false) (h1' : Lib.hasPrefix s.data.toList [61, 61] = true) :
    Calls Tryz.prog 123 #[.string s] w (FP ⟨7, y, 0, 2, 0⟩ B w) := by
  go_enter Tryz.func123, Tryz.ntmps123
  go_wp2_with (first | (go_at_call 159; refine (Tryz.strings_HasPrefix _ _ _).mono ?_; rintro e w' ⟨rfl, rfl⟩) | (go_at_call 153; refine (taken_x 7 y _ 2 (by omega) HY.out _).mono ?_; rintro e w' ⟨rfl, hb⟩; obtain ⟨hc, hf⟩ := bcell hb))
  exact bodyPost_ret (v := .tuple #[.agg #[.int .i64 7, .string y, .int .i64 0, .int .i64 0], .int .i64 ((2 : Nat) : Int), .int .i64 0]) (by simp [results, Tryz.results123, go_sem, hc]) rfl ⟨rfl, below4 hB hb (by simp) _ _ _ _⟩
theorem sign_1 {B : Nat} (s y : ByteArray) (h2 : 0 < s.size) (hy : s.extract 0 1 = y) (HY : Hid (y.size <= 281474976710656)) (w : World) (hB : B <= w.heap.size) (h1 : Lib.hasPrefix s.data.toList [45, 62] = false) (h1' : Lib.hasPrefix s.data.toList [61, 61] = false) (HS : Hid (isSign s[0] = true)) :
    Calls Tryz.prog 123 #[.string s] w (FP ⟨7, y, 0, 1, 0⟩ B w) := by
  go_enter Tryz.func123, Tryz.ntmps123
  go_wp2_with (first | (go_at_call 159; refine (Tryz.strings_HasPrefix _ _ _).mono ?_; rintro e w' ⟨rfl, rfl⟩) | (go_at_call 116; refine (sign_is HS.out _).mono ?_; rintro e w' ⟨rfl, rfl⟩) | (go_at_call 153; refine (taken_x 7 y _ 1 (by omega) HY.out _).mono ?_; rintro e w' ⟨rfl, hb⟩; obtain ⟨hc, hf⟩ := bcell hb))
  exact bodyPost_ret (v := .tuple #[.agg #[.int .i64 7, .string y, .int .i64 0, .int .i64 0], .int .i64 ((1 : Nat) : Int), .int .i64 0]) (by simp [results, Tryz.results123, go_sem, hc]) rfl ⟨rfl, below4 hB hb (by simp) _ _ _ _⟩
theorem sign_0 {B : Nat} (s : ByteArray) (h2 : 0 < s.size) (w : World) (hB : B <= w.heap.size) (h1 : Lib.hasPrefix s.data.toList [45, 62] = false) (h1' : Lib.hasPrefix s.data.toList [61, 61] = false) (HS : Hid (isSign s[0] = false)) :
    Calls Tryz.prog 123 #[.string s] w (FP (bad 5) B w) := by
  go_enter Tryz.func123, Tryz.ntmps123
  go_wp2_with (first | (go_at_call 159; refine (Tryz.strings_HasPrefix _ _ _).mono ?_; rintro e w' ⟨rfl, rfl⟩) | (go_at_call 116; refine (sign_is HS.out _).mono ?_; rintro e w' ⟨rfl, rfl⟩) | (go_at_call 156; refine (refused_x 5 _).mono ?_; rintro e w' ⟨rfl, hb⟩; obtain ⟨hc, hf⟩ := bcell hb))
  exact bodyPost_ret (v := .tuple #[.agg #[.int .i64 0, .string ⟨#[]⟩, .int .i64 0, .int .i64 0], .int .i64 0, .int .i64 5]) (by simp [results, Tryz.results123, go_sem, hc]) rfl ⟨rfl, below4 hB hb (by simp) _ _ _ _⟩
theorem headD_at {s : ByteArray} (h : 0 < s.size) : s.data.toList.headD 0 = s[0] := by
  have := M.drop_at s 0 h
  rw [List.drop_zero] at this
  rw [this]; rfl
theorem sign_any {B : Nat} (s : ByteArray) (hs : s.size <= 140737488351232) (h0 : 0 < s.size) (w : World) (hB : B <= w.heap.size) :
    Calls Tryz.prog 123 #[.string s] w (FP (signR s) B w) := by
  cases h1 : Lib.hasPrefix s.data.toList [45, 62] with
  | true =>
    have h2 := pre_le h1
    rw [M.size_len] at h2
    have e : sg s = 2 := by rw [sg, two, h1]; rfl
    rw [signR, e, if_neg (by omega)]
    exact sign_2a s _ h2 rfl (Lib.hid (by rw [size_extract]; omega)) w hB h1
  | false =>
    cases h1' : Lib.hasPrefix s.data.toList [61, 61] with
    | true =>
      have h2 := pre_le h1'
      rw [M.size_len] at h2
      have e : sg s = 2 := by rw [sg, two, h1, h1']; rfl
      rw [signR, e, if_neg (by omega)]
      exact sign_2b s _ h2 rfl (Lib.hid (by rw [size_extract]; omega)) w hB h1 h1'
    | false =>
      cases hS : isSign s[0] with
      | true =>
        have e : sg s = 1 := by rw [sg, two, h1, h1', headD_at h0, hS]; rfl
        rw [signR, e, if_neg (by omega)]
        exact sign_1 s _ h0 rfl (Lib.hid (by rw [size_extract]; omega)) w hB h1 h1' (Lib.hid hS)
      | false =>
        have e : sg s = 0 := by rw [sg, two, h1, h1', headD_at h0, hS]; rfl
        rw [signR, e, if_pos rfl]
        exact sign_0 s h0 w hB h1 h1' (Lib.hid hS)
theorem text_ok {B : Nat} (s T : ByteArray) (n : Nat) (HT : Hid (T.size <= 281474976710656)) (w : World) (hB : B <= w.heap.size)
    (HC : Hid (∀ w1, Calls Tryz.prog 158 #[.string s] w1 fun e w' => e = .returned (.tuple #[.string T, .int .i64 (n : Int), .int .i64 0]) /\ Below w1.heap.size w1 w')) :
    Calls Tryz.prog 122 #[.string s] w (FP ⟨5, T, 0, n, 0⟩ B w) := by
  go_enter Tryz.func122, Tryz.ntmps122
  go_wp2_with (first | (go_at_call 158; refine (HC.out _).mono ?_; rintro e w1 ⟨rfl, hb1⟩) | (go_at_call 153; refine (taken_x 5 T _ n rfl HT.out _).mono ?_; rintro e w' ⟨rfl, hb2⟩; have hb := hb1.trans (hb2.mono hb1.size); obtain ⟨hc, hf⟩ := bcell hb))
  exact bodyPost_ret (v := .tuple #[.agg #[.int .i64 5, .string T, .int .i64 0, .int .i64 0], .int .i64 (n : Int), .int .i64 0]) (by simp [results, Tryz.results122, go_sem, hc]) rfl ⟨rfl, below4 hB hb (by simp) _ _ _ _⟩
theorem text_no {B : Nat} (s T : ByteArray) (n : Nat) (x : Int) (hx : (x != 0) = true) (w : World) (hB : B <= w.heap.size)
    (HC : Hid (∀ w1, Calls Tryz.prog 158 #[.string s] w1 fun e w' => e = .returned (.tuple #[.string T, .int .i64 (n : Int), .int .i64 x]) /\ Below w1.heap.size w1 w')) :
    Calls Tryz.prog 122 #[.string s] w (FP (bad x) B w) := by
  go_enter Tryz.func122, Tryz.ntmps122
  go_wp2_with (first | (go_at_call 158; refine (HC.out _).mono ?_; rintro e w1 ⟨rfl, hb1⟩) | (go_at_call 156; refine (refused_x x _).mono ?_; rintro e w' ⟨rfl, hb2⟩; have hb := hb1.trans (hb2.mono hb1.size); obtain ⟨hc, hf⟩ := bcell hb))
  exact bodyPost_ret (v := .tuple #[.agg #[.int .i64 0, .string ⟨#[]⟩, .int .i64 0, .int .i64 0], .int .i64 0, .int .i64 x]) (by simp [results, Tryz.results122, go_sem, hc]) rfl ⟨rfl, below4 hB hb (by simp) _ _ _ _⟩
theorem tT_len (o : Option (List UInt8 × Nat)) : (Q.tT o).length <= 200 := by
  unfold Q.tT
  split
  · simp
  · split
    · simp
    · omega
theorem text_any {B : Nat} (s : ByteArray) (hs : s.size <= 140737488351232) (w : World) (hB : B <= w.heap.size) :
    Calls Tryz.prog 122 #[.string s] w (FP (strR s) B w) := by
  have HC : Hid (∀ w1 : World, Calls Tryz.prog 158 #[.string s] w1 (Q.TkPost (Q.tq s.data.toList) w1.heap.size w1)) := Lib.hid fun w1 => Q.take_any s (by omega) w1 (Nat.le_refl _)
  have hl := tT_len (Q.tq s.data.toList)
  rw [strR]
  unfold Q.TkPost Q.TkEnd at HC
  generalize Q.tT (Q.tq s.data.toList) = T at *
  generalize Q.tN (Q.tq s.data.toList) = n at *
  generalize Q.tE (Q.tq s.data.toList) = x at *
  by_cases hx : x = 0
  · subst hx
    rw [if_pos rfl]
    exact text_ok s _ n (Lib.hid (by rw [<- M.size_len]; simp; omega)) w hB HC
  · rw [if_neg hx]
    exact text_no s _ n x (by simpa using hx) w hB HC
open Go.RowKit
theorem number_ok {B : Nat} (s t : ByteArray) (n : Nat) (v : Int) (hs : s.size <= 140737488351232) (h0 : 1 <= s.size) (HN : Hid (n = 1 + dl s 1)) (hn : n <= s.size) (HTT : Hid (s.extract 0 n = t)) (w : World) (hB : B <= w.heap.size)
    (HC : Hid (∀ w1, Below B w w1 -> B <= w1.heap.size -> Calls Tryz.prog 157 #[.string t] w1 fun e w' => e = .returned (.tuple #[.int .i64 v, .int .i64 0]) /\ Below w1.heap.size w1 w')) :
    Calls Tryz.prog 121 #[.string s] w (FP ⟨4, ⟨#[]⟩, v, n, 0⟩ B w) := by
  go_enter Tryz.func121, Tryz.ntmps121
  go_wp2
  go_loop [5] (fun i => ∃ k : Nat, 1 <= k /\ k <= s.size /\ i = .int .i64 k /\ Hid (n = k + dl s k)) (fun i => s.size - (intOf i).toNat)
  case atStart => exact ⟨1, by omega, by omega, rfl, HN⟩
  case round =>
    obtain ⟨k, hk1, hk, rfl, HK⟩ := hrel
    by_cases hlt : k < s.size
    · cases hg : M.isD s[k].toNat with
      | true =>
        have HN' : Hid (n = (k + 1 : Nat) + dl s (k + 1)) := by have := HK.out; rw [dl_go hlt hg] at this; exact Lib.hid (by omega)
        have HG := Lib.hid hg
        clear hg
        go_wp2_with (go_at_call 116; refine (digit_is HG.out _).mono ?_; rintro e w' ⟨rfl, rfl⟩)
        go_round
        case rel => exact ⟨k + 1, by omega, by omega, by go_num, HN'⟩
        case measure => simp [intOf]; omega
      | false =>
        have hk2 : n = k := by have := HK.out; rw [dl_stop hlt hg] at this; omega
        subst hk2
        have ht := HTT.out
        have HG := Lib.hid hg
        clear hg
        go_wp2_with (first | (go_at_call 116; refine (digit_is HG.out _).mono ?_; rintro e w' ⟨rfl, rfl⟩) | (go_at_call 157; refine (HC.out _ ((Below.refl _ _).alloc hB _) (by simp; omega)).mono ?_; rintro e w' ⟨rfl, hb⟩; obtain ⟨hc, hf⟩ := bcell hb))
        exact bodyPost_ret (v := .tuple #[.agg #[.int .i64 4, .string ⟨#[]⟩, .int .i64 v, .int .i64 0], .int .i64 (n : Int), .int .i64 0]) (by simp [results, Tryz.results121, go_sem, hc]) rfl ⟨rfl, below4 hB hb (by simp) _ _ _ _⟩
    · have hk2 : n = k := by have := HK.out; rw [dl_end (by omega)] at this; omega
      subst hk2
      have ht := HTT.out
      go_wp2_with (first | (go_at_call 157; refine (HC.out _ ((Below.refl _ _).alloc hB _) (by simp; omega)).mono ?_; rintro e w' ⟨rfl, hb⟩; obtain ⟨hc, hf⟩ := bcell hb))
      exact bodyPost_ret (v := .tuple #[.agg #[.int .i64 4, .string ⟨#[]⟩, .int .i64 v, .int .i64 0], .int .i64 (n : Int), .int .i64 0]) (by simp [results, Tryz.results121, go_sem, hc]) rfl ⟨rfl, below4 hB hb (by simp) _ _ _ _⟩
theorem number_no {B : Nat} (s t : ByteArray) (n : Nat) (v x : Int) (hx : (x != 0) = true) (hs : s.size <= 140737488351232) (h0 : 1 <= s.size) (HN : Hid (n = 1 + dl s 1)) (hn : n <= s.size) (HTT : Hid (s.extract 0 n = t)) (w : World) (hB : B <= w.heap.size)
    (HC : Hid (∀ w1, Below B w w1 -> B <= w1.heap.size -> Calls Tryz.prog 157 #[.string t] w1 fun e w' => e = .returned (.tuple #[.int .i64 v, .int .i64 x]) /\ Below w1.heap.size w1 w')) :
    Calls Tryz.prog 121 #[.string s] w (FP (bad x) B w) := by
  go_enter Tryz.func121, Tryz.ntmps121
  go_wp2
  go_loop [5] (fun i => ∃ k : Nat, 1 <= k /\ k <= s.size /\ i = .int .i64 k /\ Hid (n = k + dl s k)) (fun i => s.size - (intOf i).toNat)
  case atStart => exact ⟨1, by omega, by omega, rfl, HN⟩
  case round =>
    obtain ⟨k, hk1, hk, rfl, HK⟩ := hrel
    by_cases hlt : k < s.size
    · cases hg : M.isD s[k].toNat with
      | true =>
        have HN' : Hid (n = (k + 1 : Nat) + dl s (k + 1)) := by have := HK.out; rw [dl_go hlt hg] at this; exact Lib.hid (by omega)
        have HG := Lib.hid hg
        clear hg
        go_wp2_with (go_at_call 116; refine (digit_is HG.out _).mono ?_; rintro e w' ⟨rfl, rfl⟩)
        go_round
        case rel => exact ⟨k + 1, by omega, by omega, by go_num, HN'⟩
        case measure => simp [intOf]; omega
      | false =>
        have hk2 : n = k := by have := HK.out; rw [dl_stop hlt hg] at this; omega
        subst hk2
        have ht := HTT.out
        have HG := Lib.hid hg
        clear hg
        go_wp2_with (first | (go_at_call 116; refine (digit_is HG.out _).mono ?_; rintro e w' ⟨rfl, rfl⟩) | (go_at_call 157; refine (HC.out _ ((Below.refl _ _).alloc hB _) (by simp; omega)).mono ?_; rintro e w1 ⟨rfl, hb1⟩) | (go_at_call 156; refine (refused_x x _).mono ?_; rintro e w' ⟨rfl, hb2⟩; have hb := hb1.trans (hb2.mono hb1.size); obtain ⟨hc, hf⟩ := bcell hb))
        exact bodyPost_ret (v := .tuple #[.agg #[.int .i64 0, .string ⟨#[]⟩, .int .i64 0, .int .i64 0], .int .i64 0, .int .i64 x]) (by simp [results, Tryz.results121, go_sem, hc]) rfl ⟨rfl, below4 hB hb (by simp) _ _ _ _⟩
    · have hk2 : n = k := by have := HK.out; rw [dl_end (by omega)] at this; omega
      subst hk2
      have ht := HTT.out
      go_wp2_with (first | (go_at_call 157; refine (HC.out _ ((Below.refl _ _).alloc hB _) (by simp; omega)).mono ?_; rintro e w1 ⟨rfl, hb1⟩) | (go_at_call 156; refine (refused_x x _).mono ?_; rintro e w' ⟨rfl, hb2⟩; have hb := hb1.trans (hb2.mono hb1.size); obtain ⟨hc, hf⟩ := bcell hb))
      exact bodyPost_ret (v := .tuple #[.agg #[.int .i64 0, .string ⟨#[]⟩, .int .i64 0, .int .i64 0], .int .i64 0, .int .i64 x]) (by simp [results, Tryz.results121, go_sem, hc]) rfl ⟨rfl, below4 hB hb (by simp) _ _ _ _⟩
theorem number_any {B : Nat} (s : ByteArray) (hs : s.size <= 140737488351232) (h0 : 1 <= s.size) (w : World) (hB : B <= w.heap.size) (hP : Pow B w) :
    Calls Tryz.prog 121 #[.string s] w (FP (numR (s.extract 0 (1 + dl s 1))) B w) := by
  have hle := dl_le s 1 h0
  obtain ⟨t, ht⟩ : ∃ t, s.extract 0 (1 + dl s 1) = t := ⟨_, rfl⟩
  have hts : t.size = 1 + dl s 1 := by rw [<- ht, size_extract]; omega
  rw [ht]
  have HC : Hid (∀ w1, Below B w w1 -> B <= w1.heap.size -> Calls Tryz.prog 157 #[.string t] w1 fun e w' => e = .returned (.tuple #[.int .i64 (W.pv t.data.toList), .int .i64 (W.pe t.data.toList)]) /\ Below w1.heap.size w1 w') :=
    Lib.hid fun w1 hb h1 => W.parse_any t (by omega) w1 (fun w' h' => (hP.on hb) w' (h'.mono h1)) (Nat.le_refl _)
  rw [numR]
  generalize W.pv t.data.toList = v at *
  generalize W.pe t.data.toList = x at *
  by_cases hx : x = 0
  · subst hx
    rw [if_pos rfl, hts]
    exact number_ok s t _ v hs h0 (Lib.hid rfl) hle (Lib.hid ht) w hB HC
  · rw [if_neg hx]
    exact number_no s t _ v x (by simpa using hx) hs h0 (Lib.hid rfl) hle (Lib.hid ht) w hB HC
def On (B : Nat) (w : World) : Prop := Kws B w /\ Pow B w
theorem On.on {B : Nat} {w w1 : World} (h : On B w) (hb : Below B w w1) : On B w1 := ⟨h.1.on hb, h.2.on hb⟩
theorem On.up {B B' : Nat} {w : World} (h : On B w) (hb : B <= B') : On B' w := ⟨⟨Nat.lt_of_lt_of_le h.1.1 hb, h.1.2⟩, fun w' h' => h.2 w' (h'.mono hb)⟩
def Gives (f : Nat) (a : ByteArray) (B : Nat) (w : World) (k : Int) (t : ByteArray) (n : Int) (l : Nat) (x : Int) : Prop :=
  ∀ w1, Below B w w1 -> B <= w1.heap.size -> Calls Tryz.prog f #[.string a] w1 fun e w' => e = .returned (.tuple #[.agg #[.int .i64 k, .string t, .int .i64 n, .int .i64 0], .int .i64 (l : Int), .int .i64 x]) /\ Below w1.heap.size w1 w'
theorem first_w {B : Nat} (s : ByteArray) (k : Int) (t : ByteArray) (n : Int) (l : Nat) (x : Int) (hs : s.size <= 140737488351232) (_ : 0 < s.size) (w : World) (hB : B <= w.heap.size) (m : Nat) (hm : 0 < m) (hms : m <= s.size) (y : ByteArray) (hy : s.extract 0 m = y) (HL : Hid (M.wl s = m)) (HC : Hid (Gives 119 y B w k t n l x)) :
    Calls Tryz.prog 80 #[.string s] w (FP ⟨k, t, n, l, x⟩ B w) := by
  have HS := Lib.hid hs
  go_enter Tryz.func80, Tryz.ntmps80
  go_wp2_with (first | (go_at_call 118; refine (word_isL HL.out HS.out _).mono ?_; rintro e w' ⟨rfl, rfl⟩) | (go_at_call 119; refine (HC.out _ ((Below.refl _ _).alloc hB _) (by simp; omega)).mono ?_; rintro e w' ⟨rfl, hb⟩; obtain ⟨hc, hf⟩ := bcell hb))
  exact bodyPost_ret (v := .tuple #[.agg #[.int .i64 k, .string t, .int .i64 n, .int .i64 0], .int .i64 (l : Int), .int .i64 x]) (by simp [results, Tryz.results80, go_sem, hc]) rfl ⟨rfl, below4 hB hb (by simp) _ _ _ _⟩
theorem first_v {B : Nat} (s : ByteArray) (k : Int) (t : ByteArray) (n : Int) (l : Nat) (x : Int) (hs : s.size <= 140737488351232) (h0 : 0 < s.size) (w : World) (hB : B <= w.heap.size) (HL : Hid (M.wl s = 0)) (h39 : ((s[0].toNat : Int) == 39) = true) (HC : Hid (Gives 120 s B w k t n l x)) :
    Calls Tryz.prog 80 #[.string s] w (FP ⟨k, t, n, l, x⟩ B w) := by
  have HS := Lib.hid hs
  go_enter Tryz.func80, Tryz.ntmps80
  go_wp2_with (first | (go_at_call 118; refine (word_isL HL.out HS.out _).mono ?_; rintro e w' ⟨rfl, rfl⟩) | (go_at_call 120; refine (HC.out _ ((Below.refl _ _).alloc hB _) (by simp; omega)).mono ?_; rintro e w' ⟨rfl, hb⟩; obtain ⟨hc, hf⟩ := bcell hb))
  exact bodyPost_ret (v := .tuple #[.agg #[.int .i64 k, .string t, .int .i64 n, .int .i64 0], .int .i64 (l : Int), .int .i64 x]) (by simp [results, Tryz.results80, go_sem, hc]) rfl ⟨rfl, below4 hB hb (by simp) _ _ _ _⟩
theorem first_n1 {B : Nat} (s : ByteArray) (k : Int) (t : ByteArray) (n : Int) (l : Nat) (x : Int) (hs : s.size <= 140737488351232) (h0 : 0 < s.size) (w : World) (hB : B <= w.heap.size) (HL : Hid (M.wl s = 0)) (h39 : ((s[0].toNat : Int) == 39) = false) (h126 : ((s[0].toNat : Int) == 126) = true) (HC : Hid (Gives 121 s B w k t n l x)) :
    Calls Tryz.prog 80 #[.string s] w (FP ⟨k, t, n, l, x⟩ B w) := by
  have HS := Lib.hid hs
  go_enter Tryz.func80, Tryz.ntmps80
  go_wp2_with (first | (go_at_call 118; refine (word_isL HL.out HS.out _).mono ?_; rintro e w' ⟨rfl, rfl⟩) | (go_at_call 121; refine (HC.out _ ((Below.refl _ _).alloc hB _) (by simp; omega)).mono ?_; rintro e w' ⟨rfl, hb⟩; obtain ⟨hc, hf⟩ := bcell hb))
  exact bodyPost_ret (v := .tuple #[.agg #[.int .i64 k, .string t, .int .i64 n, .int .i64 0], .int .i64 (l : Int), .int .i64 x]) (by simp [results, Tryz.results80, go_sem, hc]) rfl ⟨rfl, below4 hB hb (by simp) _ _ _ _⟩
theorem first_n2 {B : Nat} (s : ByteArray) (k : Int) (t : ByteArray) (n : Int) (l : Nat) (x : Int) (hs : s.size <= 140737488351232) (h0 : 0 < s.size) (w : World) (hB : B <= w.heap.size) (HL : Hid (M.wl s = 0)) (h39 : ((s[0].toNat : Int) == 39) = false) (h126 : ((s[0].toNat : Int) == 126) = false) (HD : Hid (M.isD s[0].toNat = true)) (HC : Hid (Gives 121 s B w k t n l x)) :
    Calls Tryz.prog 80 #[.string s] w (FP ⟨k, t, n, l, x⟩ B w) := by
  have HS := Lib.hid hs
  go_enter Tryz.func80, Tryz.ntmps80
  go_wp2_with (first | (go_at_call 118; refine (word_isL HL.out HS.out _).mono ?_; rintro e w' ⟨rfl, rfl⟩) | (go_at_call 116; refine (digit_is HD.out _).mono ?_; rintro e w' ⟨rfl, rfl⟩) | (go_at_call 121; refine (HC.out _ ((Below.refl _ _).alloc hB _) (by simp; omega)).mono ?_; rintro e w' ⟨rfl, hb⟩; obtain ⟨hc, hf⟩ := bcell hb))
  exact bodyPost_ret (v := .tuple #[.agg #[.int .i64 k, .string t, .int .i64 n, .int .i64 0], .int .i64 (l : Int), .int .i64 x]) (by simp [results, Tryz.results80, go_sem, hc]) rfl ⟨rfl, below4 hB hb (by simp) _ _ _ _⟩
theorem first_t {B : Nat} (s : ByteArray) (k : Int) (t : ByteArray) (n : Int) (l : Nat) (x : Int) (hs : s.size <= 140737488351232) (h0 : 0 < s.size) (w : World) (hB : B <= w.heap.size) (HL : Hid (M.wl s = 0)) (h39 : ((s[0].toNat : Int) == 39) = false) (h126 : ((s[0].toNat : Int) == 126) = false) (HD : Hid (M.isD s[0].toNat = false)) (h34 : ((s[0].toNat : Int) == 34) = true) (HC : Hid (Gives 122 s B w k t n l x)) :
    Calls Tryz.prog 80 #[.string s] w (FP ⟨k, t, n, l, x⟩ B w) := by
  have HS := Lib.hid hs
  go_enter Tryz.func80, Tryz.ntmps80
  go_wp2_with (first | (go_at_call 118; refine (word_isL HL.out HS.out _).mono ?_; rintro e w' ⟨rfl, rfl⟩) | (go_at_call 116; refine (digit_is HD.out _).mono ?_; rintro e w' ⟨rfl, rfl⟩) | (go_at_call 122; refine (HC.out _ ((Below.refl _ _).alloc hB _) (by simp; omega)).mono ?_; rintro e w' ⟨rfl, hb⟩; obtain ⟨hc, hf⟩ := bcell hb))
  exact bodyPost_ret (v := .tuple #[.agg #[.int .i64 k, .string t, .int .i64 n, .int .i64 0], .int .i64 (l : Int), .int .i64 x]) (by simp [results, Tryz.results80, go_sem, hc]) rfl ⟨rfl, below4 hB hb (by simp) _ _ _ _⟩
theorem first_s {B : Nat} (s : ByteArray) (k : Int) (t : ByteArray) (n : Int) (l : Nat) (x : Int) (hs : s.size <= 140737488351232) (h0 : 0 < s.size) (w : World) (hB : B <= w.heap.size) (HL : Hid (M.wl s = 0)) (h39 : ((s[0].toNat : Int) == 39) = false) (h126 : ((s[0].toNat : Int) == 126) = false) (HD : Hid (M.isD s[0].toNat = false)) (h34 : ((s[0].toNat : Int) == 34) = false) (HC : Hid (Gives 123 s B w k t n l x)) :
    Calls Tryz.prog 80 #[.string s] w (FP ⟨k, t, n, l, x⟩ B w) := by
  have HS := Lib.hid hs
  go_enter Tryz.func80, Tryz.ntmps80
  go_wp2_with (first | (go_at_call 118; refine (word_isL HL.out HS.out _).mono ?_; rintro e w' ⟨rfl, rfl⟩) | (go_at_call 116; refine (digit_is HD.out _).mono ?_; rintro e w' ⟨rfl, rfl⟩) | (go_at_call 123; refine (HC.out _ ((Below.refl _ _).alloc hB _) (by simp; omega)).mono ?_; rintro e w' ⟨rfl, hb⟩; obtain ⟨hc, hf⟩ := bcell hb))
  exact bodyPost_ret (v := .tuple #[.agg #[.int .i64 k, .string t, .int .i64 n, .int .i64 0], .int .i64 (l : Int), .int .i64 x]) (by simp [results, Tryz.results80, go_sem, hc]) rfl ⟨rfl, below4 hB hb (by simp) _ _ _ _⟩
theorem gives_of {f : Nat} {a : ByteArray} {B : Nat} {w : World} {r : R} (h : ∀ w1, Below B w w1 -> B <= w1.heap.size -> Calls Tryz.prog f #[.string a] w1 (FP r w1.heap.size w1)) : Hid (Gives f a B w r.k r.t r.n r.long r.e) := Lib.hid h
theorem eqb {a b : Nat} (h : a = b) : ((a : Int) == (b : Int)) = true := by simp [h]
theorem neb {a b : Nat} (h : a ≠ b) : ((a : Int) == (b : Int)) = false := by simp; omega
theorem wl_word (s : ByteArray) (h : 0 < M.wl s) : M.wl (s.extract 0 (M.wl s)) = (s.extract 0 (M.wl s)).size := by
  have hle := M.wl_le s
  have h0 : 0 < s.size := by omega
  have hb : (M.begW (M.fst s) || M.begT (M.fst s)) = true := by
    by_cases h' : (M.begW (M.fst s) || M.begT (M.fst s)) = true
    · exact h'
    · rw [M.wl, if_neg (fun x => h' x.2)] at h; omega
  have hsz : (s.extract 0 (M.wl s)).size = M.wl s := by rw [size_extract]; omega
  have hw : M.wl s = 1 + M.more s 1 := M.wl_w h0 hb
  have hf : M.fst (s.extract 0 (M.wl s)) = M.fst s := by
    rw [M.fst_at (by omega), M.fst_at h0, ByteArray.getElem_extract]
  rw [hsz, M.wl_w (by omega) (by rw [hf]; exact hb), hw]
  rw [M.more, data_extract]
  have e : ((s.data.toList.drop 0).take (1 + M.more s 1 - 0)).drop 1 = (s.data.toList.drop 1).take (M.more s 1) := by
    rw [List.drop_zero, List.drop_take]; congr 1; omega
  rw [e]
  have h2 : M.more s 1 = ((s.data.toList.drop 1).takeWhile fun c => M.goes c.toNat).length := rfl
  rw [h2]
  generalize s.data.toList.drop 1 = l
  congr 1
  induction l with
  | nil => rfl
  | cons c r ih =>
    rw [List.takeWhile_cons]
    by_cases hc : M.goes c.toNat = true
    · rw [if_pos hc, List.length_cons, List.take_succ_cons, List.takeWhile_cons, if_pos hc, List.length_cons, ih]
    · rw [if_neg hc]; rfl
theorem first_any {B : Nat} (s : ByteArray) (hs : s.size <= 140737488351232) (h0 : 0 < s.size) (w : World) (hB : B <= w.heap.size) (hO : On B w) :
    Calls Tryz.prog 80 #[.string s] w (FP (tok s) B w) := by
  have hf := M.fst_at h0
  have hle := M.wl_le s
  rw [tok]
  by_cases h1 : 0 < M.wl s
  · rw [if_pos h1]
    have hsz : (s.extract 0 (M.wl s)).size = M.wl s := by rw [size_extract]; omega
    exact first_w s _ _ _ _ _ hs h0 w hB _ h1 hle _ rfl (Lib.hid rfl) (gives_of fun w1 hb h => word_any _ (by omega) (by omega) (wl_word s h1) w1 (Nat.le_refl _) ((hO.on hb).up h).1)
  · rw [if_neg h1]
    have HL : Hid (M.wl s = 0) := Lib.hid (by omega)
    by_cases h39 : M.fst s = 39
    · rw [if_pos h39]
      exact first_v s _ _ _ _ _ hs h0 w hB HL (eqb (by rw [<- hf]; exact h39)) (gives_of fun w1 _ _ => var_any s hs h0 w1 (Nat.le_refl _))
    · rw [if_neg h39]
      have n39 : ((s[0].toNat : Int) == 39) = false := neb (b := 39) (by rw [<- hf]; exact h39)
      by_cases h126 : M.fst s = 126
      · rw [if_pos (Or.inl h126)]
        exact first_n1 s _ _ _ _ _ hs h0 w hB HL n39 (eqb (by rw [<- hf]; exact h126)) (gives_of fun w1 hb h => number_any s hs h0 w1 (Nat.le_refl _) ((hO.on hb).up h).2)
      · have n126 : ((s[0].toNat : Int) == 126) = false := neb (b := 126) (by rw [<- hf]; exact h126)
        by_cases hd : M.isD (M.fst s) = true
        · rw [if_pos (Or.inr hd)]
          exact first_n2 s _ _ _ _ _ hs h0 w hB HL n39 n126 (Lib.hid (by rw [<- hf]; exact hd)) (gives_of fun w1 hb h => number_any s hs h0 w1 (Nat.le_refl _) ((hO.on hb).up h).2)
        · rw [if_neg (by rintro (h | h); exact h126 h; exact hd h)]
          have nd : Hid (M.isD s[0].toNat = false) := Lib.hid (by rw [<- hf]; simpa using hd)
          by_cases h34 : M.fst s = 34
          · rw [if_pos h34]
            exact first_t s _ _ _ _ _ hs h0 w hB HL n39 n126 nd (eqb (by rw [<- hf]; exact h34)) (gives_of fun w1 _ _ => text_any s hs w1 (Nat.le_refl _))
          · rw [if_neg h34]
            exact first_s s _ _ _ _ _ hs h0 w hB HL n39 n126 nd (neb (b := 34) (by rw [<- hf]; exact h34)) (gives_of fun w1 _ _ => sign_any s hs h0 w1 (Nat.le_refl _))
open Go.RowKit
def gp : Bool -> List UInt8 -> Nat
  | _, [] => 0
  | true, c :: r => if c.toNat = 10 then 1 + gp false r else 1 + gp true r
  | false, c :: r => if isB c.toNat = true then 1 + gp false r else if c.toNat = 35 then 1 + gp true r else 0
theorem gp_le : ∀ (l : List UInt8) (b : Bool), gp b l <= l.length
  | [], b => by cases b <;> simp [gp]
  | c :: r, true => by
    have h1 := gp_le r true
    have h2 := gp_le r false
    simp only [gp, List.length_cons]; split <;> omega
  | c :: r, false => by
    have h1 := gp_le r true
    have h2 := gp_le r false
    simp only [gp, List.length_cons]; split
    · omega
    · split <;> omega
theorem gp_blank {c : UInt8} {r : List UInt8} (h : isB c.toNat = true) : gp false (c :: r) = 1 + gp false r := by rw [gp, if_pos h]
theorem gp_hash {c : UInt8} {r : List UInt8} (h : c.toNat = 35) : gp false (c :: r) = 1 + gp true r := by
  rw [gp, if_neg (by rw [h]; decide), if_pos h]
theorem gp_tok {c : UInt8} {r : List UInt8} (h : isB c.toNat = false) (h' : c.toNat ≠ 35) : gp false (c :: r) = 0 := by
  rw [gp, if_neg (by rw [h]; decide), if_neg h']
theorem gp_in {c : UInt8} {r : List UInt8} (h : c.toNat ≠ 10) : gp true (c :: r) = 1 + gp true r := by rw [gp, if_neg h]
theorem gp_out {c : UInt8} {r : List UInt8} (h : c.toNat = 10) : gp true (c :: r) = gp false (c :: r) := by
  rw [gp, if_pos h, gp_blank (by rw [h]; decide)]
theorem gp_rem : ∀ (l : List UInt8), (Lib.indexByte l 10 = -1 /\ gp true l = l.length) ∨ ∃ k : Nat, Lib.indexByte l 10 = k /\ k <= l.length /\ gp true l = k + gp false (l.drop k)
  | [] => .inl ⟨rfl, rfl⟩
  | c :: r => by
    by_cases hc : c.toNat = 10
    · have e : c = 10 := UInt8.toNat_inj.1 (by rw [hc]; rfl)
      exact .inr ⟨0, by rw [e]; rfl, by omega, by rw [gp_out hc, List.drop_zero]; omega⟩
    · have e : ¬ c = 10 := fun e => hc (by rw [e]; rfl)
      rw [gp_in hc]
      rcases gp_rem r with ⟨h1, h2⟩ | ⟨k, h1, hk, h2⟩
      · exact .inl ⟨by simp [Lib.indexByte, e, h1], by rw [h2, List.length_cons]; omega⟩
      · refine .inr ⟨k + 1, ?_, by rw [List.length_cons]; omega, by rw [h2, List.drop_succ_cons]; omega⟩
        simp [Lib.indexByte, e, h1]
theorem drop_list (s : ByteArray) (k : Nat) : (s.extract k s.size).data.toList = s.data.toList.drop k := by
  rw [data_extract]
  exact List.take_of_length_le (by rw [List.length_drop, M.size_len]; omega)
theorem blank35 (w : World) : Calls Tryz.prog 116 #[.string blanks, .int .u8 35] w fun e w' => e = .returned (.bool false) /\ w = w' := blank_is (c := 35) (by decide) w
theorem passed_any (s : ByteArray) (hs : s.size <= 140737488351232) (w : World) :
    Calls Tryz.prog 79 #[.string s] w fun e w' => e = .returned (.int .i64 (gp false s.data.toList)) /\ w = w' := by
  obtain ⟨G, hG⟩ : ∃ G, gp false s.data.toList = G := ⟨_, rfl⟩
  have HG0 : Hid (G = 0 + gp false (s.data.toList.drop 0)) := Lib.hid (by rw [List.drop_zero]; omega)
  rw [hG]
  clear hG
  go_enter Tryz.func79, Tryz.ntmps79
  go_wp2
  go_loop [3] (fun i => ∃ k : Nat, k <= s.size /\ i = .int .i64 k /\ Hid (G = k + gp false (s.data.toList.drop k))) (fun i => s.size - (intOf i).toNat)
  case atStart => exact ⟨0, by omega, rfl, HG0⟩
  case round =>
    obtain ⟨k, hk, rfl, HK⟩ := hrel
    by_cases hlt : k < s.size
    · have hd := M.drop_at s k hlt
      cases hb : isB s[k].toNat with
      | true =>
        have HN : Hid (G = (k + 1 : Nat) + gp false (s.data.toList.drop (k + 1))) := by have := HK.out; rw [hd, gp_blank hb] at this; exact Lib.hid (by omega)
        have HB := Lib.hid hb
        clear hb hd
        go_wp2_with (go_at_call 116; refine (blank_is HB.out _).mono ?_; rintro e w' ⟨rfl, rfl⟩)
        go_round
        case rel => exact ⟨k + 1, by omega, by go_num, HN⟩
        case measure => simp [intOf]; omega
      | false =>
        by_cases h35 : s[k].toNat = 35
        · have e1 : gp false (s.data.toList.drop k) = gp true (s.data.toList.drop k) := by
            rw [hd, gp_hash h35, gp_in (by omega)]
          obtain ⟨x, hx⟩ : ∃ x, s.extract k s.size = x := ⟨_, rfl⟩
          have hxl : x.data.toList = s.data.toList.drop k := by rw [<- hx]; exact drop_list s k
          have hxs : x.size = s.size - k := by rw [<- hx, size_extract]; omega
          have hq := eqb h35
          rcases gp_rem x.data.toList with ⟨h1, h2⟩ | ⟨j, h1, hj, h2⟩
          · have HN : Hid (G = s.size) := by have := HK.out; rw [e1, <- hxl, h2, M.size_len, hxs] at this; exact Lib.hid (by omega)
            have HR := Lib.hid h1
            have HB := Lib.hid hb
            clear hb hd h1 h2 hxl e1
            go_wp2_with (first | (go_at_call 116; refine (blank35 _).mono ?_; rintro e w' ⟨rfl, rfl⟩) | (go_at_call 117; refine (remark_no x HR _).mono ?_; rintro e w' ⟨rfl, rfl⟩))
            go_round
            case rel => exact ⟨s.size, by omega, by go_num, Lib.hid (by rw [HN.out, List.drop_of_length_le (by rw [M.size_len]; omega)]; rfl)⟩
            case measure => simp [intOf]; omega
          · have hj1 : 1 <= j := by
              rcases Nat.eq_zero_or_pos j with e | e
              · subst e
                rw [hxl, hd] at h1
                have : ¬ s[k] = 10 := fun e => by rw [e] at h35; exact absurd h35 (by decide)
                simp [Lib.indexByte, this] at h1
                split at h1 <;> omega
              · exact e
            have hjk : k + j <= s.size := by rw [M.size_len] at hj; omega
            have HN : Hid (G = (k + j : Nat) + gp false (s.data.toList.drop (k + j))) := by
              have := HK.out
              rw [e1, <- hxl, h2, hxl, List.drop_drop] at this
              exact Lib.hid (by omega)
            have HR := Lib.hid h1
            have HB := Lib.hid hb
            clear hb hd h1 h2 hxl e1
            go_wp2_with (first | (go_at_call 116; refine (blank35 _).mono ?_; rintro e w' ⟨rfl, rfl⟩) | (go_at_call 117; refine (remark_yes x j HR _).mono ?_; rintro e w' ⟨rfl, rfl⟩))
            go_round
            case rel => exact ⟨k + j, by omega, by go_num, HN⟩
            case measure => simp [intOf]; omega
        · have HN : Hid (G = k) := by have := HK.out; rw [hd, gp_tok hb h35] at this; exact Lib.hid (by omega)
          have hq := neb h35
          have HB := Lib.hid hb
          clear hb hd
          go_wp2_with (first | (go_at_call 116; refine (blank_is HB.out _).mono ?_; rintro e w' ⟨rfl, rfl⟩))
          go_ret
          exact ⟨M.ret_num (by rw [HN.out]), rfl⟩
    · have HN : Hid (G = k) := by have := HK.out; rw [List.drop_of_length_le (by rw [M.size_len]; omega), gp] at this; exact Lib.hid (by omega)
      go_wp2
      go_ret
      exact ⟨M.ret_num (by rw [HN.out]), rfl⟩
theorem passed_is {s : ByteArray} {n : Nat} (h : gp false s.data.toList = n) (hs : s.size <= 140737488351232) (w : World) :
    Calls Tryz.prog 79 #[.string s] w fun e w' => e = .returned (.int .i64 n) /\ w = w' := by subst h; exact passed_any s hs w
end Go.Proofs.YtjakeidbajkdcaaGreatDoor.L
