/- sign, text, number: what is answered of a sign, of a writing, of digits. -/
import Derived.Test.YtekbfgjlkmldgaaDoorLVar
import Derived.Test.YtekbfgjlkmldgaaDoorWParseAny
namespace Go.Proofs.YtekbfgjlkmldgaaDoor.L
open Go.RowKit
theorem pre_le {s p : List UInt8} (h : Lib.hasPrefix s p = true) : p.length ≤ s.length := by
  unfold Lib.hasPrefix at h; exact (List.isPrefixOf_iff_prefix.1 h).length_le
set_option maxHeartbeats 1000000 in
theorem sign_2a {B : Nat} (s y : ByteArray) (h2 : 2 ≤ s.size) (hy : s.extract 0 2 = y) (HY : Hid (y.size ≤ 281474976710656)) (w : World) (hB : B ≤ w.heap.size) (h1 : Lib.hasPrefix s.data.toList [45, 62] = true) :
    Calls Tryd.prog 33 #[.string s] w (FP ⟨7, y, 0, 2, 0⟩ B w) := by
  go_enter Tryd.func33, Tryd.ntmps33
  go_wp2_with (first
    | (go_at_call 50; refine (Tryd.strings_HasPrefix _ _ _).mono ?_; rintro e w' ⟨rfl, rfl⟩)
    | (go_at_call 44; refine (taken_x 7 y _ 2 (by omega) HY.out _).mono ?_; rintro e w' ⟨rfl, hb⟩; obtain ⟨hc, hf⟩ := bcell hb))
  exact bodyPost_ret (v := .tuple #[.agg #[.int .i64 7, .string y, .int .i64 0, .int .i64 0], .int .i64 ((2 : Nat) : Int), .int .i64 0]) (by simp [results, Tryd.results33, go_sem, hc]) rfl ⟨rfl, below4 hB hb (by simp) _ _ _ _⟩
set_option maxHeartbeats 1000000 in
theorem sign_2b {B : Nat} (s y : ByteArray) (h2 : 2 ≤ s.size) (hy : s.extract 0 2 = y) (HY : Hid (y.size ≤ 281474976710656)) (w : World) (hB : B ≤ w.heap.size) (h1 : Lib.hasPrefix s.data.toList [45, 62] = false) (h1' : Lib.hasPrefix s.data.toList [61, 61] = true) :
    Calls Tryd.prog 33 #[.string s] w (FP ⟨7, y, 0, 2, 0⟩ B w) := by
  go_enter Tryd.func33, Tryd.ntmps33
  go_wp2_with (first
    | (go_at_call 50; refine (Tryd.strings_HasPrefix _ _ _).mono ?_; rintro e w' ⟨rfl, rfl⟩)
    | (go_at_call 44; refine (taken_x 7 y _ 2 (by omega) HY.out _).mono ?_; rintro e w' ⟨rfl, hb⟩; obtain ⟨hc, hf⟩ := bcell hb))
  exact bodyPost_ret (v := .tuple #[.agg #[.int .i64 7, .string y, .int .i64 0, .int .i64 0], .int .i64 ((2 : Nat) : Int), .int .i64 0]) (by simp [results, Tryd.results33, go_sem, hc]) rfl ⟨rfl, below4 hB hb (by simp) _ _ _ _⟩
set_option maxHeartbeats 1000000 in
theorem sign_1 {B : Nat} (s y : ByteArray) (h2 : 0 < s.size) (hy : s.extract 0 1 = y) (HY : Hid (y.size ≤ 281474976710656)) (w : World) (hB : B ≤ w.heap.size) (h1 : Lib.hasPrefix s.data.toList [45, 62] = false) (h1' : Lib.hasPrefix s.data.toList [61, 61] = false) (HS : Hid (isSign s[0] = true)) :
    Calls Tryd.prog 33 #[.string s] w (FP ⟨7, y, 0, 1, 0⟩ B w) := by
  go_enter Tryd.func33, Tryd.ntmps33
  go_wp2_with (first
    | (go_at_call 50; refine (Tryd.strings_HasPrefix _ _ _).mono ?_; rintro e w' ⟨rfl, rfl⟩)
    | (go_at_call 26; refine (sign_is HS.out _).mono ?_; rintro e w' ⟨rfl, rfl⟩)
    | (go_at_call 44; refine (taken_x 7 y _ 1 (by omega) HY.out _).mono ?_; rintro e w' ⟨rfl, hb⟩; obtain ⟨hc, hf⟩ := bcell hb))
  exact bodyPost_ret (v := .tuple #[.agg #[.int .i64 7, .string y, .int .i64 0, .int .i64 0], .int .i64 ((1 : Nat) : Int), .int .i64 0]) (by simp [results, Tryd.results33, go_sem, hc]) rfl ⟨rfl, below4 hB hb (by simp) _ _ _ _⟩
set_option maxHeartbeats 1000000 in
theorem sign_0 {B : Nat} (s : ByteArray) (h2 : 0 < s.size) (w : World) (hB : B ≤ w.heap.size) (h1 : Lib.hasPrefix s.data.toList [45, 62] = false) (h1' : Lib.hasPrefix s.data.toList [61, 61] = false) (HS : Hid (isSign s[0] = false)) :
    Calls Tryd.prog 33 #[.string s] w (FP (bad 5) B w) := by
  go_enter Tryd.func33, Tryd.ntmps33
  go_wp2_with (first
    | (go_at_call 50; refine (Tryd.strings_HasPrefix _ _ _).mono ?_; rintro e w' ⟨rfl, rfl⟩)
    | (go_at_call 26; refine (sign_is HS.out _).mono ?_; rintro e w' ⟨rfl, rfl⟩)
    | (go_at_call 47; refine (refused_x 5 _).mono ?_; rintro e w' ⟨rfl, hb⟩; obtain ⟨hc, hf⟩ := bcell hb))
  exact bodyPost_ret (v := .tuple #[.agg #[.int .i64 0, .string ⟨#[]⟩, .int .i64 0, .int .i64 0], .int .i64 0, .int .i64 5]) (by simp [results, Tryd.results33, go_sem, hc]) rfl ⟨rfl, below4 hB hb (by simp) _ _ _ _⟩
theorem headD_at {s : ByteArray} (h : 0 < s.size) : s.data.toList.headD 0 = s[0] := by
  have := M.drop_at s 0 h
  rw [List.drop_zero] at this
  rw [this]; rfl
theorem sign_any {B : Nat} (s : ByteArray) (hs : s.size ≤ 140737488351232) (h0 : 0 < s.size) (w : World) (hB : B ≤ w.heap.size) :
    Calls Tryd.prog 33 #[.string s] w (FP (signR s) B w) := by
  cases h1 : Lib.hasPrefix s.data.toList [45, 62] with
  | true =>
    have h2 := pre_le h1
    rw [M.size_len] at h2
    have e : sg s = 2 := by rw [sg, two, h1]; rfl
    rw [signR, e, if_neg (by omega)]
    exact sign_2a s _ h2 rfl (Lib.hid (by rw [size_extract]; omega)) w hB h1
  | false =>
    cases h1' : Lib.hasPrefix s.data.toList [61, 61] with
    | true =>
      have h2 := pre_le h1'
      rw [M.size_len] at h2
      have e : sg s = 2 := by rw [sg, two, h1, h1']; rfl
      rw [signR, e, if_neg (by omega)]
      exact sign_2b s _ h2 rfl (Lib.hid (by rw [size_extract]; omega)) w hB h1 h1'
    | false =>
      cases hS : isSign s[0] with
      | true =>
        have e : sg s = 1 := by rw [sg, two, h1, h1', headD_at h0, hS]; rfl
        rw [signR, e, if_neg (by omega)]
        exact sign_1 s _ h0 rfl (Lib.hid (by rw [size_extract]; omega)) w hB h1 h1' (Lib.hid hS)
      | false =>
        have e : sg s = 0 := by rw [sg, two, h1, h1', headD_at h0, hS]; rfl
        rw [signR, e, if_pos rfl]
        exact sign_0 s h0 w hB h1 h1' (Lib.hid hS)
set_option maxHeartbeats 1000000 in
theorem text_ok {B : Nat} (s T : ByteArray) (n : Nat) (HT : Hid (T.size ≤ 281474976710656)) (w : World) (hB : B ≤ w.heap.size)
    (HC : Hid (∀ w1, Calls Tryd.prog 49 #[.string s] w1 fun e w' => e = .returned (.tuple #[.string T, .int .i64 (n : Int), .int .i64 0]) ∧ Below w1.heap.size w1 w')) :
    Calls Tryd.prog 32 #[.string s] w (FP ⟨5, T, 0, n, 0⟩ B w) := by
  go_enter Tryd.func32, Tryd.ntmps32
  go_wp2_with (first
    | (go_at_call 49; refine (HC.out _).mono ?_; rintro e w1 ⟨rfl, hb1⟩)
    | (go_at_call 44; refine (taken_x 5 T _ n rfl HT.out _).mono ?_; rintro e w' ⟨rfl, hb2⟩; have hb := hb1.trans (hb2.mono hb1.size); obtain ⟨hc, hf⟩ := bcell hb))
  exact bodyPost_ret (v := .tuple #[.agg #[.int .i64 5, .string T, .int .i64 0, .int .i64 0], .int .i64 (n : Int), .int .i64 0]) (by simp [results, Tryd.results32, go_sem, hc]) rfl ⟨rfl, below4 hB hb (by simp) _ _ _ _⟩
set_option maxHeartbeats 1000000 in
theorem text_no {B : Nat} (s T : ByteArray) (n : Nat) (x : Int) (hx : (x != 0) = true) (w : World) (hB : B ≤ w.heap.size)
    (HC : Hid (∀ w1, Calls Tryd.prog 49 #[.string s] w1 fun e w' => e = .returned (.tuple #[.string T, .int .i64 (n : Int), .int .i64 x]) ∧ Below w1.heap.size w1 w')) :
    Calls Tryd.prog 32 #[.string s] w (FP (bad x) B w) := by
  go_enter Tryd.func32, Tryd.ntmps32
  go_wp2_with (first
    | (go_at_call 49; refine (HC.out _).mono ?_; rintro e w1 ⟨rfl, hb1⟩)
    | (go_at_call 47; refine (refused_x x _).mono ?_; rintro e w' ⟨rfl, hb2⟩; have hb := hb1.trans (hb2.mono hb1.size); obtain ⟨hc, hf⟩ := bcell hb))
  exact bodyPost_ret (v := .tuple #[.agg #[.int .i64 0, .string ⟨#[]⟩, .int .i64 0, .int .i64 0], .int .i64 0, .int .i64 x]) (by simp [results, Tryd.results32, go_sem, hc]) rfl ⟨rfl, below4 hB hb (by simp) _ _ _ _⟩
theorem tT_len (o : Option (List UInt8 × Nat)) : (Q.tT o).length ≤ 200 := by
  unfold Q.tT
  split
  · simp
  · split
    · simp
    · omega
theorem text_any {B : Nat} (s : ByteArray) (hs : s.size ≤ 140737488351232) (w : World) (hB : B ≤ w.heap.size) :
    Calls Tryd.prog 32 #[.string s] w (FP (strR s) B w) := by
  have HC : Hid (∀ w1 : World, Calls Tryd.prog 49 #[.string s] w1 (Q.TkPost (Q.tq s.data.toList) w1.heap.size w1)) := Lib.hid fun w1 => Q.take_any s (by omega) w1 (Nat.le_refl _)
  have hl := tT_len (Q.tq s.data.toList)
  rw [strR]
  unfold Q.TkPost Q.TkEnd at HC
  generalize Q.tT (Q.tq s.data.toList) = T at *
  generalize Q.tN (Q.tq s.data.toList) = n at *
  generalize Q.tE (Q.tq s.data.toList) = x at *
  by_cases hx : x = 0
  · subst hx
    rw [if_pos rfl]
    exact text_ok s _ n (Lib.hid (by rw [← M.size_len]; simp; omega)) w hB HC
  · rw [if_neg hx]
    exact text_no s _ n x (by simpa using hx) w hB HC
end Go.Proofs.YtekbfgjlkmldgaaDoor.L
