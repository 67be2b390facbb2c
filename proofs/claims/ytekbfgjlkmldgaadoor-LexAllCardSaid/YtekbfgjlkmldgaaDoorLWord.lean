/- word: what a word of its own is answered as. -/
import Derived.Test.YtekbfgjlkmldgaaDoorLBase
namespace Go.Proofs.YtekbfgjlkmldgaaDoor.L
open Go.RowKit
theorem taken_x (kind : Int) (s : ByteArray) (long : Int) (n : Nat) (hn : long = (n : Int)) (hs : s.size ≤ 281474976710656) (w : World) :
    Calls Tryd.prog 44 #[.int .i64 kind, .string s, .int .i64 long] w fun e w' => e = .returned (.tuple #[.agg #[.int .i64 kind, .string s, .int .i64 0, .int .i64 0], .int .i64 (n : Int), .int .i64 0]) ∧ Below w.heap.size w w' := by
  subst hn; exact taken_any kind s n hs w (Nat.le_refl _)
theorem refused_x (x : Int) (w : World) :
    Calls Tryd.prog 47 #[.int .i64 x] w fun e w' => e = .returned (.tuple #[.agg #[.int .i64 0, .string ⟨#[]⟩, .int .i64 0, .int .i64 0], .int .i64 0, .int .i64 x]) ∧ Below w.heap.size w w' :=
  refused_any x w (Nat.le_refl _)
theorem name_is {B : Nat} {s : ByteArray} {b : Bool} (h : M.nameB s = b) (hs : s.size ≤ 140737488351232) (w : World) (hK : Kws B w) :
    Calls Tryd.prog 45 #[.string s] w fun e w' => e = .returned (.bool b) ∧ w = w' := by subst h; exact M.name_any s hs w hK
theorem tag_is {s : ByteArray} {b : Bool} (h : M.tagB s = b) (hs : s.size ≤ 140737488351232) (w : World) :
    Calls Tryd.prog 46 #[.string s] w fun e w' => e = .returned (.bool b) ∧ w = w' := by subst h; exact M.tag_any s hs w
set_option maxHeartbeats 1000000 in
theorem word_1 {B : Nat} (s : ByteArray) (hs : s.size ≤ 140737488351232) (w : World) (hB : B ≤ w.heap.size) (hK : Kws B w) (h1 : Hid (M.kwB s = true)) :
    Calls Tryd.prog 29 #[.string s] w (FP ⟨1, s, 0, s.size, 0⟩ B w) := by
  go_enter Tryd.func29, Tryd.ntmps29
  go_wp2_with (first
    | (go_at_call 43; refine (M.keyword_is h1.out _ (hK.on ((Below.refl _ _).alloc hB _))).mono ?_; rintro e w' ⟨rfl, rfl⟩)
    | (go_at_call 44; refine (taken_x 1 s _ s.size rfl (by omega) _).mono ?_; rintro e w' ⟨rfl, hb⟩; obtain ⟨hc, hf⟩ := bcell hb))
  exact bodyPost_ret (v := .tuple #[.agg #[.int .i64 1, .string s, .int .i64 0, .int .i64 0], .int .i64 (s.size : Int), .int .i64 0]) (by simp [results, Tryd.results29, go_sem, hc]) rfl ⟨rfl, below4 hB hb (by simp) _ _ _ _⟩
set_option maxHeartbeats 1000000 in
theorem word_2 {B : Nat} (s : ByteArray) (hs : s.size ≤ 140737488351232) (w : World) (hB : B ≤ w.heap.size) (hK : Kws B w) (h1 : Hid (M.kwB s = false)) (h2 : Hid (M.nameB s = true)) :
    Calls Tryd.prog 29 #[.string s] w (FP ⟨2, s, 0, s.size, 0⟩ B w) := by
  go_enter Tryd.func29, Tryd.ntmps29
  go_wp2_with (first
    | (go_at_call 43; refine (M.keyword_is h1.out _ (hK.on ((Below.refl _ _).alloc hB _))).mono ?_; rintro e w' ⟨rfl, rfl⟩)
    | (go_at_call 45; refine (name_is h2.out hs _ (hK.on ((Below.refl _ _).alloc hB _))).mono ?_; rintro e w' ⟨rfl, rfl⟩)
    | (go_at_call 44; refine (taken_x 2 s _ s.size rfl (by omega) _).mono ?_; rintro e w' ⟨rfl, hb⟩; obtain ⟨hc, hf⟩ := bcell hb))
  exact bodyPost_ret (v := .tuple #[.agg #[.int .i64 2, .string s, .int .i64 0, .int .i64 0], .int .i64 (s.size : Int), .int .i64 0]) (by simp [results, Tryd.results29, go_sem, hc]) rfl ⟨rfl, below4 hB hb (by simp) _ _ _ _⟩
set_option maxHeartbeats 1000000 in
theorem word_3 {B : Nat} (s : ByteArray) (hs : s.size ≤ 140737488351232) (w : World) (hB : B ≤ w.heap.size) (hK : Kws B w) (h1 : Hid (M.kwB s = false)) (h2 : Hid (M.nameB s = false)) (h3 : Hid (M.tagB s = true)) :
    Calls Tryd.prog 29 #[.string s] w (FP ⟨3, s, 0, s.size, 0⟩ B w) := by
  go_enter Tryd.func29, Tryd.ntmps29
  go_wp2_with (first
    | (go_at_call 43; refine (M.keyword_is h1.out _ (hK.on ((Below.refl _ _).alloc hB _))).mono ?_; rintro e w' ⟨rfl, rfl⟩)
    | (go_at_call 45; refine (name_is h2.out hs _ (hK.on ((Below.refl _ _).alloc hB _))).mono ?_; rintro e w' ⟨rfl, rfl⟩)
    | (go_at_call 46; refine (tag_is h3.out hs _).mono ?_; rintro e w' ⟨rfl, rfl⟩)
    | (go_at_call 44; refine (taken_x 3 s _ s.size rfl (by omega) _).mono ?_; rintro e w' ⟨rfl, hb⟩; obtain ⟨hc, hf⟩ := bcell hb))
  exact bodyPost_ret (v := .tuple #[.agg #[.int .i64 3, .string s, .int .i64 0, .int .i64 0], .int .i64 (s.size : Int), .int .i64 0]) (by simp [results, Tryd.results29, go_sem, hc]) rfl ⟨rfl, below4 hB hb (by simp) _ _ _ _⟩
set_option maxHeartbeats 1000000 in
theorem word_4 {B : Nat} (s : ByteArray) (hs : s.size ≤ 140737488351232) (w : World) (hB : B ≤ w.heap.size) (hK : Kws B w) (h1 : Hid (M.kwB s = false)) (h2 : Hid (M.nameB s = false)) (h3 : Hid (M.tagB s = false)) :
    Calls Tryd.prog 29 #[.string s] w (FP (bad 7) B w) := by
  go_enter Tryd.func29, Tryd.ntmps29
  go_wp2_with (first
    | (go_at_call 43; refine (M.keyword_is h1.out _ (hK.on ((Below.refl _ _).alloc hB _))).mono ?_; rintro e w' ⟨rfl, rfl⟩)
    | (go_at_call 45; refine (name_is h2.out hs _ (hK.on ((Below.refl _ _).alloc hB _))).mono ?_; rintro e w' ⟨rfl, rfl⟩)
    | (go_at_call 46; refine (tag_is h3.out hs _).mono ?_; rintro e w' ⟨rfl, rfl⟩)
    | (go_at_call 47; refine (refused_x 7 _).mono ?_; rintro e w' ⟨rfl, hb⟩; obtain ⟨hc, hf⟩ := bcell hb))
  exact bodyPost_ret (v := .tuple #[.agg #[.int .i64 0, .string ⟨#[]⟩, .int .i64 0, .int .i64 0], .int .i64 0, .int .i64 7]) (by simp [results, Tryd.results29, go_sem, hc]) rfl ⟨rfl, below4 hB hb (by simp) _ _ _ _⟩
theorem word_any {B : Nat} (s : ByteArray) (hs : s.size ≤ 140737488351232) (h0 : 0 < s.size) (hw : M.wl s = s.size) (w : World) (hB : B ≤ w.heap.size) (hK : Kws B w) :
    Calls Tryd.prog 29 #[.string s] w (FP (wordR s) B w) := by
  by_cases h1 : M.kwB s = true
  · rw [wordR, if_pos h1]; exact word_1 s hs w hB hK (Lib.hid h1)
  · have h1' : M.kwB s = false := by simpa using h1
    have hbeg : (M.begW (M.fst s) || M.begT (M.fst s)) = true := by
      by_cases h : (M.begW (M.fst s) || M.begT (M.fst s)) = true
      · exact h
      · rw [M.wl, if_neg (fun x => h x.2)] at hw; omega
    by_cases h2 : 20 < s.size
    · have hv := M.whole_no20 (s := s) (by omega)
      rw [wordR, if_neg h1, if_pos h2]
      exact word_4 s hs w hB hK (Lib.hid h1') (Lib.hid (by rw [M.nameB, hv]; rfl)) (Lib.hid (by rw [M.tagB, hv]; rfl))
    · have hv : M.wholeB s = true := by simp only [M.wholeB, decide_eq_true_eq]; exact ⟨h0, by omega, hw⟩
      by_cases h3 : M.begT (M.fst s) = true
      · have hnw : M.begW (M.fst s) = false := by
          cases h : M.begW (M.fst s) with
          | false => rfl
          | true => rw [M.begT_not h] at h3; cases h3
        rw [wordR, if_neg h1, if_neg h2, if_pos h3]
        exact word_3 s hs w hB hK (Lib.hid h1') (Lib.hid (by rw [M.nameB, hv, hnw]; rfl)) (Lib.hid (by rw [M.tagB, hv, h3]; rfl))
      · have h3' : M.begT (M.fst s) = false := by simpa using h3
        have hw1 : M.begW (M.fst s) = true := by rw [h3', Bool.or_false] at hbeg; exact hbeg
        rw [wordR, if_neg h1, if_neg h2, if_neg h3]
        exact word_2 s hs w hB hK (Lib.hid h1') (Lib.hid (by rw [M.nameB, hv, hw1, h1']; rfl))
end Go.Proofs.YtekbfgjlkmldgaaDoor.L
