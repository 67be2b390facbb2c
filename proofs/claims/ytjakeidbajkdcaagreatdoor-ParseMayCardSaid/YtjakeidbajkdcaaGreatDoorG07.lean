/- Joined by program: MMath. -/
import Derived.Lib.Strings
/- Plain mathematics of words, names and tags: which bytes begin a word or a tag, or go on, and how many bytes of a text do. -/
namespace Go.Proofs.YtjakeidbajkdcaaGreatDoor.M
/-- It begins a word; a tag; it is a digit; it goes on. -/
def begW (n : Nat) : Bool := decide (97 ≤ n ∧ n ≤ 122 ∨ n = 95)
def begT (n : Nat) : Bool := decide (65 ≤ n ∧ n ≤ 90)
def isD (n : Nat) : Bool := decide (48 ≤ n ∧ n ≤ 57)
def goes (n : Nat) : Bool := begW n || begT n || isD n
theorem begW_t {n : Nat} (h : 97 ≤ n) (h' : n ≤ 122) : begW n = true := by simp only [begW, decide_eq_true_eq]; omega
theorem begW_f {n : Nat} (h : n < 97 ∨ 122 < n) (h' : n ≠ 95) : begW n = false := by simp only [begW, decide_eq_false_iff_not]; omega
theorem begW_95 : begW 95 = true := rfl
theorem begT_t {n : Nat} (h : 65 ≤ n) (h' : n ≤ 90) : begT n = true := by simp only [begT, decide_eq_true_eq]; omega
theorem begT_f {n : Nat} (h : n < 65 ∨ 90 < n) : begT n = false := by simp only [begT, decide_eq_false_iff_not]; omega
theorem begT_not {n : Nat} (h : begW n = true) : begT n = false := by
  simp only [begW, begT, decide_eq_true_eq, decide_eq_false_iff_not] at h ⊢; omega
theorem isD_iff {n : Nat} : isD n = true ↔ 48 ≤ n ∧ n ≤ 57 := by simp only [isD, decide_eq_true_eq]
theorem size_len (s : ByteArray) : s.data.toList.length = s.size := by rw [Array.length_toList]; rfl
theorem drop_at (s : ByteArray) (k : Nat) (h : k < s.size) : s.data.toList.drop k = s[k] :: s.data.toList.drop (k + 1) := by
  rw [List.drop_eq_getElem_cons (by rw [size_len]; exact h)]; rfl
/-- How many bytes go on from place k. -/
def more (s : ByteArray) (k : Nat) : Nat := ((s.data.toList.drop k).takeWhile fun c => goes c.toNat).length
theorem more_go {s : ByteArray} {k : Nat} (h : k < s.size) (hg : goes s[k].toNat = true) : more s k = more s (k + 1) + 1 := by
  rw [more, drop_at s k h, List.takeWhile_cons, if_pos hg, List.length_cons, more]
theorem more_stop {s : ByteArray} {k : Nat} (h : k < s.size) (hg : goes s[k].toNat = false) : more s k = 0 := by
  rw [more, drop_at s k h, List.takeWhile_cons, if_neg (by rw [hg]; decide)]; rfl
theorem more_end {s : ByteArray} {k : Nat} (h : s.size ≤ k) : more s k = 0 := by
  rw [more, List.drop_eq_nil_of_le (by rw [size_len]; exact h)]; rfl
theorem more_le {s : ByteArray} {k : Nat} (h : k ≤ s.size) : k + more s k ≤ s.size := by
  have h1 := (List.takeWhile_sublist (fun c : UInt8 => goes c.toNat) (l := s.data.toList.drop k)).length_le
  rw [List.length_drop, size_len] at h1
  rw [more]; omega
/-- The first byte; how long the word is, or the tag, with which a text begins. -/
def fst (s : ByteArray) : Nat := (s.data.toList.headD 0).toNat
theorem fst_at {s : ByteArray} (h : 0 < s.size) : fst s = s[0].toNat := by
  have := drop_at s 0 h
  rw [List.drop_zero] at this
  rw [fst, this]; rfl
def wl (s : ByteArray) : Nat := if 0 < s.size ∧ (begW (fst s) || begT (fst s)) = true then 1 + more s 1 else 0
theorem wl_none {s : ByteArray} (h : ¬ 0 < s.size) : wl s = 0 := by rw [wl, if_neg (fun x => h x.1)]
theorem wl_not {s : ByteArray} (h : begW (fst s) = false) (h' : begT (fst s) = false) : wl s = 0 := by rw [wl, if_neg (by rw [h, h']; simp)]
theorem wl_w {s : ByteArray} (h0 : 0 < s.size) (h : (begW (fst s) || begT (fst s)) = true) : wl s = 1 + more s 1 := by rw [wl, if_pos ⟨h0, h⟩]
theorem wl_le (s : ByteArray) : wl s ≤ s.size := by
  by_cases h0 : 0 < s.size
  · have := more_le (s := s) (k := 1) (by omega)
    rw [wl]; split <;> omega
  · rw [wl_none h0]; omega
/-- Is it a word, or a tag, as a whole, of at most 20 bytes? -/
def wholeB (s : ByteArray) : Bool := decide (0 < s.size ∧ s.size ≤ 20 ∧ wl s = s.size)
end Go.Proofs.YtjakeidbajkdcaaGreatDoor.M
