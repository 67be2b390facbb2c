/- Plain mathematics of tokens: what the token is with which a text begins, how many bytes are passed over ahead of one, and all of a text's tokens. -/
import Derived.Test.YtekbfgjlkmldgaaDoorMKeys
import Derived.Test.YtekbfgjlkmldgaaDoorQMath
import Derived.Test.YtekbfgjlkmldgaaDoorWText
import Derived.Lib.Bytealg
namespace Go.Proofs.YtekbfgjlkmldgaaDoor.L
/-- A token but for its place, how many bytes it takes, its error. -/
structure R where
  k : Int
  t : ByteArray
  n : Int
  long : Nat
  e : Int
def bad (e : Int) : R := ⟨0, ⟨#[]⟩, 0, 0, e⟩
/-- How many digits stand from place k on. -/
def dl (s : ByteArray) (k : Nat) : Nat := ((s.data.toList.drop k).takeWhile fun c => M.isD c.toNat).length
def signs : ByteArray := ⟨#[59, 58, 44, 46, 61, 60, 62, 43, 45, 42, 47, 94, 40, 41, 123, 125, 91, 93, 124, 38]⟩
def isSign (c : UInt8) : Bool := decide (0 ≤ Lib.indexByte signs.data.toList c)
def two (s : ByteArray) : Bool := Lib.hasPrefix s.data.toList [45, 62] || Lib.hasPrefix s.data.toList [61, 61]
def sg (s : ByteArray) : Nat := if two s = true then 2 else if isSign (s.data.toList.headD 0) = true then 1 else 0
def wordR (s : ByteArray) : R := if M.kwB s = true then ⟨1, s, 0, s.size, 0⟩ else if 20 < s.size then bad 7 else if M.begT (M.fst s) = true then ⟨3, s, 0, s.size, 0⟩ else ⟨2, s, 0, s.size, 0⟩
def varR (s : ByteArray) : R :=
  if M.wl (s.extract 1 s.size) = 0 ∨ M.begT (M.fst (s.extract 1 s.size)) = true then bad 5
  else if 20 < M.wl (s.extract 1 s.size) then bad 7 else ⟨6, s.extract 1 (1 + M.wl (s.extract 1 s.size)), 0, 1 + M.wl (s.extract 1 s.size), 0⟩
def numR (t : ByteArray) : R := if W.pe t.data.toList = 0 then ⟨4, ⟨#[]⟩, W.pv t.data.toList, t.size, 0⟩ else bad (W.pe t.data.toList)
def strR (s : ByteArray) : R := if Q.tE (Q.tq s.data.toList) = 0 then ⟨5, ⟨(Q.tT (Q.tq s.data.toList)).toArray⟩, 0, Q.tN (Q.tq s.data.toList), 0⟩ else bad (Q.tE (Q.tq s.data.toList))
def signR (s : ByteArray) : R := if sg s = 0 then bad 5 else ⟨7, s.extract 0 (sg s), 0, sg s, 0⟩
/-- The token with which a text begins that is not empty. -/
def tok (s : ByteArray) : R :=
  if 0 < M.wl s then wordR (s.extract 0 (M.wl s))
  else if M.fst s = 39 then varR s
  else if M.fst s = 126 ∨ M.isD (M.fst s) = true then numR (s.extract 0 (1 + dl s 1))
  else if M.fst s = 34 then strR s
  else signR s
theorem size_extract (s : ByteArray) (a b : Nat) : (s.extract a b).size = min b s.size - a := by simp
theorem data_extract (s : ByteArray) (a b : Nat) : (s.extract a b).data.toList = (s.data.toList.drop a).take (b - a) := by simp
theorem dl_le (s : ByteArray) (k : Nat) (h : k ≤ s.size) : k + dl s k ≤ s.size := by
  have h1 := (List.takeWhile_sublist (fun c : UInt8 => M.isD c.toNat) (l := s.data.toList.drop k)).length_le
  rw [List.length_drop, M.size_len] at h1
  rw [dl]; omega
theorem dl_go {s : ByteArray} {k : Nat} (h : k < s.size) (hg : M.isD s[k].toNat = true) : dl s k = dl s (k + 1) + 1 := by
  rw [dl, M.drop_at s k h, List.takeWhile_cons, if_pos hg, List.length_cons, dl]
theorem dl_stop {s : ByteArray} {k : Nat} (h : k < s.size) (hg : M.isD s[k].toNat = false) : dl s k = 0 := by
  rw [dl, M.drop_at s k h, List.takeWhile_cons, if_neg (by rw [hg]; decide)]; rfl
theorem dl_end {s : ByteArray} {k : Nat} (h : s.size ≤ k) : dl s k = 0 := by
  rw [dl, List.drop_eq_nil_of_le (by rw [M.size_len]; exact h)]; rfl
/-- A keyword is short. -/
theorem kw_short {s : ByteArray} (h : M.kwB s = true) : s.size ≤ 20 := by
  unfold M.kwB M.inB at h
  obtain ⟨t, ht, he⟩ := List.any_eq_true.1 h
  have e : s.size = t.size := by
    have := eq_of_beq he
    rw [ByteArray.toList_eq, ByteArray.toList_eq] at this
    rw [← M.size_len, ← M.size_len, this]
  have hall : (kwl.all fun t => decide (t.size ≤ 20)) = true := by decide
  have := List.all_eq_true.1 hall t ht
  rw [e]; simpa using this
end Go.Proofs.YtekbfgjlkmldgaaDoor.L
