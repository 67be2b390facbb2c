/- Joined by program: TRight, TRightE. -/
import Derived.Test.YtjakeidbajkdcaaGreatDoorG11
import Derived.BigGuardPart
/- right, the document's, of some kinds: may a node be, but for its children? -/
namespace Go.Proofs.YtjakeidbajkdcaaGreatDoor.T
open Go.RowKit
def one (k : Int) : Bool := decide (k = 5 ∨ k = 12 ∨ k = 13 ∨ k = 14)
def two (k : Int) : Bool := decide (k = 6 ∨ k = 7 ∨ k = 8 ∨ k = 10)
def named (k : Int) : Bool := decide (k = 4 ∨ k = 5 ∨ k = 7 ∨ k = 8 ∨ k = 12)
/-- May it be? nE: the name is empty; nB, tB: it is a name, a tag; sE: the text is empty; sL, L: how long it is, how many parts; lab: the parts may be. -/
def rB (k a b c n pos : Int) (nE nB tB sE : Bool) (sL L : Nat) (lab : Bool) : Bool :=
  !(decide (pos < 0) || (decide (1048576 < pos) || (decide (k < 1) || decide (14 < k)))) &&
  !(decide (k ≠ 1 ∧ k ≠ 2 ∧ k ≠ 10 ∧ n ≠ 0) || (decide (k ≠ 3) && !sE || decide (k ≠ 11 ∧ k ≠ 14 ∧ 0 < L))) &&
  !((!one k && (!two k && decide (k ≠ 9 ∧ a ≠ 0))) || ((!two k && decide (k ≠ 9 ∧ b ≠ 0)) || decide (k ≠ 9 ∧ c ≠ 0))) &&
  !((named k && !nB) || ((decide (k = 13) && !tB) || (!named k && (decide (k ≠ 13) && !nE)))) &&
  !(decide (k = 2 ∧ n ≠ 0 ∧ n ≠ 1) || (decide (k = 10 ∧ (n < 1 ∨ 7 < n)) || decide (k = 3 ∧ (200 : Int) < (sL : Int)))) &&
  (decide (k ≠ 11 ∧ k ≠ 14) || lab)
end Go.Proofs.YtjakeidbajkdcaaGreatDoor.T
/- right, the document's, of some kinds: may a node be, but for its children? -/
namespace Go.Proofs.YtjakeidbajkdcaaGreatDoor.T
open Go.RowKit
/-- right, of a node. -/
def rightB (x : Nd) : Bool := rB x.kind x.a x.b x.c x.n x.pos x.nm.toList.isEmpty (M.nameB x.nm) (M.tagB x.nm) x.s.toList.isEmpty x.s.size x.l.length (labB x.kind x.l)
end Go.Proofs.YtjakeidbajkdcaaGreatDoor.T
