/- Joined by program: PEq, PSameN, PEqF. -/
import Derived.Test.YtjakeidbajkdcaaGreatDoorG10
import Derived.Laws.StructEq
/- Are two rows of parts the same? -/
namespace Go.Proofs.YtjakeidbajkdcaaGreatDoor.T
open Go.RowKit
/-- Are two parts the same? -/
def fe (f g : Fld) : Bool := (f.nm.toList == g.nm.toList) && ((f.vr.toList == g.vr.toList) && (f.pl == g.pl))
/-- Are these all the same, one by one, as far as the first ones go? -/
def les : List Fld → List Fld → Bool
  | [], _ => true
  | _ :: _, [] => false
  | f :: l, g :: m => fe f g && les l m
/-- Are two rows of parts the same? -/
def lf (l m : List Fld) : Bool := (l.length == m.length) && les l m
end Go.Proofs.YtjakeidbajkdcaaGreatDoor.T
/- isSame, the program's: are two nodes the same, but for Pos? -/
namespace Go.Proofs.YtjakeidbajkdcaaGreatDoor.T
open Go.RowKit
def sn (x y : Nd) : Bool := (x.kind == y.kind) && ((x.a == y.a) && ((x.b == y.b) && ((x.c == y.c) && ((x.n == y.n) && ((x.nm.toList == y.nm.toList) && ((x.s.toList == y.s.toList) && lf x.l y.l))))))
end Go.Proofs.YtjakeidbajkdcaaGreatDoor.T
/- slices.EqualFunc over nodes: are two trees' nodes the same, but for Pos? -/
namespace Go.Proofs.YtjakeidbajkdcaaGreatDoor.T
open Go.RowKit
def lns : List Nd → List Nd → Bool
  | [], _ => true
  | _ :: _, [] => false
  | x :: l, y :: m => sn x y && lns l m
/-- Are all nodes the same, but for Pos? -/
def ln (l m : List Nd) : Bool := (l.length == m.length) && lns l m
end Go.Proofs.YtjakeidbajkdcaaGreatDoor.T
