/- Short names of facts that stand often. -/
import Derived.Lib.Hide
import Derived.RangeFuncRecord
namespace Go.Proofs.YtjakeidbajkdcaaGreatDoor
open Go.RowKit
theorem jj {p : Prop} (h : p) : Go.RowKit.Hid p := Go.Lib.hid h
theorem lrf (n : Nat) : n ≤ n := Nat.le_refl n
abbrev br := @Below.refl
abbrev anw := @World.alloc_heap_new
abbrev age := @Array.getElem?_eq_some_iff
abbrev lge := @List.getElem?_eq_some_iff
abbrev lme := @List.mem_of_getElem?
abbrev lltl := @Nat.lt_of_lt_of_le
abbrev ltr := @Nat.le_trans
abbrev beff := @Bool.eq_false_iff
theorem baw (w : World) (o : Obj) : Below w.heap.size w (w.alloc o) := (Below.refl _ w).alloc (Nat.le_refl _) o
end Go.Proofs.YtjakeidbajkdcaaGreatDoor
