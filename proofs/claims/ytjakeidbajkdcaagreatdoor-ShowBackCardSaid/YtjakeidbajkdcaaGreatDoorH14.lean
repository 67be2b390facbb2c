/- Joined by program. -/
import Derived.Test.YtjakeidbajkdcaaGreatDoorH10
import Derived.Laws.StructEq
namespace Go.Proofs.YtjakeidbajkdcaaGreatDoor.T
open Go.RowKit
def fe (f g : Fld) : Bool := (f.nm.toList == g.nm.toList) && ((f.vr.toList == g.vr.toList) && (f.pl == g.pl))
def les : List Fld -> List Fld -> Bool
  | [], _ => true
  | _ :: _, [] => false
  | f :: l, g :: m => fe f g && les l m
theorem les_yes {l m : List Fld} (h : ∀ (j : Nat) (f g : Fld), l[j]? = some f -> m[j]? = some g -> fe f g = true) (hl : l.length = m.length) : les l m = true := by
  induction l generalizing m with
  | nil => rfl
  | cons f l ih =>
    cases m with
    | nil => simp at hl
    | cons g m =>
      rw [les, h 0 f g rfl rfl, Bool.true_and]
      exact ih (fun j a b h1 h2 => h (j + 1) a b (by simpa using h1) (by simpa using h2)) (by simpa using hl)
theorem les_no {l m : List Fld} {j : Nat} {f g : Fld} (h1 : l[j]? = some f) (h2 : m[j]? = some g) (hf : fe f g = false) : les l m = false := by
  induction l generalizing m j with
  | nil => simp at h1
  | cons a l ih =>
    cases m with
    | nil => simp at h2
    | cons b m =>
      cases j with
      | zero =>
        simp at h1 h2
        subst h1 h2
        rw [les, hf]; rfl
      | succ j =>
        rw [les, ih (by simpa using h1) (by simpa using h2)]; simp
def lf (l m : List Fld) : Bool := (l.length == m.length) && les l m
open Go.RowKit
def sn (x y : Nd) : Bool := (x.kind == y.kind) && ((x.a == y.a) && ((x.b == y.b) && ((x.c == y.c) && ((x.n == y.n) && ((x.nm.toList == y.nm.toList) && ((x.s.toList == y.s.toList) && lf x.l y.l))))))
open Go.RowKit
def lns : List Nd -> List Nd -> Bool
  | [], _ => true
  | _ :: _, [] => false
  | x :: l, y :: m => sn x y && lns l m
theorem lns_yes {l m : List Nd} (h : ∀ (j : Nat) (x y : Nd), l[j]? = some x -> m[j]? = some y -> sn x y = true) (hl : l.length = m.length) : lns l m = true := by
  induction l generalizing m with
  | nil => rfl
  | cons f l ih =>
    cases m with
    | nil => simp at hl
    | cons g m =>
      rw [lns, h 0 f g rfl rfl, Bool.true_and]
      exact ih (fun j a b h1 h2 => h (j + 1) a b (by simpa using h1) (by simpa using h2)) (by simpa using hl)
theorem lns_no {l m : List Nd} {j : Nat} {x y : Nd} (h1 : l[j]? = some x) (h2 : m[j]? = some y) (hf : sn x y = false) : lns l m = false := by
  induction l generalizing m j with
  | nil => simp at h1
  | cons a l ih =>
    cases m with
    | nil => simp at h2
    | cons b m =>
      cases j with
      | zero =>
        simp at h1 h2
        subst h1 h2
        rw [lns, hf]; rfl
      | succ j =>
        rw [lns, ih (by simpa using h1) (by simpa using h2)]; simp
def ln (l m : List Nd) : Bool := (l.length == m.length) && lns l m
end Go.Proofs.YtjakeidbajkdcaaGreatDoor.T
