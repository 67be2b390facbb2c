/- Joined by program: TLab. -/
import Derived.Test.YtjakeidbajkdcaaGreatDoorG00
import Derived.Test.YtjakeidbajkdcaaGreatDoorG09
import Derived.Test.YtjakeidbajkdcaaGreatDoorG10
import Derived.RangeFuncBox
/- labels, the document's: may a record's, or a case's, parts be? -/
namespace Go.Proofs.YtjakeidbajkdcaaGreatDoor.T
open Go.RowKit
/-- May a part be, of a record (11), of a case (14)? -/
def fok (k : Int) (f : Fld) : Bool := if k = 11 then M.nameB f.nm && f.vr.toList.isEmpty else M.tagB f.nm && M.nameB f.vr
def labB (k : Int) (l : List Fld) : Bool := l.all (fok k) && (decide (l.length ≤ 30) && (decide (k = 11) || decide (0 < l.length)) && !M.tw (l.map Fld.nm))
theorem strInfo : (Tryz.prog.info? 9).map (fun i => (i.zero, i.size, i.bytes)) = some (some (.string ⟨#[]⟩), 1, 16) := by kernel_rfl
theorem bcellT {W w1 : World} (hb : Below W.heap.size W w1) : (∀ b o, b < W.heap.size → w1.cell? ⟨b, o, none⟩ = W.cell? ⟨b, o, none⟩) ∧ (∀ b o, b < W.heap.size → w1.frozen? ⟨b, o, none⟩ = W.frozen? ⟨b, o, none⟩) :=
  ⟨fun b o h => hb.cell (p := ⟨b, o, none⟩) h, fun b o h => hb.frozen (p := ⟨b, o, none⟩) h⟩
theorem nm_take (l : List Fld) (k : Nat) (f : Fld) (h : l[k]? = some f) : (l.take (k + 1)).map (fun f => Value.string f.nm) = (l.take k).map (fun f => Value.string f.nm) ++ [.string f.nm] := by
  have hk : k < l.length := (List.getElem?_eq_some_iff.1 h).1
  rw [List.take_succ_eq_append_getElem hk, List.map_append]
  have : l[k] = f := (List.getElem?_eq_some_iff.1 h).2
  simp [this]
theorem all_take (p : Fld → Bool) (l : List Fld) (k : Nat) (f : Fld) (h : l[k]? = some f) (ha : (l.take k).all p = true) (hf : p f = true) : (l.take (k + 1)).all p = true := by
  have hk : k < l.length := (List.getElem?_eq_some_iff.1 h).1
  rw [List.take_succ_eq_append_getElem hk, List.all_append, ha]
  have : l[k] = f := (List.getElem?_eq_some_iff.1 h).2
  simp [this, hf]
theorem holds_of {W : World} {B g n c : Nat} {l : List Fld} (h : W.ownsRow B 9 1 (.slice (some ⟨g, 0, none⟩) n c) n (l.map (fun f => Value.string f.nm))) : M.Holds W g (l.map Fld.nm) := fun j hj => by
  rw [List.length_map] at hj
  have := World.ownsRow.cells h (g := g) rfl j (.string (l[j]).nm) (by simp [hj])
  rw [Addr.add_lit, Nat.zero_add] at this
  rw [this]; simp [List.getD_eq_getElem?_getD, hj]
theorem ret_b {a b : Bool} (h : a = b) : Ending.returned (.bool a) = .returned (.bool b) := by rw [h]
theorem grown_belowT {w w' : World} (h : Below w.heap.size w w') (row : Option Nat) : w.grownBy w' row := ⟨h.os, h.tape, h.output, h.size, fun k hk _ => h.block k hk⟩
end Go.Proofs.YtjakeidbajkdcaaGreatDoor.T
