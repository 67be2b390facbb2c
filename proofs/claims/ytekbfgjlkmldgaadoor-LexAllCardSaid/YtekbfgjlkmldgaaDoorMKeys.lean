/- Keyword and Keywords, the program's and the document's: each tells what it should; what lay below is as it was. Condition: the keywords lie in their variable. -/
import Derived.Test.YtekbfgjlkmldgaaDoorMTexts
import Derived.Laws.Rows
import Derived.Laws.CopyOwn
namespace Go.Proofs.YtekbfgjlkmldgaaDoor.M
open Go.RowKit
/-- The keywords as cells. -/
def kwCells : Array Value := (kwl.map Value.string).toArray
theorem kwCells_size : (Tryd.prog.info? 62).map (·.size) = some kwCells.size := by kernel_rfl
theorem kwCells_one : kwCells.all (·.oneCell') = true := by kernel_rfl
theorem kw_idx : ∀ k : Nat, k < 20 → ∀ w, (Instr.index 62 (.agg kwCells) (.int .i64 (k : Int))).run Tryd.prog w = .ok (.string (kwl.getD k ⟨#[]⟩)) w
  | 0, _ => fun w => by kernel_rfl
  | 1, _ => fun w => by kernel_rfl
  | 2, _ => fun w => by kernel_rfl
  | 3, _ => fun w => by kernel_rfl
  | 4, _ => fun w => by kernel_rfl
  | 5, _ => fun w => by kernel_rfl
  | 6, _ => fun w => by kernel_rfl
  | 7, _ => fun w => by kernel_rfl
  | 8, _ => fun w => by kernel_rfl
  | 9, _ => fun w => by kernel_rfl
  | 10, _ => fun w => by kernel_rfl
  | 11, _ => fun w => by kernel_rfl
  | 12, _ => fun w => by kernel_rfl
  | 13, _ => fun w => by kernel_rfl
  | 14, _ => fun w => by kernel_rfl
  | 15, _ => fun w => by kernel_rfl
  | 16, _ => fun w => by kernel_rfl
  | 17, _ => fun w => by kernel_rfl
  | 18, _ => fun w => by kernel_rfl
  | 19, _ => fun w => by kernel_rfl
  | k + 20, h => absurd h (by omega)
theorem kwCells_get (j : Nat) (hj : j < kwl.length) : kwCells[j]? = some (.string (kwl.getD j ⟨#[]⟩)) := by
  rw [kwCells, List.getElem?_toArray, List.getElem?_map, List.getD_eq_getElem?_getD, List.getElem?_eq_getElem hj]; rfl
theorem holds_block {w : World} {g : Nat} {t : TypeId} {fr : Nat × Nat} (h : w.heap[g]? = some (.cells kwCells t fr)) : Holds w g kwl := fun j hj => by
  rw [cell_of_row w g j kwCells t fr h]; exact kwCells_get j hj
theorem holds_new (w : World) (t : TypeId) : Holds (w.alloc (.cells kwCells t)) w.heap.size kwl := holds_block (heap_alloc_new w _)
def kwB (s : ByteArray) : Bool := inB s kwl
set_option maxHeartbeats 1000000 in
theorem keyword_any {B : Nat} (s : ByteArray) (w : World) (hK : Kws B w) :
    Calls Tryd.prog 43 #[.string s] w fun e w' => e = .returned (.bool (kwB s)) ∧ w = w' := by
  obtain ⟨_, t, fr, hk⟩ := hK
  have hk' : w.heap[0]? = some (.cells kwCells t fr) := hk
  have HK0 := Lib.hid hk'
  clear hk hk'
  go_enter Tryd.func43, Tryd.ntmps43
  go_wp2_with (refine wpList_load_row rfl 62 (.global 0) rfl 0 rfl t kwCells fr _ HK0.out Tryd.underlying62 rfl kwCells_size ?_)
  go_loop [4, 6] (fun _ i => ∃ k : Nat, k ≤ 20 ∧ i = .int .i64 k ∧ Hid (inB s (kwl.take k) = false)) (fun _ i => 20 - (intOf i).toNat)
  case atStart => exact ⟨0, by omega, rfl, Lib.hid (inB_zero _ _)⟩
  case round =>
    obtain ⟨k, hk, rfl, HK⟩ := hrel
    by_cases hlt : k < 20
    · have hi := kw_idx k hlt
      have hs := Lib.hid (inB_succ s kwl k (by rw [kwl_length]; exact hlt))
      go_wp2
      · have ht : (s.toList == (kwl[k]?.getD { data := #[] }).toList) = true := by assumption
        go_ret
        exact ⟨ret_bool (show true = inB s (kwl.take 20) from (inB_mono (k := k + 1) (by omega) (by rw [hs.out, BEq.comm, ht, Bool.or_true])).symm), rfl⟩
      · have ht : (s.toList == (kwl[k]?.getD { data := #[] }).toList) = false := by assumption
        go_round
        case rel => exact ⟨k + 1, by omega, by go_num, Lib.hid (by rw [hs.out, BEq.comm (a := (kwl[k]?.getD { data := #[] }).toList), ht, HK.out]; rfl)⟩
        case measure => simp [intOf]; omega
    · obtain rfl : k = 20 := by omega
      go_wp2
      go_ret
      exact ⟨ret_bool HK.out.symm, rfl⟩
set_option maxHeartbeats 1000000 in
theorem rkeywords_any (w : World) :
    Calls Tryd.prog 37 #[] w fun e w' => e = .returned (.slice (some ⟨w.heap.size, 0, none⟩) 20 20) ∧ Below w.heap.size w w' ∧ Holds w' w.heap.size kwl ∧ w.heap.size < w'.heap.size := by
  go_enter Tryd.func37, Tryd.ntmps37
  go_wp2
  go_ret
  exact ⟨rfl, (Below.refl _ _).alloc (Nat.le_refl _) _, holds_new w 9, by simp⟩
set_option maxHeartbeats 1000000 in
theorem rkeyword_any (s : ByteArray) (w : World) :
    Calls Tryd.prog 22 #[.string s] w fun e w' => e = .returned (.bool (kwB s)) ∧ Below w.heap.size w w' := by
  go_enter Tryd.func22, Tryd.ntmps22
  go_wp2_with (first
    | (go_at_call 37; refine (rkeywords_any _).mono ?_; rintro e w1 ⟨rfl, hb, hh, _⟩; have HH := Lib.hid hh; clear hh)
    | (go_at_call 36; refine (in_any s kwl _ 20 20 _ (by rw [kwl_length]; omega) (by rw [kwl_length]; omega) HH).mono ?_; rintro e w2 ⟨rfl, rfl⟩))
  go_ret
  exact ⟨rfl, hb⟩
theorem keyword_is {B : Nat} {s : ByteArray} {b : Bool} (h : kwB s = b) (w : World) (hK : Kws B w) :
    Calls Tryd.prog 43 #[.string s] w fun e w' => e = .returned (.bool b) ∧ w = w' := by subst h; exact keyword_any s w hK
theorem rkeyword_is {s : ByteArray} {b : Bool} (h : kwB s = b) (w : World) :
    Calls Tryd.prog 22 #[.string s] w fun e w' => e = .returned (.bool b) ∧ Below w.heap.size w w' := by subst h; exact rkeyword_any s w
end Go.Proofs.YtekbfgjlkmldgaaDoor.M
