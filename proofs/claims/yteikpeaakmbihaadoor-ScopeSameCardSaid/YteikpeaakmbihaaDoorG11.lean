/- Joined by program: MTexts. -/
import Derived.Test.YteikpeaakmbihaaDoorG09
import Derived.Test.YteikpeaakmbihaaDoorG10
import Derived.Deep.QuietTactic
import Derived.BigQuiet
/- Texts in a row: In, the document's search, and SameTexts: each tells what it should; the world is as it was. -/
namespace Go.Proofs.YteikpeaakmbihaaDoor.M
open Go.RowKit
theorem ret_bool {a b : Bool} (h : a = b) : Ending.returned (.bool a) = .returned (.bool b) := by rw [h]
/-- Is the text one of some? -/
def inB (s : ByteArray) (ss : List ByteArray) : Bool := ss.any fun t => t.toList == s.toList
theorem str_eq {a b : ByteArray} : (a.toList == b.toList) = true ↔ a = b := by
  rw [ByteArray.toList_eq, ByteArray.toList_eq, beq_iff_eq]
  exact ⟨fun h => by apply ByteArray.ext; exact Array.toList_inj.1 h, fun h => by rw [h]⟩
theorem inB_iff {s : ByteArray} {ss : List ByteArray} : inB s ss = true ↔ s ∈ ss := by
  rw [inB, List.any_eq_true]
  exact ⟨fun ⟨x, hx, h⟩ => by rw [← str_eq.1 h]; exact hx, fun h => ⟨s, h, str_eq.2 rfl⟩⟩
theorem inB_false {s : ByteArray} {ss : List ByteArray} : inB s ss = false ↔ s ∉ ss := by
  rw [← inB_iff]; cases inB s ss <;> simp
theorem inB_zero (s : ByteArray) (ss : List ByteArray) : inB s (ss.take 0) = false := by rw [List.take_zero]; rfl
theorem getD_eq (ss : List ByteArray) (k : Nat) : ss.getD k ⟨#[]⟩ = ss[k]?.getD { data := #[] } := by rw [List.getD_eq_getElem?_getD]
theorem inB_succ (s : ByteArray) (ss : List ByteArray) (k : Nat) (h : k < ss.length) : inB s (ss.take (k + 1)) = (inB s (ss.take k) || ((ss[k]?.getD { data := #[] }).toList == s.toList)) := by
  rw [inB, List.take_succ_eq_append_getElem h, List.any_append, inB, List.getElem?_eq_getElem h]
  simp
theorem inB_mono {s : ByteArray} {ss : List ByteArray} {k n : Nat} (hk : k ≤ n) (h : inB s (ss.take k) = true) : inB s (ss.take n) = true := by
  rw [inB_iff] at h ⊢
  rw [← List.take_append_drop k (ss.take n), List.take_take, Nat.min_eq_left hk]
  exact List.mem_append_left _ h
/-- The slice of block g holds the texts ss. -/
def Holds (w : World) (g : Nat) (ss : List ByteArray) : Prop := ∀ j, j < ss.length → w.cell? ⟨g, j, none⟩ = some (.string (ss.getD j ⟨#[]⟩))
set_option maxHeartbeats 400000 in
theorem in_any (s : ByteArray) (ss : List ByteArray) (g n c : Nat) (w : World) (hn : n ≤ ss.length) (hm : ss.length ≤ 140737488351232) (hh : Hid (Holds w g ss)) :
    Calls Tryd.prog 90 #[.string s, .slice (some ⟨g, 0, none⟩) n c] w fun e w' => e = .returned (.bool (inB s (ss.take n))) ∧ w = w' := by
  go_enter Tryd.func90, Tryd.ntmps90
  go_wp2
  go_loop [5] (fun i => ∃ k : Nat, k ≤ n ∧ i = .int .i64 k ∧ Hid (inB s (ss.take k) = false)) (fun i => n - (intOf i).toNat)
  case atStart => exact ⟨0, by omega, rfl, Lib.hid (inB_zero _ _)⟩
  case round =>
    obtain ⟨k, hk, rfl, HK⟩ := hrel
    by_cases hlt : k < n
    · have hc := hh.out k (by omega)
      have hs := Lib.hid (inB_succ s ss k (by omega))
      go_wp2
      · have ht : ((ss[k]?.getD { data := #[] }).toList == s.toList) = true := by assumption
        go_ret
        exact ⟨ret_bool (inB_mono (k := k + 1) (by omega) (by rw [hs.out, ht, Bool.or_true])).symm, rfl⟩
      · have ht : ((ss[k]?.getD { data := #[] }).toList == s.toList) = false := by assumption
        go_round
        case rel => exact ⟨k + 1, by omega, by go_num, Lib.hid (by rw [hs.out, ht, HK.out]; rfl)⟩
        case measure => simp [intOf]; omega
    · obtain rfl : k = n := by omega
      go_wp2
      go_ret
      exact ⟨ret_bool HK.out.symm, rfl⟩
end Go.Proofs.YteikpeaakmbihaaDoor.M
