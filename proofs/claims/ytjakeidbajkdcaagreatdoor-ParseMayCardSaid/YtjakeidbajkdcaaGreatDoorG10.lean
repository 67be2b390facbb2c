/- Joined by program: MMaps. -/
import Derived.Test.YtjakeidbajkdcaaGreatDoorG09
import Derived.Maps.OwnSet
import Derived.StringKeys
import Derived.Deep.Draws
/- Sets of texts: setOf and has, Twice, the program's and the document's: each tells what it should; what lay below is as it was. -/
namespace Go.Proofs.YtjakeidbajkdcaaGreatDoor.M
open Go.RowKit Go.Maps Go.WideMaps
def keyOfT (s : ByteArray) : Lit := .string s.data.toList
/-- The set of some texts. -/
def SS (ss : List ByteArray) : DataW Unit := setOf (.agg []) (ss.map keyOfT)
theorem SS_zero (ss : List ByteArray) : SS (ss.take 0) = .map [] := by simp [SS, setOf]
theorem SS_succ (ss : List ByteArray) (k : Nat) (hk : k < ss.length) : SS (ss.take (k + 1)) = (SS (ss.take k)).put (keyOfT (ss.getD k ⟨#[]⟩)) (.agg []) := by
  unfold SS
  rw [List.take_succ_eq_append_getElem hk, List.map_append, List.map_singleton, setOf_snoc, List.getD_eq_getElem?_getD, List.getElem?_eq_getElem hk]; rfl
/-- Do two stand there that are the same? -/
def tw (ss : List ByteArray) : Bool := decide (Maps.size (SS ss) < ss.length)
theorem law9 : Keyed Tryz.prog 9 := string_keyed Tryz.underlying9
theorem key_ok {s : ByteArray} (h : s.size ≤ maxLen) : keyOf Tryz.prog 9 (.string s) = some (keyOfT s) := keyOf_string_mk Tryz.underlying9 h
/-- No text is longer than can be. -/
def Short (ss : List ByteArray) : Prop := ∀ s ∈ ss, s.size ≤ maxLen
theorem Short.at {ss : List ByteArray} (h : Short ss) (k : Nat) : (ss.getD k ⟨#[]⟩).size ≤ maxLen := by
  by_cases hk : k < ss.length
  · rw [List.getD_eq_getElem?_getD, List.getElem?_eq_getElem hk]; exact h _ (List.getElem_mem hk)
  · rw [List.getD_eq_getElem?_getD, List.getElem?_eq_none (by omega)]; exact Nat.zero_le _
set_option maxHeartbeats 1000000 in
set_option maxRecDepth 100000 in
theorem set_any (ss : List ByteArray) (g c : Nat) (w : World) (hm : ss.length ≤ 140737488351232) (hz : Short ss) (hg : g < w.heap.size) (hh : Hid (Holds w g ss)) :
    Calls Tryz.prog 210 #[.slice (some ⟨g, 0, none⟩) ss.length c] w fun e w' => e = .returned (.map (some w.heap.size)) ∧ w'.ownsMap Tryz.prog 9 unitElem w.heap.size ss.length (SS ss) ∧ Below w.heap.size w w' := by
  have hmm := @run_makeMap Tryz.prog
  go_enter Tryz.func210, Tryz.ntmps210
  go_wp2
  go_loopw [5, 9] (fun _ i wr => ∃ k : Nat, k ≤ ss.length ∧ i = .int .i64 k ∧ wr.ownsMap Tryz.prog 9 (unitElem (H := Unit)) w.heap.size k (SS (ss.take k)) ∧ Below w.heap.size w wr)
    (fun _ i _ => ss.length - (intOf i).toNat)
  case atStart => exact ⟨0, Nat.zero_le _, rfl, by rw [SS_zero]; exact World.ownsMap_made _ _ _ _, (Below.refl _ _).alloc (Nat.le_refl _) _⟩
  case round =>
    obtain ⟨k, hk, rfl, hown, hnx⟩ := hrel
    by_cases hlt : k < ss.length
    · have hcx : wr.cell? ⟨g, k, none⟩ = some (.string (ss.getD k ⟨#[]⟩)) := (hnx.cell (p := ⟨g, k, none⟩) hg).trans (hh.out k hlt)
      have hkey := key_ok (Short.at hz k)
      have HS := Lib.hid (SS_succ ss k hlt)
      obtain ⟨t, ht⟩ : ∃ t, ss.getD k ⟨#[]⟩ = t := ⟨_, rfl⟩
      rw [ht] at hcx hkey HS
      clear ht
      go_wp2_with (first
        | (at_mapUpdate; refine wpList_mapUpdate_own _ rfl _ _ _ 187 rfl 9 193 law9 Tryz.underlying187 (unitElem (H := Unit)) w.heap.size k _ rfl hown (by unfold maxLen; omega) _ _ _ rfl rfl hkey _ [] unitElem_mk ?_; intro w1 hown1 hgrow1)
        | go_in)
      go_roundw
      case rel => exact ⟨k + 1, by omega, by go_num, HS.out.symm ▸ hown1, hnx.grown hgrow1 hnx.size (fun j hj => by cases hj; exact Nat.le_refl _)⟩
      case measure => simp [intOf]; omega
    · obtain rfl : k = ss.length := by omega
      go_wp2
      go_ret
      exact ⟨rfl, by rw [List.take_length] at hown; exact hown, hnx⟩
set_option maxHeartbeats 400000 in
theorem twice_any (ss : List ByteArray) (g c : Nat) (w : World) (hm : ss.length ≤ 140737488351232) (hz : Short ss) (hg : g < w.heap.size) (hh : Hid (Holds w g ss)) :
    Calls Tryz.prog 202 #[.slice (some ⟨g, 0, none⟩) ss.length c] w fun e w' => e = .returned (.bool (tw ss)) ∧ Below w.heap.size w w' := by
  go_enter Tryz.func202, Tryz.ntmps202
  go_wp2_with (first
    | (go_at_call 210; refine (set_any ss g c _ hm hz hg hh).mono ?_; rintro e w1 ⟨rfl, hown, hb⟩)
    | (at_len; refine wpList_len_own _ rfl _ 187 rfl 9 193 Tryz.underlying187 (unitElem (H := Unit)) w.heap.size ss.length (SS ss) rfl hown ?_))
  go_ret
  exact ⟨ret_bool (by simp [tw]), hb⟩
theorem Holds.drewN {w : World} {g : Nat} {ss : List ByteArray} (h : Holds w g ss) (n : Nat) : Holds (w.drewN n) g ss := fun j hj => by rw [World.cell?_drewN]; exact h j hj
theorem below_drewN {B : Nat} {a w : World} (h : Below B a w) (n : Nat) : Below B a (w.drewN n) := ⟨h.os, h.tape, h.output, h.size, h.block⟩
end Go.Proofs.YtjakeidbajkdcaaGreatDoor.M
