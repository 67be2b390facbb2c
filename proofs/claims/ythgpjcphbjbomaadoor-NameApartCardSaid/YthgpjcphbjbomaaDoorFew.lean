/- few: a slice of the call's own that holds the first 30 texts of a slice; what lay below is as it was. -/
import Derived.Test.YthgpjcphbjbomaaDoorMaps
import Derived.OwnWalk
import Derived.Laws.AppendOwnNone
import Derived.Outline
namespace Go.Proofs.YthgpjcphbjbomaaDoor
open Go.RowKit
theorem textInfo : (Tryd.prog.info? 9).map (fun i => (i.zero, i.size, i.bytes)) = some (some (.string ⟨#[]⟩), 1, 16) := by kernel_rfl
def sv (ss : List ByteArray) : List Value := ss.map Value.string
/-- The slice v holds the texts ss, in a block from B on. -/
def Few (B : Nat) (ss : List ByteArray) (w : World) (e : Ending) (w' : World) : Prop :=
  ∃ g c, e = .returned (.slice (some ⟨g, 0, none⟩) ss.length c) ∧ ss.length ≤ c ∧ B ≤ g ∧ g < w'.heap.size ∧ Holds w' g ss ∧ Below B w w'
theorem few_end {B : Nat} {ss : List ByteArray} {w w' : World} {v : Value} (h : w'.ownsRow B 9 1 v ss.length (sv ss)) (hv : v ≠ .slice none 0 0) (hb : Below B w w') : Few B ss w (.returned v) w' := by
  rcases h.2 with ⟨rfl, _⟩ | ⟨g, cap, cur, rfl, hbg, hh, hnc, _⟩
  · exact absurd rfl hv
  · refine ⟨g, cap, rfl, hnc, hbg, (Array.getElem?_eq_some_iff.1 hh).1, fun j hj => ?_, hb⟩
    have := World.ownsRow.cells h (g := g) rfl j (.string (ss.getD j ⟨#[]⟩)) (by simp [sv, List.getD_eq_getElem?_getD, hj])
    rw [Addr.add_lit, Nat.zero_add] at this
    exact this
theorem sv_one (ss : List ByteArray) : ∀ u ∈ sv ss, u.oneCell' = true := fun u hu => by obtain ⟨s, _, rfl⟩ := List.mem_map.1 hu; rfl
theorem src_cells {w : World} {ss : List ByteArray} {b off K : Nat} (hlt : b < w.heap.size) (hh : ∀ j, j < ss.length → w.cell? ⟨b, off + j, none⟩ = some (.string (ss.getD j ⟨#[]⟩))) (o : Obj) :
    ∀ j u, (sv (ss.take K))[j]? = some u → (w.alloc o).cell? ((⟨b, off, none⟩ : Addr).add j) = some u := fun j u hu => by
  have hj : j < (ss.take K).length := by
    have := (List.getElem?_eq_some_iff.1 hu).1
    rwa [sv, List.length_map] at this
  rw [List.length_take] at hj
  have e := hh j (by omega)
  rw [Addr.add_lit]
  have e2 : (w.alloc o).cell? ⟨b, off + j, none⟩ = w.cell? ⟨b, off + j, none⟩ := World.cell?_of_block (a := ⟨b, off + j, none⟩) (Below.heap_alloc w o b hlt)
  rw [e2, e]
  rw [sv, List.getElem?_map, List.getElem?_take, if_pos (by omega), List.getElem?_eq_getElem (by omega)] at hu
  rw [List.getD_eq_getElem?_getD, List.getElem?_eq_getElem (by omega)]
  exact hu
theorem few_own {B K : Nat} {ss : List ByteArray} {w' : World} {v : Value} (hK : K ≤ ss.length) (h : w'.ownsRow B 9 1 v (0 + K) ([] ++ sv (ss.take K))) : w'.ownsRow B 9 1 v (ss.take K).length (sv (ss.take K)) := by
  rw [List.length_take, Nat.min_eq_left hK]; simpa using h
set_option maxHeartbeats 1000000 in
theorem few_less {B : Nat} (ss : List ByteArray) (b off c : Nat) (w : World) (hB : B ≤ w.heap.size) (hlt : b < w.heap.size) (hc : ss.length ≤ c) (hm : ss.length ≤ 140737488351232) (h30 : (ss.length : Int) ≤ 30)
    (hh : Hid (∀ j, j < ss.length → w.cell? ⟨b, off + j, none⟩ = some (.string (ss.getD j ⟨#[]⟩)))) :
    Calls Tryd.prog 18 #[.slice (some ⟨b, off, none⟩) ss.length c] w (Few B (ss.take ss.length) w) := by
  obtain ⟨i0, hi0, hz0, hz1, hz2⟩ := info_parts textInfo
  have HS := Lib.hid (src_cells (K := ss.length) hlt hh.out (.cells #[] 9))
  have hl : (sv (ss.take ss.length)).length = ss.length * 1 := by rw [sv, List.length_map, List.length_take]; omega
  have HL := Lib.hid hl
  have h63 : 0 + ss.length ≤ maxLen := by unfold maxLen; omega
  have hby : (0 + ss.length) * 16 ≤ 140737488355328 := by omega
  have hBb : B ≤ (w.alloc (.cells #[] 9)).heap.size := by simp; omega
  have hrow : Hid ((w.alloc (.cells #[] 9)).ownsRow B 9 1 (.slice (some ⟨w.heap.size, 0, none⟩) 0 0) 0 []) := Lib.hid (World.ownsRow_made w #[] 0 hB (by decide) rfl)
  clear hl
  go_enter Tryd.func18, Tryd.ntmps18
  go_wp2_with (at_builtin; refine wpList_append_own _ rfl _ _ 25 rfl B 9 i0 (.string ⟨#[]⟩) 1 16 Tryd.underlying25 hi0 hz0 hz1 hz2 rfl (by decide) _ 0 [] rfl hrow.out ⟨b, off, none⟩ ss.length c (sv (ss.take ss.length)) rfl HL.out HS.out (sv_one _) h63 hby hBb ?_; intro v' w1 hown hgrow hnil)
  go_ret
  exact few_end (few_own (by omega) hown) (fun e => by have := (hnil.1 e).1; cases this) (((Below.refl B w).alloc hB _).grown hgrow hBb (fun k hk => by cases hk; exact hB))
set_option maxHeartbeats 1000000 in
theorem few_more {B : Nat} (ss : List ByteArray) (b off c : Nat) (w : World) (hB : B ≤ w.heap.size) (hlt : b < w.heap.size) (hc : ss.length ≤ c) (hm : ss.length ≤ 140737488351232) (h30 : (30 : Int) < ss.length)
    (hh : Hid (∀ j, j < ss.length → w.cell? ⟨b, off + j, none⟩ = some (.string (ss.getD j ⟨#[]⟩)))) :
    Calls Tryd.prog 18 #[.slice (some ⟨b, off, none⟩) ss.length c] w (Few B (ss.take 30) w) := by
  obtain ⟨i0, hi0, hz0, hz1, hz2⟩ := info_parts textInfo
  have HS := Lib.hid (src_cells (K := 30) hlt hh.out (.cells #[] 9))
  have hl : (sv (ss.take 30)).length = 30 * 1 := by rw [sv, List.length_map, List.length_take]; omega
  have HL := Lib.hid hl
  have h63 : 0 + 30 ≤ maxLen := by unfold maxLen; omega
  have hby : (0 + 30) * 16 ≤ 140737488355328 := by omega
  have hBb : B ≤ (w.alloc (.cells #[] 9)).heap.size := by simp; omega
  have hrow : Hid ((w.alloc (.cells #[] 9)).ownsRow B 9 1 (.slice (some ⟨w.heap.size, 0, none⟩) 0 0) 0 []) := Lib.hid (World.ownsRow_made w #[] 0 hB (by decide) rfl)
  clear hl
  go_enter Tryd.func18, Tryd.ntmps18
  go_wp2_with (at_builtin; refine wpList_append_own _ rfl _ _ 25 rfl B 9 i0 (.string ⟨#[]⟩) 1 16 Tryd.underlying25 hi0 hz0 hz1 hz2 rfl (by decide) _ 0 [] rfl hrow.out ⟨b, off, none⟩ 30 c (sv (ss.take 30)) rfl HL.out HS.out (sv_one _) h63 hby hBb ?_; intro v' w1 hown hgrow hnil)
  go_ret
  exact few_end (few_own (by omega) hown) (fun e => by have := (hnil.1 e).1; cases this) (((Below.refl B w).alloc hB _).grown hgrow hBb (fun k hk => by cases hk; exact hB))
theorem few_some {B : Nat} (ss : List ByteArray) (b off c : Nat) (w : World) (hB : B ≤ w.heap.size) (hlt : b < w.heap.size) (hc : ss.length ≤ c) (hm : ss.length ≤ 140737488351232)
    (hh : Hid (∀ j, j < ss.length → w.cell? ⟨b, off + j, none⟩ = some (.string (ss.getD j ⟨#[]⟩)))) :
    Calls Tryd.prog 18 #[.slice (some ⟨b, off, none⟩) ss.length c] w (Few B (ss.take 30) w) := by
  by_cases h : ss.length ≤ 30
  · have := few_less ss b off c w hB hlt hc hm (by omega) hh
    rw [List.take_length] at this
    rw [List.take_of_length_le h]
    exact this
  · exact few_more ss b off c w hB hlt hc hm (by omega) hh
set_option maxHeartbeats 400000 in
theorem few_none {B : Nat} (w : World) (hB : B ≤ w.heap.size) : Calls Tryd.prog 18 #[.slice none 0 0] w (Few B [] w) := by
  obtain ⟨i0, hi0, hz0, hz1, hz2⟩ := info_parts textInfo
  have hrow : Hid ((w.alloc (.cells #[] 9)).ownsRow B 9 1 (.slice (some ⟨w.heap.size, 0, none⟩) 0 0) 0 []) := Lib.hid (World.ownsRow_made w #[] 0 hB (by decide) rfl)
  go_enter Tryd.func18, Tryd.ntmps18
  go_wp2_with (at_builtin; refine wpList_append_own_none rfl _ _ 25 rfl B 9 i0 1 Tryd.underlying25 hi0 _ 0 [] rfl hrow.out rfl ?_)
  go_ret
  exact few_end (ss := []) hrow.out (fun e => by cases e) ((Below.refl B w).alloc hB _)
end Go.Proofs.YthgpjcphbjbomaaDoor
