/- Joined by program: MTexts, MKeys, MNames. -/
import Derived.Test.YtjakeidbajkdcaaGreatDoorG08
import Derived.Test.YtjakeidbajkdcaaGreatDoorG02
import Derived.Deep.QuietTactic
import Derived.BigQuiet
import Derived.Laws.Rows
import Derived.Laws.CopyOwn
/- Texts in a row: In, the document's search, and SameTexts: each tells what it should; the world is as it was. -/
namespace Go.Proofs.YtjakeidbajkdcaaGreatDoor.M
open Go.RowKit
theorem ret_bool {a b : Bool} (h : a = b) : Ending.returned (.bool a) = .returned (.bool b) := by rw [h]
/-- Is the text one of some? -/
def inB (s : ByteArray) (ss : List ByteArray) : Bool := ss.any fun t => t.toList == s.toList
theorem str_eq {a b : ByteArray} : (a.toList == b.toList) = true ↔ a = b := by
  rw [ByteArray.toList_eq, ByteArray.toList_eq, beq_iff_eq]
  exact ⟨fun h => by apply ByteArray.ext; exact Array.toList_inj.1 h, fun h => by rw [h]⟩
theorem inB_iff {s : ByteArray} {ss : List ByteArray} : inB s ss = true ↔ s ∈ ss := by
  rw [inB, List.any_eq_true]
  exact ⟨fun ⟨x, hx, h⟩ => by rw [← str_eq.1 h]; exact hx, fun h => ⟨s, h, str_eq.2 rfl⟩⟩
theorem inB_zero (s : ByteArray) (ss : List ByteArray) : inB s (ss.take 0) = false := by rw [List.take_zero]; rfl
theorem inB_succ (s : ByteArray) (ss : List ByteArray) (k : Nat) (h : k < ss.length) : inB s (ss.take (k + 1)) = (inB s (ss.take k) || ((ss[k]?.getD { data := #[] }).toList == s.toList)) := by
  rw [inB, List.take_succ_eq_append_getElem h, List.any_append, inB, List.getElem?_eq_getElem h]
  simp
theorem inB_mono {s : ByteArray} {ss : List ByteArray} {k n : Nat} (hk : k ≤ n) (h : inB s (ss.take k) = true) : inB s (ss.take n) = true := by
  rw [inB_iff] at h ⊢
  rw [← List.take_append_drop k (ss.take n), List.take_take, Nat.min_eq_left hk]
  exact List.mem_append_left _ h
/-- The slice of block g holds the texts ss. -/
def Holds (w : World) (g : Nat) (ss : List ByteArray) : Prop := ∀ j, j < ss.length → w.cell? ⟨g, j, none⟩ = some (.string (ss.getD j ⟨#[]⟩))
end Go.Proofs.YtjakeidbajkdcaaGreatDoor.M
/- Keyword and Keywords, the program's and the document's: each tells what it should; what lay below is as it was. Condition: the keywords lie in their variable. -/
namespace Go.Proofs.YtjakeidbajkdcaaGreatDoor.M
open Go.RowKit
/-- The keywords as cells. -/
def kwCells : Array Value := (kwl.map Value.string).toArray
theorem kwCells_size : (Tryz.prog.info? 165).map (·.size) = some kwCells.size := by kernel_rfl
theorem kw_idx : ∀ k : Nat, k < 20 → ∀ w, (Instr.index 165 (.agg kwCells) (.int .i64 (k : Int))).run Tryz.prog w = .ok (.string (kwl.getD k ⟨#[]⟩)) w
  | 0, _ => fun w => by kernel_rfl
  | 1, _ => fun w => by kernel_rfl
  | 2, _ => fun w => by kernel_rfl
  | 3, _ => fun w => by kernel_rfl
  | 4, _ => fun w => by kernel_rfl
  | 5, _ => fun w => by kernel_rfl
  | 6, _ => fun w => by kernel_rfl
  | 7, _ => fun w => by kernel_rfl
  | 8, _ => fun w => by kernel_rfl
  | 9, _ => fun w => by kernel_rfl
  | 10, _ => fun w => by kernel_rfl
  | 11, _ => fun w => by kernel_rfl
  | 12, _ => fun w => by kernel_rfl
  | 13, _ => fun w => by kernel_rfl
  | 14, _ => fun w => by kernel_rfl
  | 15, _ => fun w => by kernel_rfl
  | 16, _ => fun w => by kernel_rfl
  | 17, _ => fun w => by kernel_rfl
  | 18, _ => fun w => by kernel_rfl
  | 19, _ => fun w => by kernel_rfl
  | k + 20, h => absurd h (by omega)
def kwB (s : ByteArray) : Bool := inB s kwl
set_option maxHeartbeats 1000000 in
theorem keyword_any {B : Nat} (s : ByteArray) (w : World) (hK : Kws B w) :
    Calls Tryz.prog 152 #[.string s] w fun e w' => e = .returned (.bool (kwB s)) ∧ w = w' := by
  obtain ⟨_, t, fr, hk⟩ := hK
  have hk' : w.heap[0]? = some (.cells kwCells t fr) := hk
  have HK0 := Lib.hid hk'
  clear hk hk'
  go_enter Tryz.func152, Tryz.ntmps152
  go_wp2_with (refine wpList_load_row rfl 165 (.global 0) rfl 0 rfl t kwCells fr _ HK0.out Tryz.underlying165 rfl kwCells_size ?_)
  go_loop [4, 6] (fun _ i => ∃ k : Nat, k ≤ 20 ∧ i = .int .i64 k ∧ Hid (inB s (kwl.take k) = false)) (fun _ i => 20 - (intOf i).toNat)
  case atStart => exact ⟨0, by omega, rfl, Lib.hid (inB_zero _ _)⟩
  case round =>
    obtain ⟨k, hk, rfl, HK⟩ := hrel
    by_cases hlt : k < 20
    · have hi := kw_idx k hlt
      have hs := Lib.hid (inB_succ s kwl k (by rw [kwl_length]; exact hlt))
      go_wp2
      · have ht : (s.toList == (kwl[k]?.getD { data := #[] }).toList) = true := by assumption
        go_ret
        exact ⟨ret_bool (show true = inB s (kwl.take 20) from (inB_mono (k := k + 1) (by omega) (by rw [hs.out, BEq.comm, ht, Bool.or_true])).symm), rfl⟩
      · have ht : (s.toList == (kwl[k]?.getD { data := #[] }).toList) = false := by assumption
        go_round
        case rel => exact ⟨k + 1, by omega, by go_num, Lib.hid (by rw [hs.out, BEq.comm (a := (kwl[k]?.getD { data := #[] }).toList), ht, HK.out]; rfl)⟩
        case measure => simp [intOf]; omega
    · obtain rfl : k = 20 := by omega
      go_wp2
      go_ret
      exact ⟨ret_bool HK.out.symm, rfl⟩
theorem keyword_is {B : Nat} {s : ByteArray} {b : Bool} (h : kwB s = b) (w : World) (hK : Kws B w) :
    Calls Tryz.prog 152 #[.string s] w fun e w' => e = .returned (.bool b) ∧ w = w' := by subst h; exact keyword_any s w hK
end Go.Proofs.YtjakeidbajkdcaaGreatDoor.M
/- Name and Tag, the program's and the document's: each tells what it should; what lay below is as it was. Condition: the keywords lie in their variable. -/
namespace Go.Proofs.YtjakeidbajkdcaaGreatDoor.M
open Go.RowKit
def nameB (s : ByteArray) : Bool := wholeB s && (begW (fst s) && !kwB s)
def tagB (s : ByteArray) : Bool := wholeB s && begT (fst s)
theorem whole_no0 {s : ByteArray} (h : ¬ 0 < s.size) : wholeB s = false := by simp only [wholeB, decide_eq_false_iff_not]; omega
theorem whole_no20 {s : ByteArray} (h : ¬ s.size ≤ 20) : wholeB s = false := by simp only [wholeB, decide_eq_false_iff_not]; omega
theorem whole_now {s : ByteArray} (h : ¬ wl s = s.size) : wholeB s = false := by simp only [wholeB, decide_eq_false_iff_not]; exact fun x => h x.2.2
theorem whole_yes {s : ByteArray} (h0 : 0 < s.size) (h1 : s.size ≤ 20) (h : wl s = s.size) : wholeB s = true := by simp only [wholeB, decide_eq_true_eq]; exact ⟨h0, h1, h⟩
theorem whole_pos {s : ByteArray} (h : wholeB s = true) : 0 < s.size := by simp only [wholeB, decide_eq_true_eq] at h; exact h.1
theorem word_is {s : ByteArray} {n : Nat} (h : wl s = n) (hs : s.size ≤ 9223372036854775807) (w : World) :
    Calls Tryz.prog 118 #[.string s] w fun e w' => e = .returned (.int .i64 n) ∧ w = w' := by subst h; exact word_any s hs w
set_option maxHeartbeats 400000 in
theorem whole_any (s : ByteArray) (hs : s.size ≤ 9223372036854775807) (w : World) :
    Calls Tryz.prog 175 #[.string s] w fun e w' => e = .returned (.bool (wholeB s)) ∧ w = w' := by
  by_cases h0 : 0 < s.size
  · have hne := ne_str h0
    by_cases h1 : s.size ≤ 20
    · obtain ⟨n, hn⟩ : ∃ n, wl s = n := ⟨_, rfl⟩
      by_cases h2 : n = s.size
      · subst h2
        rw [whole_yes h0 h1 hn]
        have HN := Lib.hid hn
        clear hn
        go_enter Tryz.func175, Tryz.ntmps175
        go_wp2_with (go_at_call 118; refine (word_is HN.out hs _).mono ?_; rintro e w' ⟨rfl, rfl⟩)
        go_ret
        exact ⟨rfl, rfl⟩
      · rw [whole_now (by rw [hn]; exact h2)]
        have HN := Lib.hid hn
        have h3 : ((n : Int) == (s.size : Int)) = false := by simpa using (by omega : ¬ (n : Int) = (s.size : Int))
        have h4 : (n == s.size) = false := by simpa using h2
        clear hn
        go_enter Tryz.func175, Tryz.ntmps175
        go_wp2_with (go_at_call 118; refine (word_is HN.out hs _).mono ?_; rintro e w' ⟨rfl, rfl⟩)
        go_ret
        exact ⟨rfl, rfl⟩
    · rw [whole_no20 h1]
      have h5 : decide ((s.size : Int) ≤ 20) = false := by simpa using (by omega : ¬ (s.size : Int) ≤ 20)
      go_enter Tryz.func175, Tryz.ntmps175
      go_wp2_with fail
      go_ret
      exact ⟨rfl, rfl⟩
  · rw [whole_no0 h0]
    obtain rfl := is_empty h0
    go_enter Tryz.func175, Tryz.ntmps175
    go_wp2_with fail
    go_ret
    exact ⟨rfl, rfl⟩
theorem whole_is {s : ByteArray} {b : Bool} (h : wholeB s = b) (hs : s.size ≤ 9223372036854775807) (w : World) :
    Calls Tryz.prog 175 #[.string s] w fun e w' => e = .returned (.bool b) ∧ w = w' := by subst h; exact whole_any s hs w
set_option maxHeartbeats 400000 in
theorem name_go {B : Nat} (s : ByteArray) (b b1 b2 : Bool) (h0 : 0 < s.size) (hs : s.size ≤ 9223372036854775807) (HV : Hid (wholeB s = true)) (HW : Hid (begW s[0].toNat = b1)) (HK : Hid (kwB s = b2)) (HB : Hid ((b1 && !b2) = b)) (w : World) (hK : Kws B w) :
    Calls Tryz.prog 154 #[.string s] w fun e w' => e = .returned (.bool b) ∧ w = w' := by
  cases b1 with
  | false =>
    go_enter Tryz.func154, Tryz.ntmps154
    go_wp2_with (first | (go_at_call 175; refine (whole_is HV.out hs _).mono ?_; rintro e w' ⟨rfl, rfl⟩) | (go_at_call 149; refine (bw_is HW.out _).mono ?_; rintro e w' ⟨rfl, rfl⟩))
    go_ret
    exact ⟨ret_bool HB.out, rfl⟩
  | true =>
    go_enter Tryz.func154, Tryz.ntmps154
    go_wp2_with (first | (go_at_call 175; refine (whole_is HV.out hs _).mono ?_; rintro e w' ⟨rfl, rfl⟩) | (go_at_call 149; refine (bw_is HW.out _).mono ?_; rintro e w' ⟨rfl, rfl⟩) | (go_at_call 152; refine (keyword_is HK.out _ hK).mono ?_; rintro e w' ⟨rfl, rfl⟩))
    go_ret
    exact ⟨ret_bool HB.out, rfl⟩
theorem name_any {B : Nat} (s : ByteArray) (hs : s.size ≤ 9223372036854775807) (w : World) (hK : Kws B w) :
    Calls Tryz.prog 154 #[.string s] w fun e w' => e = .returned (.bool (nameB s)) ∧ w = w' := by
  cases hv : wholeB s with
  | true =>
    have h0 := whole_pos hv
    exact name_go s _ _ _ h0 hs (Lib.hid hv) (Lib.hid rfl) (Lib.hid rfl) (Lib.hid (by rw [nameB, hv, fst_at h0]; rfl)) w hK
  | false =>
    rw [nameB, hv]
    have HV := Lib.hid hv
    clear hv
    go_enter Tryz.func154, Tryz.ntmps154
    go_wp2_with (go_at_call 175; refine (whole_is HV.out hs _).mono ?_; rintro e w' ⟨rfl, rfl⟩)
    go_ret
    exact ⟨rfl, rfl⟩
set_option maxHeartbeats 400000 in
theorem tag_go (s : ByteArray) (b : Bool) (h0 : 0 < s.size) (hs : s.size ≤ 9223372036854775807) (HV : Hid (wholeB s = true)) (HT : Hid (begT s[0].toNat = b)) (w : World) :
    Calls Tryz.prog 155 #[.string s] w fun e w' => e = .returned (.bool b) ∧ w = w' := by
  go_enter Tryz.func155, Tryz.ntmps155
  go_wp2_with (first | (go_at_call 175; refine (whole_is HV.out hs _).mono ?_; rintro e w' ⟨rfl, rfl⟩) | (go_at_call 150; refine (bt_is HT.out _).mono ?_; rintro e w' ⟨rfl, rfl⟩))
  go_ret
  exact ⟨rfl, rfl⟩
theorem tag_any (s : ByteArray) (hs : s.size ≤ 9223372036854775807) (w : World) :
    Calls Tryz.prog 155 #[.string s] w fun e w' => e = .returned (.bool (tagB s)) ∧ w = w' := by
  cases hv : wholeB s with
  | true =>
    have h0 := whole_pos hv
    exact tag_go s _ h0 hs (Lib.hid hv) (Lib.hid (by rw [tagB, hv, fst_at h0]; rfl)) w
  | false =>
    rw [tagB, hv]
    have HV := Lib.hid hv
    clear hv
    go_enter Tryz.func155, Tryz.ntmps155
    go_wp2_with (go_at_call 175; refine (whole_is HV.out hs _).mono ?_; rintro e w' ⟨rfl, rfl⟩)
    go_ret
    exact ⟨rfl, rfl⟩

theorem whole_parts {s : ByteArray} (h : wholeB s = true) : s.size ≤ 20 ∧ wl s = s.size := by simp only [wholeB, decide_eq_true_eq] at h; exact h.2
end Go.Proofs.YtjakeidbajkdcaaGreatDoor.M
