/- Joined by program: MKeys, MNames. -/
import Derived.Test.YteikpeaakmbihaaDoorG11
import Derived.Laws.Rows
import Derived.Laws.CopyOwn
/- Keyword and Keywords, the program's and the document's: each tells what it should; what lay below is as it was. Condition: the keywords lie in their variable. -/
namespace Go.Proofs.YteikpeaakmbihaaDoor.M
open Go.RowKit
/-- The keywords as cells. -/
def kwCells : Array Value := (kwl.map Value.string).toArray
theorem kwCells_size : (Tryd.prog.info? 133).map (·.size) = some kwCells.size := by kernel_rfl
theorem kwCells_one : kwCells.all (·.oneCell') = true := by kernel_rfl
theorem kw_idx : ∀ k : Nat, k < 20 → ∀ w, (Instr.index 133 (.agg kwCells) (.int .i64 (k : Int))).run Tryd.prog w = .ok (.string (kwl.getD k ⟨#[]⟩)) w
  | 0, _ => fun w => by kernel_rfl
  | 1, _ => fun w => by kernel_rfl
  | 2, _ => fun w => by kernel_rfl
  | 3, _ => fun w => by kernel_rfl
  | 4, _ => fun w => by kernel_rfl
  | 5, _ => fun w => by kernel_rfl
  | 6, _ => fun w => by kernel_rfl
  | 7, _ => fun w => by kernel_rfl
  | 8, _ => fun w => by kernel_rfl
  | 9, _ => fun w => by kernel_rfl
  | 10, _ => fun w => by kernel_rfl
  | 11, _ => fun w => by kernel_rfl
  | 12, _ => fun w => by kernel_rfl
  | 13, _ => fun w => by kernel_rfl
  | 14, _ => fun w => by kernel_rfl
  | 15, _ => fun w => by kernel_rfl
  | 16, _ => fun w => by kernel_rfl
  | 17, _ => fun w => by kernel_rfl
  | 18, _ => fun w => by kernel_rfl
  | 19, _ => fun w => by kernel_rfl
  | k + 20, h => absurd h (by omega)
theorem kwCells_get (j : Nat) (hj : j < kwl.length) : kwCells[j]? = some (.string (kwl.getD j ⟨#[]⟩)) := by
  rw [kwCells, List.getElem?_toArray, List.getElem?_map, List.getD_eq_getElem?_getD, List.getElem?_eq_getElem hj]; rfl
theorem holds_block {w : World} {g : Nat} {t : TypeId} {fr : Nat × Nat} (h : w.heap[g]? = some (.cells kwCells t fr)) : Holds w g kwl := fun j hj => by
  rw [cell_of_row w g j kwCells t fr h]; exact kwCells_get j hj
theorem holds_new (w : World) (t : TypeId) : Holds (w.alloc (.cells kwCells t)) w.heap.size kwl := holds_block (heap_alloc_new w _)
def kwB (s : ByteArray) : Bool := inB s kwl
set_option maxHeartbeats 1000000 in
theorem keyword_any {B : Nat} (s : ByteArray) (w : World) (hK : Kws B w) :
    Calls Tryd.prog 101 #[.string s] w fun e w' => e = .returned (.bool (kwB s)) ∧ w = w' := by
  obtain ⟨_, t, fr, hk⟩ := hK
  have hk' : w.heap[0]? = some (.cells kwCells t fr) := hk
  have HK0 := Lib.hid hk'
  clear hk hk'
  go_enter Tryd.func101, Tryd.ntmps101
  go_wp2_with (refine wpList_load_row rfl 133 (.global 0) rfl 0 rfl t kwCells fr _ HK0.out Tryd.underlying133 rfl kwCells_size ?_)
  go_loop [4, 6] (fun _ i => ∃ k : Nat, k ≤ 20 ∧ i = .int .i64 k ∧ Hid (inB s (kwl.take k) = false)) (fun _ i => 20 - (intOf i).toNat)
  case atStart => exact ⟨0, by omega, rfl, Lib.hid (inB_zero _ _)⟩
  case round =>
    obtain ⟨k, hk, rfl, HK⟩ := hrel
    by_cases hlt : k < 20
    · have hi := kw_idx k hlt
      have hs := Lib.hid (inB_succ s kwl k (by rw [kwl_length]; exact hlt))
      go_wp2
      · have ht : (s.toList == (kwl[k]?.getD { data := #[] }).toList) = true := by assumption
        go_ret
        exact ⟨ret_bool (show true = inB s (kwl.take 20) from (inB_mono (k := k + 1) (by omega) (by rw [hs.out, BEq.comm, ht, Bool.or_true])).symm), rfl⟩
      · have ht : (s.toList == (kwl[k]?.getD { data := #[] }).toList) = false := by assumption
        go_round
        case rel => exact ⟨k + 1, by omega, by go_num, Lib.hid (by rw [hs.out, BEq.comm (a := (kwl[k]?.getD { data := #[] }).toList), ht, HK.out]; rfl)⟩
        case measure => simp [intOf]; omega
    · obtain rfl : k = 20 := by omega
      go_wp2
      go_ret
      exact ⟨ret_bool HK.out.symm, rfl⟩
set_option maxHeartbeats 1000000 in
theorem rkeywords_any (w : World) :
    Calls Tryd.prog 91 #[] w fun e w' => e = .returned (.slice (some ⟨w.heap.size, 0, none⟩) 20 20) ∧ Below w.heap.size w w' ∧ Holds w' w.heap.size kwl ∧ w.heap.size < w'.heap.size := by
  go_enter Tryd.func91, Tryd.ntmps91
  go_wp2
  go_ret
  exact ⟨rfl, (Below.refl _ _).alloc (Nat.le_refl _) _, holds_new w 9, by simp⟩
set_option maxHeartbeats 1000000 in
theorem rkeyword_any (s : ByteArray) (w : World) :
    Calls Tryd.prog 81 #[.string s] w fun e w' => e = .returned (.bool (kwB s)) ∧ Below w.heap.size w w' := by
  go_enter Tryd.func81, Tryd.ntmps81
  go_wp2_with (first
    | (go_at_call 91; refine (rkeywords_any _).mono ?_; rintro e w1 ⟨rfl, hb, hh, _⟩; have HH := Lib.hid hh; clear hh)
    | (go_at_call 90; refine (in_any s kwl _ 20 20 _ (by rw [kwl_length]; omega) (by rw [kwl_length]; omega) HH).mono ?_; rintro e w2 ⟨rfl, rfl⟩))
  go_ret
  exact ⟨rfl, hb⟩
theorem keyword_is {B : Nat} {s : ByteArray} {b : Bool} (h : kwB s = b) (w : World) (hK : Kws B w) :
    Calls Tryd.prog 101 #[.string s] w fun e w' => e = .returned (.bool b) ∧ w = w' := by subst h; exact keyword_any s w hK
theorem rkeyword_is {s : ByteArray} {b : Bool} (h : kwB s = b) (w : World) :
    Calls Tryd.prog 81 #[.string s] w fun e w' => e = .returned (.bool b) ∧ Below w.heap.size w w' := by subst h; exact rkeyword_any s w
end Go.Proofs.YteikpeaakmbihaaDoor.M
/- Name and Tag, the program's and the document's: each tells what it should; what lay below is as it was. Condition: the keywords lie in their variable. -/
namespace Go.Proofs.YteikpeaakmbihaaDoor.M
open Go.RowKit
def nameB (s : ByteArray) : Bool := wholeB s && (begW (fst s) && !kwB s)
def tagB (s : ByteArray) : Bool := wholeB s && begT (fst s)
theorem whole_no0 {s : ByteArray} (h : ¬ 0 < s.size) : wholeB s = false := by simp only [wholeB, decide_eq_false_iff_not]; omega
theorem whole_no20 {s : ByteArray} (h : ¬ s.size ≤ 20) : wholeB s = false := by simp only [wholeB, decide_eq_false_iff_not]; omega
theorem whole_now {s : ByteArray} (h : ¬ wl s = s.size) : wholeB s = false := by simp only [wholeB, decide_eq_false_iff_not]; exact fun x => h x.2.2
theorem whole_yes {s : ByteArray} (h0 : 0 < s.size) (h1 : s.size ≤ 20) (h : wl s = s.size) : wholeB s = true := by simp only [wholeB, decide_eq_true_eq]; exact ⟨h0, h1, h⟩
theorem whole_pos {s : ByteArray} (h : wholeB s = true) : 0 < s.size := by simp only [wholeB, decide_eq_true_eq] at h; exact h.1
theorem word_is {s : ByteArray} {n : Nat} (h : wl s = n) (hs : s.size ≤ 9223372036854775807) (w : World) :
    Calls Tryd.prog 106 #[.string s] w fun e w' => e = .returned (.int .i64 n) ∧ w = w' := by subst h; exact word_any s hs w
theorem rword_is {s : ByteArray} {n : Nat} (h : wl s = n) (hs : s.size ≤ 9223372036854775807) (w : World) :
    Calls Tryd.prog 79 #[.string s] w fun e w' => e = .returned (.int .i64 n) ∧ w = w' := by subst h; exact rword_any s hs w
set_option maxHeartbeats 400000 in
theorem whole_any (s : ByteArray) (hs : s.size ≤ 9223372036854775807) (w : World) :
    Calls Tryd.prog 99 #[.string s] w fun e w' => e = .returned (.bool (wholeB s)) ∧ w = w' := by
  by_cases h0 : 0 < s.size
  · have hne := ne_str h0
    by_cases h1 : s.size ≤ 20
    · obtain ⟨n, hn⟩ : ∃ n, wl s = n := ⟨_, rfl⟩
      by_cases h2 : n = s.size
      · subst h2
        rw [whole_yes h0 h1 hn]
        have HN := Lib.hid hn
        clear hn
        go_enter Tryd.func99, Tryd.ntmps99
        go_wp2_with (go_at_call 106; refine (word_is HN.out hs _).mono ?_; rintro e w' ⟨rfl, rfl⟩)
        go_ret
        exact ⟨rfl, rfl⟩
      · rw [whole_now (by rw [hn]; exact h2)]
        have HN := Lib.hid hn
        have h3 : ((n : Int) == (s.size : Int)) = false := by simpa using (by omega : ¬ (n : Int) = (s.size : Int))
        have h4 : (n == s.size) = false := by simpa using h2
        clear hn
        go_enter Tryd.func99, Tryd.ntmps99
        go_wp2_with (go_at_call 106; refine (word_is HN.out hs _).mono ?_; rintro e w' ⟨rfl, rfl⟩)
        go_ret
        exact ⟨rfl, rfl⟩
    · rw [whole_no20 h1]
      have h5 : decide ((s.size : Int) ≤ 20) = false := by simpa using (by omega : ¬ (s.size : Int) ≤ 20)
      go_enter Tryd.func99, Tryd.ntmps99
      go_wp2_with fail
      go_ret
      exact ⟨rfl, rfl⟩
  · rw [whole_no0 h0]
    obtain rfl := is_empty h0
    go_enter Tryd.func99, Tryd.ntmps99
    go_wp2_with fail
    go_ret
    exact ⟨rfl, rfl⟩
theorem whole_is {s : ByteArray} {b : Bool} (h : wholeB s = b) (hs : s.size ≤ 9223372036854775807) (w : World) :
    Calls Tryd.prog 99 #[.string s] w fun e w' => e = .returned (.bool b) ∧ w = w' := by subst h; exact whole_any s hs w
set_option maxHeartbeats 400000 in
theorem name_go {B : Nat} (s : ByteArray) (b b1 b2 : Bool) (h0 : 0 < s.size) (hs : s.size ≤ 9223372036854775807) (HV : Hid (wholeB s = true)) (HW : Hid (begW s[0].toNat = b1)) (HK : Hid (kwB s = b2)) (HB : Hid ((b1 && !b2) = b)) (w : World) (hK : Kws B w) :
    Calls Tryd.prog 95 #[.string s] w fun e w' => e = .returned (.bool b) ∧ w = w' := by
  cases b1 with
  | false =>
    go_enter Tryd.func95, Tryd.ntmps95
    go_wp2_with (first | (go_at_call 99; refine (whole_is HV.out hs _).mono ?_; rintro e w' ⟨rfl, rfl⟩) | (go_at_call 100; refine (bw_is HW.out _).mono ?_; rintro e w' ⟨rfl, rfl⟩))
    go_ret
    exact ⟨ret_bool HB.out, rfl⟩
  | true =>
    go_enter Tryd.func95, Tryd.ntmps95
    go_wp2_with (first | (go_at_call 99; refine (whole_is HV.out hs _).mono ?_; rintro e w' ⟨rfl, rfl⟩) | (go_at_call 100; refine (bw_is HW.out _).mono ?_; rintro e w' ⟨rfl, rfl⟩) | (go_at_call 101; refine (keyword_is HK.out _ hK).mono ?_; rintro e w' ⟨rfl, rfl⟩))
    go_ret
    exact ⟨ret_bool HB.out, rfl⟩
theorem name_any {B : Nat} (s : ByteArray) (hs : s.size ≤ 9223372036854775807) (w : World) (hK : Kws B w) :
    Calls Tryd.prog 95 #[.string s] w fun e w' => e = .returned (.bool (nameB s)) ∧ w = w' := by
  cases hv : wholeB s with
  | true =>
    have h0 := whole_pos hv
    exact name_go s _ _ _ h0 hs (Lib.hid hv) (Lib.hid rfl) (Lib.hid rfl) (Lib.hid (by rw [nameB, hv, fst_at h0]; rfl)) w hK
  | false =>
    rw [nameB, hv]
    have HV := Lib.hid hv
    clear hv
    go_enter Tryd.func95, Tryd.ntmps95
    go_wp2_with (go_at_call 99; refine (whole_is HV.out hs _).mono ?_; rintro e w' ⟨rfl, rfl⟩)
    go_ret
    exact ⟨rfl, rfl⟩
set_option maxHeartbeats 400000 in
theorem tag_go (s : ByteArray) (b : Bool) (h0 : 0 < s.size) (hs : s.size ≤ 9223372036854775807) (HV : Hid (wholeB s = true)) (HT : Hid (begT s[0].toNat = b)) (w : World) :
    Calls Tryd.prog 96 #[.string s] w fun e w' => e = .returned (.bool b) ∧ w = w' := by
  go_enter Tryd.func96, Tryd.ntmps96
  go_wp2_with (first | (go_at_call 99; refine (whole_is HV.out hs _).mono ?_; rintro e w' ⟨rfl, rfl⟩) | (go_at_call 102; refine (bt_is HT.out _).mono ?_; rintro e w' ⟨rfl, rfl⟩))
  go_ret
  exact ⟨rfl, rfl⟩
theorem tag_any (s : ByteArray) (hs : s.size ≤ 9223372036854775807) (w : World) :
    Calls Tryd.prog 96 #[.string s] w fun e w' => e = .returned (.bool (tagB s)) ∧ w = w' := by
  cases hv : wholeB s with
  | true =>
    have h0 := whole_pos hv
    exact tag_go s _ h0 hs (Lib.hid hv) (Lib.hid (by rw [tagB, hv, fst_at h0]; rfl)) w
  | false =>
    rw [tagB, hv]
    have HV := Lib.hid hv
    clear hv
    go_enter Tryd.func96, Tryd.ntmps96
    go_wp2_with (go_at_call 99; refine (whole_is HV.out hs _).mono ?_; rintro e w' ⟨rfl, rfl⟩)
    go_ret
    exact ⟨rfl, rfl⟩

set_option maxHeartbeats 400000 in
theorem rname_out (s : ByteArray) (hs : s.size ≤ 9223372036854775807) (hv : wholeB s = false) (w : World) :
    Calls Tryd.prog 66 #[.string s] w fun e w' => e = .returned (.bool false) ∧ Below w.heap.size w w' := by
  by_cases h0 : 0 < s.size
  · have h0' : decide (0 < (s.size : Int)) = true := by simpa using h0
    by_cases h1 : s.size ≤ 20
    · obtain ⟨n, hn⟩ : ∃ n, wl s = n := ⟨_, rfl⟩
      have h2 : ¬ n = s.size := fun e => by rw [whole_yes h0 h1 (hn.trans e)] at hv; cases hv
      have HN := Lib.hid hn
      have h3 : ((n : Int) == (s.size : Int)) = false := by simpa using (by omega : ¬ (n : Int) = (s.size : Int))
      have h4 : (n == s.size) = false := by simpa using h2
      clear hn hv
      go_enter Tryd.func66, Tryd.ntmps66
      go_wp2_with (first | (go_at_call 79; refine (rword_is HN.out hs _).mono ?_; rintro e w' ⟨rfl, rfl⟩))
      go_ret
      exact ⟨rfl, Below.refl _ _⟩
    · have h5 : decide ((s.size : Int) ≤ 20) = false := by simpa using (by omega : ¬ (s.size : Int) ≤ 20)
      clear hv
      go_enter Tryd.func66, Tryd.ntmps66
      go_wp2_with (first | fail)
      go_ret
      exact ⟨rfl, Below.refl _ _⟩
  · obtain rfl := is_empty h0
    clear hv
    go_enter Tryd.func66, Tryd.ntmps66
    go_wp2_with (first | fail)
    go_ret
    exact ⟨rfl, Below.refl _ _⟩
set_option maxHeartbeats 400000 in
theorem rtag_out (s : ByteArray) (hs : s.size ≤ 9223372036854775807) (hv : wholeB s = false) (w : World) :
    Calls Tryd.prog 67 #[.string s] w fun e w' => e = .returned (.bool false) ∧ w = w' := by
  by_cases h0 : 0 < s.size
  · have h0' : decide (0 < (s.size : Int)) = true := by simpa using h0
    by_cases h1 : s.size ≤ 20
    · obtain ⟨n, hn⟩ : ∃ n, wl s = n := ⟨_, rfl⟩
      have h2 : ¬ n = s.size := fun e => by rw [whole_yes h0 h1 (hn.trans e)] at hv; cases hv
      have HN := Lib.hid hn
      have h3 : ((n : Int) == (s.size : Int)) = false := by simpa using (by omega : ¬ (n : Int) = (s.size : Int))
      have h4 : (n == s.size) = false := by simpa using h2
      clear hn hv
      go_enter Tryd.func67, Tryd.ntmps67
      go_wp2_with (first | (go_at_call 79; refine (rword_is HN.out hs _).mono ?_; rintro e w' ⟨rfl, rfl⟩))
      go_ret
      exact ⟨rfl, rfl⟩
    · have h5 : decide ((s.size : Int) ≤ 20) = false := by simpa using (by omega : ¬ (s.size : Int) ≤ 20)
      clear hv
      go_enter Tryd.func67, Tryd.ntmps67
      go_wp2_with (first | fail)
      go_ret
      exact ⟨rfl, rfl⟩
  · obtain rfl := is_empty h0
    clear hv
    go_enter Tryd.func67, Tryd.ntmps67
    go_wp2_with (first | fail)
    go_ret
    exact ⟨rfl, rfl⟩
theorem whole_parts {s : ByteArray} (h : wholeB s = true) : s.size ≤ 20 ∧ wl s = s.size := by simp only [wholeB, decide_eq_true_eq] at h; exact h.2
set_option maxHeartbeats 400000 in
theorem rname_go (s : ByteArray) (b b1 b2 : Bool) (h0 : 0 < s.size) (h1 : s.size ≤ 20) (hs : s.size ≤ 9223372036854775807) (HN : Hid (wl s = s.size)) (HW : Hid (begW s[0].toNat = b1)) (HK : Hid (kwB s = b2)) (HB : Hid ((b1 && !b2) = b)) (w : World) :
    Calls Tryd.prog 66 #[.string s] w fun e w' => e = .returned (.bool b) ∧ Below w.heap.size w w' := by
  have h0' : decide (0 < (s.size : Int)) = true := by simpa using h0
  have h1' : decide ((s.size : Int) ≤ 20) = true := by simpa using (by omega : (s.size : Int) ≤ 20)
  cases b1 with
  | false =>
    go_enter Tryd.func66, Tryd.ntmps66
    go_wp2_with (first | (go_at_call 79; refine (rword_is HN.out hs _).mono ?_; rintro e w' ⟨rfl, rfl⟩) | (go_at_call 80; refine (sm_is HW.out _).mono ?_; rintro e w' ⟨rfl, rfl⟩))
    go_ret
    exact ⟨ret_bool HB.out, Below.refl _ _⟩
  | true =>
    go_enter Tryd.func66, Tryd.ntmps66
    go_wp2_with (first | (go_at_call 79; refine (rword_is HN.out hs _).mono ?_; rintro e w' ⟨rfl, rfl⟩) | (go_at_call 80; refine (sm_is HW.out _).mono ?_; rintro e w' ⟨rfl, rfl⟩) | (go_at_call 81; refine (rkeyword_is HK.out _).mono ?_; rintro e w' ⟨rfl, hb⟩))
    go_ret
    exact ⟨ret_bool HB.out, hb⟩
theorem rname_any (s : ByteArray) (hs : s.size ≤ 9223372036854775807) (w : World) :
    Calls Tryd.prog 66 #[.string s] w fun e w' => e = .returned (.bool (nameB s)) ∧ Below w.heap.size w w' := by
  cases hv : wholeB s with
  | true =>
    have h0 := whole_pos hv
    exact rname_go s _ _ _ h0 (whole_parts hv).1 hs (Lib.hid (whole_parts hv).2) (Lib.hid rfl) (Lib.hid rfl) (Lib.hid (by rw [nameB, hv, fst_at h0]; rfl)) w
  | false => rw [nameB, hv]; exact rname_out s hs hv w
set_option maxHeartbeats 400000 in
theorem rtag_go (s : ByteArray) (b : Bool) (h0 : 0 < s.size) (h1 : s.size ≤ 20) (hs : s.size ≤ 9223372036854775807) (HN : Hid (wl s = s.size)) (HT : Hid (begT s[0].toNat = b)) (w : World) :
    Calls Tryd.prog 67 #[.string s] w fun e w' => e = .returned (.bool b) ∧ w = w' := by
  have h0' : decide (0 < (s.size : Int)) = true := by simpa using h0
  have h1' : decide ((s.size : Int) ≤ 20) = true := by simpa using (by omega : (s.size : Int) ≤ 20)
  go_enter Tryd.func67, Tryd.ntmps67
  go_wp2_with (first | (go_at_call 79; refine (rword_is HN.out hs _).mono ?_; rintro e w' ⟨rfl, rfl⟩) | (go_at_call 82; refine (gr_is HT.out _).mono ?_; rintro e w' ⟨rfl, rfl⟩))
  go_ret
  exact ⟨rfl, rfl⟩
theorem rtag_any (s : ByteArray) (hs : s.size ≤ 9223372036854775807) (w : World) :
    Calls Tryd.prog 67 #[.string s] w fun e w' => e = .returned (.bool (tagB s)) ∧ w = w' := by
  cases hv : wholeB s with
  | true =>
    have h0 := whole_pos hv
    exact rtag_go s _ h0 (whole_parts hv).1 hs (Lib.hid (whole_parts hv).2) (Lib.hid (by rw [tagB, hv, fst_at h0]; rfl)) w
  | false => rw [tagB, hv]; exact rtag_out s hs hv w
end Go.Proofs.YteikpeaakmbihaaDoor.M
