/- Joined by program. -/
import Derived.Test.YtjakeidbajkdcaaGreatDoorH06
import Derived.Test.YtjakeidbajkdcaaGreatDoorH01
import Derived.Test.YtjakeidbajkdcaaGreatDoorH00
import Derived.Deep.QuietTactic
import Derived.BigQuiet
import Derived.Laws.Rows
import Derived.Laws.CopyOwn
import Derived.Maps.OwnSet
import Derived.StringKeys
import Derived.Deep.Draws
import Derived.RangeFuncBox
set_option maxRecDepth 100000
set_option maxHeartbeats 4000000
namespace Go.Proofs.YtjakeidbajkdcaaGreatDoor.M
open Go.RowKit
theorem ret_bool {a b : Bool} (h : a = b) : Ending.returned (.bool a) = .returned (.bool b) := by rw [h]
def inB (s : ByteArray) (ss : List ByteArray) : Bool := ss.any fun t => t.toList == s.toList
theorem str_eq {a b : ByteArray} : (a.toList == b.toList) = true ↔ a = b := by
  rw [ByteArray.toList_eq, ByteArray.toList_eq, beq_iff_eq]
  exact ⟨fun h => by apply ByteArray.ext; exact Array.toList_inj.1 h, fun h => by rw [h]⟩
theorem inB_iff {s : ByteArray} {ss : List ByteArray} : inB s ss = true ↔ s ∈ ss := by
  rw [inB, List.any_eq_true]
  exact ⟨fun ⟨x, hx, h⟩ => by rw [<- str_eq.1 h]; exact hx, fun h => ⟨s, h, str_eq.2 rfl⟩⟩
theorem inB_zero (s : ByteArray) (ss : List ByteArray) : inB s (ss.take 0) = false := by rw [List.take_zero]; rfl
theorem inB_succ (s : ByteArray) (ss : List ByteArray) (k : Nat) (h : k < ss.length) : inB s (ss.take (k + 1)) = (inB s (ss.take k) || ((ss[k]?.getD { data := #[] }).toList == s.toList)) := by
  rw [inB, List.take_succ_eq_append_getElem h, List.any_append, inB, List.getElem?_eq_getElem h]
  simp
theorem inB_mono {s : ByteArray} {ss : List ByteArray} {k n : Nat} (hk : k <= n) (h : inB s (ss.take k) = true) : inB s (ss.take n) = true := by
  rw [inB_iff] at h ⊢
  rw [<- List.take_append_drop k (ss.take n), List.take_take, Nat.min_eq_left hk]
  exact List.mem_append_left _ h
def Holds (w : World) (g : Nat) (ss : List ByteArray) : Prop := ∀ j, j < ss.length -> w.cell? ⟨g, j, none⟩ = some (.string (ss.getD j ⟨#[]⟩))
theorem in_any (s : ByteArray) (ss : List ByteArray) (g n c : Nat) (w : World) (hn : n <= ss.length) (hm : ss.length <= 140737488351232) (hh : Hid (Holds w g ss)) :
    Calls Tryz.prog 131 #[.string s, .slice (some ⟨g, 0, none⟩) n c] w fun e w' => e = .returned (.bool (inB s (ss.take n))) /\ w = w' := by
  go_enter Tryz.func131, Tryz.ntmps131
  go_wp2
  go_loop [5] (fun i => ∃ k : Nat, k <= n /\ i = .int .i64 k /\ Hid (inB s (ss.take k) = false)) (fun i => n - (intOf i).toNat)
  case atStart => exact ⟨0, by omega, rfl, Lib.hid (inB_zero _ _)⟩
  case round =>
    obtain ⟨k, hk, rfl, HK⟩ := hrel
    by_cases hlt : k < n
    · have hc := hh.out k (by omega)
      have hs := Lib.hid (inB_succ s ss k (by omega))
      go_wp2
      · have ht : ((ss[k]?.getD { data := #[] }).toList == s.toList) = true := by assumption
        go_ret
        exact ⟨ret_bool (inB_mono (k := k + 1) (by omega) (by rw [hs.out, ht, Bool.or_true])).symm, rfl⟩
      · have ht : ((ss[k]?.getD { data := #[] }).toList == s.toList) = false := by assumption
        go_round
        case rel => exact ⟨k + 1, by omega, by go_num, Lib.hid (by rw [hs.out, ht, HK.out]; rfl)⟩
        case measure => simp [intOf]; omega
    · obtain rfl : k = n := by omega
      go_wp2
      go_ret
      exact ⟨ret_bool HK.out.symm, rfl⟩
open Go.RowKit
def kwCells : Array Value := (kwl.map Value.string).toArray
theorem kwCells_size : (Tryz.prog.info? 165).map (·.size) = some kwCells.size := by kernel_rfl
theorem kw_idx : ∀ k : Nat, k < 20 -> ∀ w, (Instr.index 165 (.agg kwCells) (.int .i64 (k : Int))).run Tryz.prog w = .ok (.string (kwl.getD k ⟨#[]⟩)) w
  | 0, _ => fun w => by kernel_rfl
  | 1, _ => fun w => by kernel_rfl
  | 2, _ => fun w => by kernel_rfl
  | 3, _ => fun w => by kernel_rfl
  | 4, _ => fun w => by kernel_rfl
  | 5, _ => fun w => by kernel_rfl
  | 6, _ => fun w => by kernel_rfl
  | 7, _ => fun w => by kernel_rfl
  | 8, _ => fun w => by kernel_rfl
  | 9, _ => fun w => by kernel_rfl
  | 10, _ => fun w => by kernel_rfl
  | 11, _ => fun w => by kernel_rfl
  | 12, _ => fun w => by kernel_rfl
  | 13, _ => fun w => by kernel_rfl
  | 14, _ => fun w => by kernel_rfl
  | 15, _ => fun w => by kernel_rfl
  | 16, _ => fun w => by kernel_rfl
  | 17, _ => fun w => by kernel_rfl
  | 18, _ => fun w => by kernel_rfl
  | 19, _ => fun w => by kernel_rfl
  | k + 20, h => absurd h (by omega)
theorem kwCells_get (j : Nat) (hj : j < kwl.length) : kwCells[j]? = some (.string (kwl.getD j ⟨#[]⟩)) := by
  rw [kwCells, List.getElem?_toArray, List.getElem?_map, List.getD_eq_getElem?_getD, List.getElem?_eq_getElem hj]; rfl
theorem holds_block {w : World} {g : Nat} {t : TypeId} {fr : Nat × Nat} (h : w.heap[g]? = some (.cells kwCells t fr)) : Holds w g kwl := fun j hj => by
  rw [cell_of_row w g j kwCells t fr h]; exact kwCells_get j hj
theorem holds_new (w : World) (t : TypeId) : Holds (w.alloc (.cells kwCells t)) w.heap.size kwl := holds_block (heap_alloc_new w _)
def kwB (s : ByteArray) : Bool := inB s kwl
theorem keyword_any {B : Nat} (s : ByteArray) (w : World) (hK : Kws B w) :
    Calls Tryz.prog 152 #[.string s] w fun e w' => e = .returned (.bool (kwB s)) /\ w = w' := by
  obtain ⟨_, t, fr, hk⟩ := hK
  have hk' : w.heap[0]? = some (.cells kwCells t fr) := hk
  have HK0 := Lib.hid hk'
  clear hk hk'
  go_enter Tryz.func152, Tryz.ntmps152
  go_wp2_with (refine wpList_load_row rfl 165 (.global 0) rfl 0 rfl t kwCells fr _ HK0.out Tryz.underlying165 rfl kwCells_size ?_)
  go_loop [4, 6] (fun _ i => ∃ k : Nat, k <= 20 /\ i = .int .i64 k /\ Hid (inB s (kwl.take k) = false)) (fun _ i => 20 - (intOf i).toNat)
  case atStart => exact ⟨0, by omega, rfl, Lib.hid (inB_zero _ _)⟩
  case round =>
    obtain ⟨k, hk, rfl, HK⟩ := hrel
    by_cases hlt : k < 20
    · have hi := kw_idx k hlt
      have hs := Lib.hid (inB_succ s kwl k (by rw [kwl_length]; exact hlt))
      go_wp2
      · have ht : (s.toList == (kwl[k]?.getD { data := #[] }).toList) = true := by assumption
        go_ret
        exact ⟨ret_bool (show true = inB s (kwl.take 20) from (inB_mono (k := k + 1) (by omega) (by rw [hs.out, BEq.comm, ht, Bool.or_true])).symm), rfl⟩
      · have ht : (s.toList == (kwl[k]?.getD { data := #[] }).toList) = false := by assumption
        go_round
        case rel => exact ⟨k + 1, by omega, by go_num, Lib.hid (by rw [hs.out, BEq.comm (a := (kwl[k]?.getD { data := #[] }).toList), ht, HK.out]; rfl)⟩
        case measure => simp [intOf]; omega
    · obtain rfl : k = 20 := by omega
      go_wp2
      go_ret
      exact ⟨ret_bool HK.out.symm, rfl⟩
theorem rkeywords_any (w : World) :
    Calls Tryz.prog 132 #[] w fun e w' => e = .returned (.slice (some ⟨w.heap.size, 0, none⟩) 20 20) /\ Below w.heap.size w w' /\ Holds w' w.heap.size kwl /\ w.heap.size < w'.heap.size := by
  go_enter Tryz.func132, Tryz.ntmps132
  go_wp2
  go_ret
  exact ⟨rfl, (Below.refl _ _).alloc (Nat.le_refl _) _, holds_new w 9, by simp⟩
theorem rkeyword_any (s : ByteArray) (w : World) :
    Calls Tryz.prog 91 #[.string s] w fun e w' => e = .returned (.bool (kwB s)) /\ Below w.heap.size w w' := by
  go_enter Tryz.func91, Tryz.ntmps91
  go_wp2_with (first | (go_at_call 132; refine (rkeywords_any _).mono ?_; rintro e w1 ⟨rfl, hb, hh, _⟩; have HH := Lib.hid hh; clear hh) | (go_at_call 131; refine (in_any s kwl _ 20 20 _ (by rw [kwl_length]; omega) (by rw [kwl_length]; omega) HH).mono ?_; rintro e w2 ⟨rfl, rfl⟩))
  go_ret
  exact ⟨rfl, hb⟩
theorem keyword_is {B : Nat} {s : ByteArray} {b : Bool} (h : kwB s = b) (w : World) (hK : Kws B w) :
    Calls Tryz.prog 152 #[.string s] w fun e w' => e = .returned (.bool b) /\ w = w' := by subst h; exact keyword_any s w hK
theorem rkeyword_is {s : ByteArray} {b : Bool} (h : kwB s = b) (w : World) :
    Calls Tryz.prog 91 #[.string s] w fun e w' => e = .returned (.bool b) /\ Below w.heap.size w w' := by subst h; exact rkeyword_any s w
open Go.RowKit
def nameB (s : ByteArray) : Bool := wholeB s && (begW (fst s) && !kwB s)
def tagB (s : ByteArray) : Bool := wholeB s && begT (fst s)
theorem whole_no0 {s : ByteArray} (h : ¬ 0 < s.size) : wholeB s = false := by simp only [wholeB, decide_eq_false_iff_not]; omega
theorem whole_no20 {s : ByteArray} (h : ¬ s.size <= 20) : wholeB s = false := by simp only [wholeB, decide_eq_false_iff_not]; omega
theorem whole_now {s : ByteArray} (h : ¬ wl s = s.size) : wholeB s = false := by simp only [wholeB, decide_eq_false_iff_not]; exact fun x => h x.2.2
theorem whole_yes {s : ByteArray} (h0 : 0 < s.size) (h1 : s.size <= 20) (h : wl s = s.size) : wholeB s = true := by simp only [wholeB, decide_eq_true_eq]; exact ⟨h0, h1, h⟩
theorem whole_pos {s : ByteArray} (h : wholeB s = true) : 0 < s.size := by simp only [wholeB, decide_eq_true_eq] at h; exact h.1
theorem word_is {s : ByteArray} {n : Nat} (h : wl s = n) (hs : s.size <= 9223372036854775807) (w : World) :
    Calls Tryz.prog 118 #[.string s] w fun e w' => e = .returned (.int .i64 n) /\ w = w' := by subst h; exact word_any s hs w
theorem rword_is {s : ByteArray} {n : Nat} (h : wl s = n) (hs : s.size <= 9223372036854775807) (w : World) :
    Calls Tryz.prog 90 #[.string s] w fun e w' => e = .returned (.int .i64 n) /\ w = w' := by subst h; exact rword_any s hs w
theorem whole_any (s : ByteArray) (hs : s.size <= 9223372036854775807) (w : World) :
    Calls Tryz.prog 175 #[.string s] w fun e w' => e = .returned (.bool (wholeB s)) /\ w = w' := by
  by_cases h0 : 0 < s.size
  · have hne := ne_str h0
    by_cases h1 : s.size <= 20
    · obtain ⟨n, hn⟩ : ∃ n, wl s = n := ⟨_, rfl⟩
      by_cases h2 : n = s.size
      · subst h2
        rw [whole_yes h0 h1 hn]
        have HN := Lib.hid hn
        clear hn
        go_enter Tryz.func175, Tryz.ntmps175
        go_wp2_with (go_at_call 118; refine (word_is HN.out hs _).mono ?_; rintro e w' ⟨rfl, rfl⟩)
        go_ret
        exact ⟨rfl, rfl⟩
      · rw [whole_now (by rw [hn]; exact h2)]
        have HN := Lib.hid hn
        have h3 : ((n : Int) == (s.size : Int)) = false := by simpa using (by omega : ¬ (n : Int) = (s.size : Int))
        have h4 : (n == s.size) = false := by simpa using h2
        clear hn
        go_enter Tryz.func175, Tryz.ntmps175
        go_wp2_with (go_at_call 118; refine (word_is HN.out hs _).mono ?_; rintro e w' ⟨rfl, rfl⟩)
        go_ret
        exact ⟨rfl, rfl⟩
    · rw [whole_no20 h1]
      have h5 : decide ((s.size : Int) <= 20) = false := by simpa using (by omega : ¬ (s.size : Int) <= 20)
      go_enter Tryz.func175, Tryz.ntmps175
      go_wp2_with fail
      go_ret
      exact ⟨rfl, rfl⟩
  · rw [whole_no0 h0]
    obtain rfl := is_empty h0
    go_enter Tryz.func175, Tryz.ntmps175
    go_wp2_with fail
    go_ret
    exact ⟨rfl, rfl⟩
theorem whole_is {s : ByteArray} {b : Bool} (h : wholeB s = b) (hs : s.size <= 9223372036854775807) (w : World) :
    Calls Tryz.prog 175 #[.string s] w fun e w' => e = .returned (.bool b) /\ w = w' := by subst h; exact whole_any s hs w
theorem name_go {B : Nat} (s : ByteArray) (b b1 b2 : Bool) (h0 : 0 < s.size) (hs : s.size <= 9223372036854775807) (HV : Hid (wholeB s = true)) (HW : Hid (begW s[0].toNat = b1)) (HK : Hid (kwB s = b2)) (HB : Hid ((b1 && !b2) = b)) (w : World) (hK : Kws B w) :
    Calls Tryz.prog 154 #[.string s] w fun e w' => e = .returned (.bool b) /\ w = w' := by
  cases b1 with
  | false =>
    go_enter Tryz.func154, Tryz.ntmps154
    go_wp2_with (first | (go_at_call 175; refine (whole_is HV.out hs _).mono ?_; rintro e w' ⟨rfl, rfl⟩) | (go_at_call 149; refine (bw_is HW.out _).mono ?_; rintro e w' ⟨rfl, rfl⟩))
    go_ret
    exact ⟨ret_bool HB.out, rfl⟩
  | true =>
    go_enter Tryz.func154, Tryz.ntmps154
    go_wp2_with (first | (go_at_call 175; refine (whole_is HV.out hs _).mono ?_; rintro e w' ⟨rfl, rfl⟩) | (go_at_call 149; refine (bw_is HW.out _).mono ?_; rintro e w' ⟨rfl, rfl⟩) | (go_at_call 152; refine (keyword_is HK.out _ hK).mono ?_; rintro e w' ⟨rfl, rfl⟩))
    go_ret
    exact ⟨ret_bool HB.out, rfl⟩
theorem name_any {B : Nat} (s : ByteArray) (hs : s.size <= 9223372036854775807) (w : World) (hK : Kws B w) :
    Calls Tryz.prog 154 #[.string s] w fun e w' => e = .returned (.bool (nameB s)) /\ w = w' := by
  cases hv : wholeB s with
  | true =>
    have h0 := whole_pos hv
    exact name_go s _ _ _ h0 hs (Lib.hid hv) (Lib.hid rfl) (Lib.hid rfl) (Lib.hid (by rw [nameB, hv, fst_at h0]; rfl)) w hK
  | false =>
    rw [nameB, hv]
    have HV := Lib.hid hv
    clear hv
    go_enter Tryz.func154, Tryz.ntmps154
    go_wp2_with (go_at_call 175; refine (whole_is HV.out hs _).mono ?_; rintro e w' ⟨rfl, rfl⟩)
    go_ret
    exact ⟨rfl, rfl⟩
theorem tag_go (s : ByteArray) (b : Bool) (h0 : 0 < s.size) (hs : s.size <= 9223372036854775807) (HV : Hid (wholeB s = true)) (HT : Hid (begT s[0].toNat = b)) (w : World) :
    Calls Tryz.prog 155 #[.string s] w fun e w' => e = .returned (.bool b) /\ w = w' := by
  go_enter Tryz.func155, Tryz.ntmps155
  go_wp2_with (first | (go_at_call 175; refine (whole_is HV.out hs _).mono ?_; rintro e w' ⟨rfl, rfl⟩) | (go_at_call 150; refine (bt_is HT.out _).mono ?_; rintro e w' ⟨rfl, rfl⟩))
  go_ret
  exact ⟨rfl, rfl⟩
theorem tag_any (s : ByteArray) (hs : s.size <= 9223372036854775807) (w : World) :
    Calls Tryz.prog 155 #[.string s] w fun e w' => e = .returned (.bool (tagB s)) /\ w = w' := by
  cases hv : wholeB s with
  | true =>
    have h0 := whole_pos hv
    exact tag_go s _ h0 hs (Lib.hid hv) (Lib.hid (by rw [tagB, hv, fst_at h0]; rfl)) w
  | false =>
    rw [tagB, hv]
    have HV := Lib.hid hv
    clear hv
    go_enter Tryz.func155, Tryz.ntmps155
    go_wp2_with (go_at_call 175; refine (whole_is HV.out hs _).mono ?_; rintro e w' ⟨rfl, rfl⟩)
    go_ret
    exact ⟨rfl, rfl⟩
theorem rname_out (s : ByteArray) (hs : s.size <= 9223372036854775807) (hv : wholeB s = false) (w : World) :
    Calls Tryz.prog 74 #[.string s] w fun e w' => e = .returned (.bool false) /\ Below w.heap.size w w' := by
  by_cases h0 : 0 < s.size
  · have h0' : decide (0 < (s.size : Int)) = true := by simpa using h0
    by_cases h1 : s.size <= 20
    · obtain ⟨n, hn⟩ : ∃ n, wl s = n := ⟨_, rfl⟩
      have h2 : ¬ n = s.size := fun e => by rw [whole_yes h0 h1 (hn.trans e)] at hv; cases hv
      have HN := Lib.hid hn
      have h3 : ((n : Int) == (s.size : Int)) = false := by simpa using (by omega : ¬ (n : Int) = (s.size : Int))
      have h4 : (n == s.size) = false := by simpa using h2
      clear hn hv
      go_enter Tryz.func74, Tryz.ntmps74
      go_wp2_with (first | (go_at_call 90; refine (rword_is HN.out hs _).mono ?_; rintro e w' ⟨rfl, rfl⟩))
      go_ret
      exact ⟨rfl, Below.refl _ _⟩
    · have h5 : decide ((s.size : Int) <= 20) = false := by simpa using (by omega : ¬ (s.size : Int) <= 20)
      clear hv
      go_enter Tryz.func74, Tryz.ntmps74
      go_wp2_with (first | fail)
      go_ret
      exact ⟨rfl, Below.refl _ _⟩
  · obtain rfl := is_empty h0
    clear hv
    go_enter Tryz.func74, Tryz.ntmps74
    go_wp2_with (first | fail)
    go_ret
    exact ⟨rfl, Below.refl _ _⟩
theorem rtag_out (s : ByteArray) (hs : s.size <= 9223372036854775807) (hv : wholeB s = false) (w : World) :
    Calls Tryz.prog 75 #[.string s] w fun e w' => e = .returned (.bool false) /\ w = w' := by
  by_cases h0 : 0 < s.size
  · have h0' : decide (0 < (s.size : Int)) = true := by simpa using h0
    by_cases h1 : s.size <= 20
    · obtain ⟨n, hn⟩ : ∃ n, wl s = n := ⟨_, rfl⟩
      have h2 : ¬ n = s.size := fun e => by rw [whole_yes h0 h1 (hn.trans e)] at hv; cases hv
      have HN := Lib.hid hn
      have h3 : ((n : Int) == (s.size : Int)) = false := by simpa using (by omega : ¬ (n : Int) = (s.size : Int))
      have h4 : (n == s.size) = false := by simpa using h2
      clear hn hv
      go_enter Tryz.func75, Tryz.ntmps75
      go_wp2_with (first | (go_at_call 90; refine (rword_is HN.out hs _).mono ?_; rintro e w' ⟨rfl, rfl⟩))
      go_ret
      exact ⟨rfl, rfl⟩
    · have h5 : decide ((s.size : Int) <= 20) = false := by simpa using (by omega : ¬ (s.size : Int) <= 20)
      clear hv
      go_enter Tryz.func75, Tryz.ntmps75
      go_wp2_with (first | fail)
      go_ret
      exact ⟨rfl, rfl⟩
  · obtain rfl := is_empty h0
    clear hv
    go_enter Tryz.func75, Tryz.ntmps75
    go_wp2_with (first | fail)
    go_ret
    exact ⟨rfl, rfl⟩
theorem whole_parts {s : ByteArray} (h : wholeB s = true) : s.size <= 20 /\ wl s = s.size := by simp only [wholeB, decide_eq_true_eq] at h; exact h.2
theorem rname_go (s : ByteArray) (b b1 b2 : Bool) (h0 : 0 < s.size) (h1 : s.size <= 20) (hs : s.size <= 9223372036854775807) (HN : Hid (wl s = s.size)) (HW : Hid (begW s[0].toNat = b1)) (HK : Hid (kwB s = b2)) (HB : Hid ((b1 && !b2) = b)) (w : World) :
    Calls Tryz.prog 74 #[.string s] w fun e w' => e = .returned (.bool b) /\ Below w.heap.size w w' := by
  have h0' : decide (0 < (s.size : Int)) = true := by simpa using h0
  have h1' : decide ((s.size : Int) <= 20) = true := by simpa using (by omega : (s.size : Int) <= 20)
  cases b1 with
  | false =>
    go_enter Tryz.func74, Tryz.ntmps74
    go_wp2_with (first | (go_at_call 90; refine (rword_is HN.out hs _).mono ?_; rintro e w' ⟨rfl, rfl⟩) | (go_at_call 112; refine (sm_is HW.out _).mono ?_; rintro e w' ⟨rfl, rfl⟩))
    go_ret
    exact ⟨ret_bool HB.out, Below.refl _ _⟩
  | true =>
    go_enter Tryz.func74, Tryz.ntmps74
    go_wp2_with (first | (go_at_call 90; refine (rword_is HN.out hs _).mono ?_; rintro e w' ⟨rfl, rfl⟩) | (go_at_call 112; refine (sm_is HW.out _).mono ?_; rintro e w' ⟨rfl, rfl⟩) | (go_at_call 91; refine (rkeyword_is HK.out _).mono ?_; rintro e w' ⟨rfl, hb⟩))
    go_ret
    exact ⟨ret_bool HB.out, hb⟩
theorem rname_any (s : ByteArray) (hs : s.size <= 9223372036854775807) (w : World) :
    Calls Tryz.prog 74 #[.string s] w fun e w' => e = .returned (.bool (nameB s)) /\ Below w.heap.size w w' := by
  cases hv : wholeB s with
  | true =>
    have h0 := whole_pos hv
    exact rname_go s _ _ _ h0 (whole_parts hv).1 hs (Lib.hid (whole_parts hv).2) (Lib.hid rfl) (Lib.hid rfl) (Lib.hid (by rw [nameB, hv, fst_at h0]; rfl)) w
  | false => rw [nameB, hv]; exact rname_out s hs hv w
theorem rtag_go (s : ByteArray) (b : Bool) (h0 : 0 < s.size) (h1 : s.size <= 20) (hs : s.size <= 9223372036854775807) (HN : Hid (wl s = s.size)) (HT : Hid (begT s[0].toNat = b)) (w : World) :
    Calls Tryz.prog 75 #[.string s] w fun e w' => e = .returned (.bool b) /\ w = w' := by
  have h0' : decide (0 < (s.size : Int)) = true := by simpa using h0
  have h1' : decide ((s.size : Int) <= 20) = true := by simpa using (by omega : (s.size : Int) <= 20)
  go_enter Tryz.func75, Tryz.ntmps75
  go_wp2_with (first | (go_at_call 90; refine (rword_is HN.out hs _).mono ?_; rintro e w' ⟨rfl, rfl⟩) | (go_at_call 113; refine (gr_is HT.out _).mono ?_; rintro e w' ⟨rfl, rfl⟩))
  go_ret
  exact ⟨rfl, rfl⟩
theorem rtag_any (s : ByteArray) (hs : s.size <= 9223372036854775807) (w : World) :
    Calls Tryz.prog 75 #[.string s] w fun e w' => e = .returned (.bool (tagB s)) /\ w = w' := by
  cases hv : wholeB s with
  | true =>
    have h0 := whole_pos hv
    exact rtag_go s _ h0 (whole_parts hv).1 hs (Lib.hid (whole_parts hv).2) (Lib.hid (by rw [tagB, hv, fst_at h0]; rfl)) w
  | false => rw [tagB, hv]; exact rtag_out s hs hv w
open Go.RowKit Go.Maps Go.WideMaps
def keyOfT (s : ByteArray) : Lit := .string s.data.toList
def SS (ss : List ByteArray) : DataW Unit := setOf (.agg []) (ss.map keyOfT)
theorem SS_zero (ss : List ByteArray) : SS (ss.take 0) = .map [] := by simp [SS, setOf]
theorem SS_succ (ss : List ByteArray) (k : Nat) (hk : k < ss.length) : SS (ss.take (k + 1)) = (SS (ss.take k)).put (keyOfT (ss.getD k ⟨#[]⟩)) (.agg []) := by
  unfold SS
  rw [List.take_succ_eq_append_getElem hk, List.map_append, List.map_singleton, setOf_snoc, List.getD_eq_getElem?_getD, List.getElem?_eq_getElem hk]; rfl
theorem key_lit (ss : List ByteArray) : ∀ x ∈ ss.map keyOfT, WideAt.IsKeyLit x := fun x hx => by obtain ⟨s, _, rfl⟩ := List.mem_map.1 hx; trivial
theorem has_SS (s : ByteArray) (ss : List ByteArray) : Maps.has (SS ss) (keyOfT s) = inB s ss := by
  unfold SS
  rw [has_setOf _ _ _ (key_lit ss), List.any_map, inB]
  congr 1
  funext t
  show (t.data.toList == s.data.toList) = _
  rw [ByteArray.toList_eq, ByteArray.toList_eq]
theorem size_succ (ss : List ByteArray) (k : Nat) (hk : k < ss.length) : Maps.size (SS (ss.take (k + 1))) = if inB (ss.getD k ⟨#[]⟩) (ss.take k) then Maps.size (SS (ss.take k)) else Maps.size (SS (ss.take k)) + 1 := by
  have e := size_put (k := keyOfT (ss.getD k ⟨#[]⟩)) (show Tidy (SS (ss.take k)) from tidy_setOf _ _ (key_lit _)) (.agg [])
  rw [SS_succ ss k hk, e, has_SS]
theorem size_zero (ss : List ByteArray) : Maps.size (SS (ss.take 0)) = 0 := by rw [SS_zero]; rfl
theorem size_up (ss : List ByteArray) (k : Nat) : ∀ m, k + m <= ss.length -> Maps.size (SS (ss.take (k + m))) <= Maps.size (SS (ss.take k)) + m
  | 0, _ => Nat.le_refl _
  | m + 1, h => by
    have ih := size_up ss k m (by omega)
    have e := size_succ ss (k + m) (by omega)
    rw [<- Nat.add_assoc, e]
    split <;> omega
def tw (ss : List ByteArray) : Bool := decide (Maps.size (SS ss) < ss.length)
theorem tw_yes {ss : List ByteArray} {k : Nat} (hk : k < ss.length) (hs : Maps.size (SS (ss.take k)) = k) (h : inB (ss.getD k ⟨#[]⟩) (ss.take k) = true) : tw ss = true := by
  have e := size_succ ss k hk
  rw [h, if_pos rfl] at e
  have u := size_up ss (k + 1) (ss.length - (k + 1)) (by omega)
  rw [show k + 1 + (ss.length - (k + 1)) = ss.length by omega, List.take_length] at u
  simp only [tw, decide_eq_true_eq]; omega
theorem tw_no {ss : List ByteArray} (hs : Maps.size (SS (ss.take ss.length)) = ss.length) : tw ss = false := by
  rw [List.take_length] at hs
  simp only [tw, decide_eq_false_iff_not]; omega
theorem law9 : Keyed Tryz.prog 9 := string_keyed Tryz.underlying9
theorem key_ok {s : ByteArray} (h : s.size <= maxLen) : keyOf Tryz.prog 9 (.string s) = some (keyOfT s) := keyOf_string_mk Tryz.underlying9 h
def Short (ss : List ByteArray) : Prop := ∀ s ∈ ss, s.size <= maxLen
theorem Short.at {ss : List ByteArray} (h : Short ss) (k : Nat) : (ss.getD k ⟨#[]⟩).size <= maxLen := by
  by_cases hk : k < ss.length
  · rw [List.getD_eq_getElem?_getD, List.getElem?_eq_getElem hk]; exact h _ (List.getElem_mem hk)
  · rw [List.getD_eq_getElem?_getD, List.getElem?_eq_none (by omega)]; exact Nat.zero_le _
theorem Holds.on {w w' : World} {g : Nat} {ss : List ByteArray} (h : Holds w g ss) (hg : g < w.heap.size) (hb : Below w.heap.size w w') : Holds w' g ss := fun j hj => (hb.cell (p := ⟨g, j, none⟩) hg).trans (h j hj)
theorem set_any (ss : List ByteArray) (g c : Nat) (w : World) (hm : ss.length <= 140737488351232) (hz : Short ss) (hg : g < w.heap.size) (hh : Hid (Holds w g ss)) :
    Calls Tryz.prog 210 #[.slice (some ⟨g, 0, none⟩) ss.length c] w fun e w' => e = .returned (.map (some w.heap.size)) /\ w'.ownsMap Tryz.prog 9 unitElem w.heap.size ss.length (SS ss) /\ Below w.heap.size w w' := by
  have hmm := @run_makeMap Tryz.prog
  go_enter Tryz.func210, Tryz.ntmps210
  go_wp2
  go_loopw [5, 9] (fun _ i wr => ∃ k : Nat, k <= ss.length /\ i = .int .i64 k /\ wr.ownsMap Tryz.prog 9 (unitElem (H := Unit)) w.heap.size k (SS (ss.take k)) /\ Below w.heap.size w wr)
    (fun _ i _ => ss.length - (intOf i).toNat)
  case atStart => exact ⟨0, Nat.zero_le _, rfl, by rw [SS_zero]; exact World.ownsMap_made _ _ _ _, (Below.refl _ _).alloc (Nat.le_refl _) _⟩
  case round =>
    obtain ⟨k, hk, rfl, hown, hnx⟩ := hrel
    by_cases hlt : k < ss.length
    · have hcx : wr.cell? ⟨g, k, none⟩ = some (.string (ss.getD k ⟨#[]⟩)) := (hnx.cell (p := ⟨g, k, none⟩) hg).trans (hh.out k hlt)
      have hkey := key_ok (Short.at hz k)
      have HS := Lib.hid (SS_succ ss k hlt)
      obtain ⟨t, ht⟩ : ∃ t, ss.getD k ⟨#[]⟩ = t := ⟨_, rfl⟩
      rw [ht] at hcx hkey HS
      clear ht
      go_wp2_with (first | (at_mapUpdate; refine wpList_mapUpdate_own _ rfl _ _ _ 187 rfl 9 193 law9 Tryz.underlying187 (unitElem (H := Unit)) w.heap.size k _ rfl hown (by unfold maxLen; omega) _ _ _ rfl rfl hkey _ [] unitElem_mk ?_; intro w1 hown1 hgrow1) | go_in)
      go_roundw
      case rel => exact ⟨k + 1, by omega, by go_num, HS.out.symm ▸ hown1, hnx.grown hgrow1 hnx.size (fun j hj => by cases hj; exact Nat.le_refl _)⟩
      case measure => simp [intOf]; omega
    · obtain rfl : k = ss.length := by omega
      go_wp2
      go_ret
      exact ⟨rfl, by rw [List.take_length] at hown; exact hown, hnx⟩
theorem twice_any (ss : List ByteArray) (g c : Nat) (w : World) (hm : ss.length <= 140737488351232) (hz : Short ss) (hg : g < w.heap.size) (hh : Hid (Holds w g ss)) :
    Calls Tryz.prog 202 #[.slice (some ⟨g, 0, none⟩) ss.length c] w fun e w' => e = .returned (.bool (tw ss)) /\ Below w.heap.size w w' := by
  go_enter Tryz.func202, Tryz.ntmps202
  go_wp2_with (first | (go_at_call 210; refine (set_any ss g c _ hm hz hg hh).mono ?_; rintro e w1 ⟨rfl, hown, hb⟩) | (at_len; refine wpList_len_own _ rfl _ 187 rfl 9 193 Tryz.underlying187 (unitElem (H := Unit)) w.heap.size ss.length (SS ss) rfl hown ?_))
  go_ret
  exact ⟨ret_bool (by simp [tw]), hb⟩
theorem in_is {s : ByteArray} {ss : List ByteArray} {b : Bool} {g n c : Nat} (h : inB s (ss.take n) = b) (w : World) (hn : n <= ss.length) (hm : ss.length <= 140737488351232) (hh : Hid (Holds w g ss)) :
    Calls Tryz.prog 131 #[.string s, .slice (some ⟨g, 0, none⟩) n c] w fun e w' => e = .returned (.bool b) /\ w = w' := by subst h; exact in_any s ss g n c w hn hm hh
theorem Holds.drewN {w : World} {g : Nat} {ss : List ByteArray} (h : Holds w g ss) (n : Nat) : Holds (w.drewN n) g ss := fun j hj => by rw [World.cell?_drewN]; exact h j hj
theorem below_drewN {B : Nat} {a w : World} (h : Below B a w) (n : Nat) : Below B a (w.drewN n) := ⟨h.os, h.tape, h.output, h.size, h.block⟩
theorem rtwice_any (ss : List ByteArray) (g c : Nat) (w : World) (hcap : ss.length <= c) (hm : ss.length <= 140737488351232) (hh : Hid (Holds w g ss)) :
    Calls Tryz.prog 114 #[.slice (some ⟨g, 0, none⟩) ss.length c] w fun e w' => e = .returned (.bool (tw ss)) /\ Below w.heap.size w w' := by
  go_enter Tryz.func114, Tryz.ntmps114
  go_wp2
  go_loopw [3] (fun i wr => ∃ k : Nat, k <= ss.length /\ i = .int .i64 k /\ Hid (Maps.size (SS (ss.take k)) = k) /\ Hid (Holds wr g ss) /\ Below w.heap.size w wr) (fun i _ => ss.length - (intOf i).toNat)
  case atStart => exact ⟨0, Nat.zero_le _, rfl, Lib.hid (size_zero ss), hh, Below.refl _ _⟩
  case round =>
    obtain ⟨k, hk, rfl, HZ, HH, hbw⟩ := hrel
    by_cases hlt : k < ss.length
    · have hc := HH.out k hlt
      have HY := Lib.hid (tw_yes hlt HZ.out)
      have HS := Lib.hid (size_succ ss k hlt)
      obtain ⟨t, ht⟩ : ∃ t, ss.getD k ⟨#[]⟩ = t := ⟨_, rfl⟩
      rw [ht] at hc HY HS
      clear ht
      have h0 : (0 : Int) <= k := by omega
      have h1 : (k : Int) < ss.length := by omega
      have h2 : (k : Int) <= c := by omega
      have HB : ∃ b, Hid (inB t (ss.take k) = b) := ⟨_, rfl⟩
      obtain ⟨b, HB⟩ := HB
      cases b with
      | true =>
        go_wp2
        go_quiet ((go_at_call 131; exact Calls.quiet_of_same ((in_is HB.out _ (by omega) hm (Lib.hid (HH.out.drewN _))).mono fun _ _ ⟨he, hw⟩ => ⟨he, hw.symm⟩)))
        go_wp2
        go_ret
        exact ⟨ret_bool (HY.out HB.out).symm, below_drewN hbw _⟩
      | false =>
        go_wp2
        go_quiet ((go_at_call 131; exact Calls.quiet_of_same ((in_is HB.out _ (by omega) hm (Lib.hid (HH.out.drewN _))).mono fun _ _ ⟨he, hw⟩ => ⟨he, hw.symm⟩)))
        go_wp2
        go_roundw
        case rel => exact ⟨k + 1, by omega, by go_num, Lib.hid (by rw [HS.out, HB.out, HZ.out]; rfl), Lib.hid (HH.out.drewN _), below_drewN hbw _⟩
        case measure => simp [intOf]; omega
    · obtain rfl : k = ss.length := by omega
      go_wp2
      go_ret
      exact ⟨ret_bool (tw_no HZ.out).symm, hbw⟩
end Go.Proofs.YtjakeidbajkdcaaGreatDoor.M
namespace Go.Proofs.YtjakeidbajkdcaaGreatDoor.T
open Go.RowKit
def fok (k : Int) (f : Fld) : Bool := if k = 11 then M.nameB f.nm && f.vr.toList.isEmpty else M.tagB f.nm && M.nameB f.vr
def labB (k : Int) (l : List Fld) : Bool := l.all (fok k) && (decide (l.length <= 30) && (decide (k = 11) || decide (0 < l.length)) && !M.tw (l.map Fld.nm))
theorem strInfo : (Tryz.prog.info? 9).map (fun i => (i.zero, i.size, i.bytes)) = some (some (.string ⟨#[]⟩), 1, 16) := by kernel_rfl
theorem bcellT {W w1 : World} (hb : Below W.heap.size W w1) : (∀ b o, b < W.heap.size -> w1.cell? ⟨b, o, none⟩ = W.cell? ⟨b, o, none⟩) /\ (∀ b o, b < W.heap.size -> w1.frozen? ⟨b, o, none⟩ = W.frozen? ⟨b, o, none⟩) :=
  ⟨fun b o h => hb.cell (p := ⟨b, o, none⟩) h, fun b o h => hb.frozen (p := ⟨b, o, none⟩) h⟩
theorem nm_take (l : List Fld) (k : Nat) (f : Fld) (h : l[k]? = some f) : (l.take (k + 1)).map (fun f => Value.string f.nm) = (l.take k).map (fun f => Value.string f.nm) ++ [.string f.nm] := by
  have hk : k < l.length := (List.getElem?_eq_some_iff.1 h).1
  rw [List.take_succ_eq_append_getElem hk, List.map_append]
  have : l[k] = f := (List.getElem?_eq_some_iff.1 h).2
  simp [this]
theorem all_take (p : Fld -> Bool) (l : List Fld) (k : Nat) (f : Fld) (h : l[k]? = some f) (ha : (l.take k).all p = true) (hf : p f = true) : (l.take (k + 1)).all p = true := by
  have hk : k < l.length := (List.getElem?_eq_some_iff.1 h).1
  rw [List.take_succ_eq_append_getElem hk, List.all_append, ha]
  have : l[k] = f := (List.getElem?_eq_some_iff.1 h).2
  simp [this, hf]
theorem lab_no (k : Int) (l : List Fld) (j : Nat) (f : Fld) (h : l[j]? = some f) (hf : fok k f = false) : labB k l = false := by
  have : l.all (fok k) = false := by
    rw [List.all_eq_false]
    exact ⟨f, List.mem_of_getElem? h, by simp [hf]⟩
  rw [labB, this]; rfl
theorem rname_is {s : ByteArray} {b : Bool} (h : M.nameB s = b) (hs : s.size <= 9223372036854775807) (w : World) : Calls Tryz.prog 74 #[.string s] w fun e w' => e = .returned (.bool b) /\ Below w.heap.size w w' := by subst h; exact M.rname_any s hs w
theorem rtag_is {s : ByteArray} {b : Bool} (h : M.tagB s = b) (hs : s.size <= 9223372036854775807) (w : World) : Calls Tryz.prog 75 #[.string s] w fun e w' => e = .returned (.bool b) /\ w = w' := by subst h; exact M.rtag_any s hs w
theorem rtwice_is {ss : List ByteArray} {b : Bool} {n g c : Nat} (h : M.tw ss = b) (hn : ss.length = n) (w : World) (hcap : n <= c) (hm : n <= 140737488351232) (hh : Hid (M.Holds w g ss)) :
    Calls Tryz.prog 114 #[.slice (some ⟨g, 0, none⟩) n c] w fun e w' => e = .returned (.bool b) /\ Below w.heap.size w w' := by
  subst h hn; exact M.rtwice_any ss g c w hcap hm hh
theorem holds_of {W : World} {B g n c : Nat} {l : List Fld} (h : W.ownsRow B 9 1 (.slice (some ⟨g, 0, none⟩) n c) n (l.map (fun f => Value.string f.nm))) : M.Holds W g (l.map Fld.nm) := fun j hj => by
  rw [List.length_map] at hj
  have := World.ownsRow.cells h (g := g) rfl j (.string (l[j]).nm) (by simp [hj])
  rw [Addr.add_lit, Nat.zero_add] at this
  rw [this]; simp [List.getD_eq_getElem?_getD, hj]
theorem new1s (W : World) (t : TypeId) (v : Value) (p : Nat) (hp : p = W.heap.size) (j : Nat) (u : Value) (h : [v][j]? = some u) : (W.alloc (.cells #[v] t)).cell? ((⟨p, 0, none⟩ : Addr).add j) = some u := by
  subst hp; exact new1 W t v j u h
theorem ret_b {a b : Bool} (h : a = b) : Ending.returned (.bool a) = .returned (.bool b) := by rw [h]
theorem grown_belowT {w w' : World} (h : Below w.heap.size w w') (row : Option Nat) : w.grownBy w' row := ⟨h.os, h.tape, h.output, h.size, fun k hk _ => h.block k hk⟩
theorem lab_11 (a b c n pos : Int) (nm s : ByteArray) (l : List Fld) (L cp fb fo : Nat) (HL : Hid (l.length = L)) (hL0 : 0 < L) (hL : L <= 1000000) (w : World) (hfb : fb < w.heap.size) (HF : Hid (FldsAt w fb fo l)) (HSZ : Hid (∀ f ∈ l, f.nm.size <= 9223372036854775807 /\ f.vr.size <= 9223372036854775807)) :
    Calls Tryz.prog 76 #[.agg #[.int .i64 11, .int .i64 a, .int .i64 b, .int .i64 c, .int .i64 n, .string nm, .string s, .slice (some ⟨fb, fo, none⟩) L cp, .int .i64 pos]] w fun e w' => e = .returned (.bool (labB 11 l)) /\ Below w.heap.size w w' := by
  obtain ⟨i0, hi, hz0, hz1, hz2⟩ := info_parts strInfo
  go_enter Tryz.func76, Tryz.ntmps76
  go_wp2
  go_loopw [3, 4] (fun v i wr => ∃ q g c' : Nat, v = .slice (some ⟨g, 0, none⟩) q c' /\ i = .int .i64 (q : Int) /\ q <= L /\ Hid (wr.ownsRow (w.heap.size + 1) 9 1 (.slice (some ⟨g, 0, none⟩) q c') q ((l.take q).map (fun f => Value.string f.nm))) /\ Hid ((l.take q).all (fok 11) = true) /\ Hid (Below (w.heap.size + 1) (w.alloc (.cells #[.int .i64 11, .int .i64 a, .int .i64 b, .int .i64 c, .int .i64 n, .string nm, .string s, .slice (some ⟨fb, fo, none⟩) L cp, .int .i64 pos] 37)) wr)) (fun _ i _ => L - (intOf i).toNat)
  case atStart => exact ⟨0, _, _, rfl, rfl, by omega, Lib.hid (by
    have := World.ownsRow_made (base := w.heap.size + 1) (e := 9) (size := 1) (w.alloc (.cells #[.int .i64 11, .int .i64 a, .int .i64 b, .int .i64 c, .int .i64 n, .string nm, .string s, .slice (some ⟨fb, fo, none⟩) L cp, .int .i64 pos] 37)) #[] 0 (by simp) (by decide) rfl
    rw [World.size_alloc] at this; rw [List.take_zero]; exact this), Lib.hid (by simp), Lib.hid ((Below.refl _ _).alloc (by simp) _)⟩
  case round =>
    obtain ⟨q, g, c', rfl, rfl, hq, HI, HA, HB⟩ := hrel
    have hcb : wr.cell? ⟨w.heap.size, 7, none⟩ = some (.slice (some ⟨fb, fo, none⟩) L cp) := by
      rw [HB.out.cell (p := ⟨w.heap.size, 7, none⟩) (by simp), World.cell?, heap_alloc_new]
      rfl
    have hck : wr.cell? ⟨w.heap.size, 0, none⟩ = some (.int .i64 11) := by
      rw [HB.out.cell (p := ⟨w.heap.size, 0, none⟩) (by simp), World.cell?, heap_alloc_new]
      rfl
    have hsz := HB.out.size
    rw [World.size_alloc] at hsz
    have hsz1 : w.heap.size < wr.heap.size := by omega
    have hsz2 : fb < wr.heap.size := by omega
    by_cases hlt : q < L
    · obtain ⟨fd, hfd⟩ : ∃ fd, l[q]? = some fd := ⟨_, List.getElem?_eq_getElem (by rw [HL.out]; exact hlt)⟩
      obtain ⟨m0, m1, m2⟩ := HF.out q fd hfd
      have e3 : ∀ k, wr.cell? ⟨fb, k, none⟩ = w.cell? ⟨fb, k, none⟩ := fun k => by
        rw [HB.out.cell (p := ⟨fb, _, none⟩) (by show fb < w.heap.size + 1; omega), ((Below.refl w.heap.size w).alloc (Nat.le_refl _) _).cell (p := ⟨fb, _, none⟩) hfb]
      rw [<- e3] at m0 m1 m2
      have HS1 : Hid (fd.nm.size <= 9223372036854775807) := Lib.hid (HSZ.out fd (List.mem_of_getElem? hfd)).1
      have HS2 : Hid (fd.vr.size <= 9223372036854775807) := Lib.hid (HSZ.out fd (List.mem_of_getElem? hfd)).2
      have HX := Lib.hid hfd
      clear e3 hfd
      cases hN1 : M.nameB fd.nm with
      | false =>
        have HN1 := Lib.hid hN1
        have HBAD : Hid (fok 11 fd = false) := Lib.hid (by simp [fok, hN1])
        clear hN1
        go_wp2_with (first | (go_at_call 74; (with_reducible refine (rname_is HN1.out HS1.out _).mono ?_); rintro e w1 ⟨rfl, hb⟩; obtain ⟨hc, hf⟩ := bcellT hb; have HBB := Lib.hid hb; clear hb))
        go_ret
        exact ⟨ret_b (lab_no 11 l q fd HX.out HBAD.out).symm, (((Below.refl _ w).alloc (Nat.le_refl _) _).trans (HB.out.mono (by omega))).trans ((((Below.refl _ wr).alloc (Nat.le_refl _) _).trans (HBB.out.mono (by simp))).mono (by omega))⟩
      | true =>
        cases hV : fd.vr.toList.isEmpty with
        | false =>
          have HN1 := Lib.hid hN1
          have HBAD : Hid (fok 11 fd = false) := Lib.hid (by simp [fok, hV])
          have hV2 : fd.vr.toList ≠ [] := by intro e; rw [e] at hV; simp at hV
          have hV3 : (!fd.vr.toList.isEmpty) = true := by rw [hV]; rfl
          clear hN1
          go_wp2_with (first | (go_at_call 74; (with_reducible refine (rname_is HN1.out HS1.out _).mono ?_); rintro e w1 ⟨rfl, hb⟩; obtain ⟨hc, hf⟩ := bcellT hb; have HBB := Lib.hid hb; clear hb))
          go_ret
          exact ⟨ret_b (lab_no 11 l q fd HX.out HBAD.out).symm, (((Below.refl _ w).alloc (Nat.le_refl _) _).trans (HB.out.mono (by omega))).trans ((((Below.refl _ wr).alloc (Nat.le_refl _) _).trans (HBB.out.mono (by simp))).mono (by omega))⟩
        | true =>
          have HN1 := Lib.hid hN1
          have HOK : Hid (fok 11 fd = true) := Lib.hid (by simp [fok, hN1, hV])
          have hV2 : fd.vr.toList = [] := List.isEmpty_iff.1 hV
          have hV3 : (!fd.vr.toList.isEmpty) = false := by rw [hV]; rfl
          clear hN1
          go_wp2_with (first | (go_at_call 74; (with_reducible refine (rname_is HN1.out HS1.out _).mono ?_); rintro e w1 ⟨rfl, hb⟩; obtain ⟨hc, hf⟩ := bcellT hb; have HBB := Lib.hid hb; have HRW := Lib.hid ((HI.out.alloc (.cells #[.string fd.nm, .string fd.vr, .int .i64 fd.pl] 97)).kept (grown_belowT hb none) (.inr (by simp [Value.ownBlock]))); have hzw := hb.size; simp at hzw; clear hb) | (at_builtin; refine wpList_append_own _ rfl _ _ 73 rfl (w.heap.size + 1) 9 i0 (.string ⟨#[]⟩) 1 16 Tryz.underlying73 hi hz0 hz1 hz2 rfl (by decide) _ _ _ rfl (HRW.out.alloc _) ⟨_, 0, none⟩ 1 1 [.string fd.nm] rfl rfl (new1s w1 9 _ _ (by rfl)) (fun u hu => by rw [List.mem_singleton.1 hu]; rfl) (by unfold maxLen; omega) (by omega) (by simp; omega) ?_; intro v' w2 hown' hgrow _; obtain ⟨g', cap', rfl⟩ := ownsRow_succ hown'; have HO := Lib.hid hown'; have HG := Lib.hid hgrow; clear hown' hgrow))
          go_roundw
          case rel =>
            refine ⟨q + 1, g', cap', rfl, by go_num, by omega, Lib.hid ?_, Lib.hid (all_take _ l q fd HX.out HA.out HOK.out), Lib.hid ((HB.out.trans ((((Below.refl _ wr).alloc (Nat.le_refl _) _).trans (HBB.out.mono (by simp))).mono (by omega))).trans (((Below.refl _ w1).alloc (by omega) _).grown HG.out (by simp; omega) (fun k hk => (HRW.out.lt k hk).1)))⟩
            rw [nm_take l q fd HX.out]; exact HO.out
          case measure => simp [intOf]; omega
    · obtain rfl : q = L := by omega
      have hall : l.all (fok 11) = true := by have := HA.out; rwa [List.take_of_length_le (by have := HL.out; omega)] at this
      have hrow := HI.out
      rw [List.take_of_length_le (by have := HL.out; omega)] at hrow
      have HH := Lib.hid (holds_of hrow)
      have hcp : q <= c' := by
        rcases hrow.2 with ⟨e, _⟩ | ⟨g', cap', cur, e, _, _, hle, _⟩
        · cases e
        · cases e; exact hle
      obtain ⟨t, htw⟩ : ∃ t, M.tw (l.map Fld.nm) = t := ⟨_, rfl⟩
      have HT := Lib.hid htw
      have HLM : Hid ((l.map Fld.nm).length = q) := Lib.hid (by rw [List.length_map]; exact HL.out)
      by_cases h30 : q <= 30
      · have HR : Hid (labB 11 l = !t) := Lib.hid (by rw [labB, hall, htw, HL.out]; simp [h30, hL0])
        clear hall htw hrow
        cases t
        all_goals
          go_wp2_with (go_at_call 114; refine (rtwice_is HT.out HLM.out _ hcp (by omega) HH).mono ?_; rintro e w1 ⟨rfl, hb⟩; have HBB := Lib.hid hb; clear hb)
          go_ret
          exact ⟨ret_b HR.out.symm, (((Below.refl _ w).alloc (Nat.le_refl _) _).trans (HB.out.mono (by omega))).trans (HBB.out.mono (by omega))⟩
      · have HR : Hid (labB 11 l = false) := Lib.hid (by rw [labB, HL.out]; simp [h30])
        clear hall htw hrow
        go_wp2
        go_ret
        exact ⟨ret_b HR.out.symm, ((Below.refl _ w).alloc (Nat.le_refl _) _).trans (HB.out.mono (by omega))⟩
theorem lab_14 (a b c n pos : Int) (nm s : ByteArray) (l : List Fld) (L cp fb fo : Nat) (HL : Hid (l.length = L)) (hL0 : 0 < L) (hL : L <= 1000000) (w : World) (hfb : fb < w.heap.size) (HF : Hid (FldsAt w fb fo l)) (HSZ : Hid (∀ f ∈ l, f.nm.size <= 9223372036854775807 /\ f.vr.size <= 9223372036854775807)) :
    Calls Tryz.prog 76 #[.agg #[.int .i64 14, .int .i64 a, .int .i64 b, .int .i64 c, .int .i64 n, .string nm, .string s, .slice (some ⟨fb, fo, none⟩) L cp, .int .i64 pos]] w fun e w' => e = .returned (.bool (labB 14 l)) /\ Below w.heap.size w w' := by
  obtain ⟨i0, hi, hz0, hz1, hz2⟩ := info_parts strInfo
  go_enter Tryz.func76, Tryz.ntmps76
  go_wp2
  go_loopw [3, 4] (fun v i wr => ∃ q g c' : Nat, v = .slice (some ⟨g, 0, none⟩) q c' /\ i = .int .i64 (q : Int) /\ q <= L /\ Hid (wr.ownsRow (w.heap.size + 1) 9 1 (.slice (some ⟨g, 0, none⟩) q c') q ((l.take q).map (fun f => Value.string f.nm))) /\ Hid ((l.take q).all (fok 14) = true) /\ Hid (Below (w.heap.size + 1) (w.alloc (.cells #[.int .i64 14, .int .i64 a, .int .i64 b, .int .i64 c, .int .i64 n, .string nm, .string s, .slice (some ⟨fb, fo, none⟩) L cp, .int .i64 pos] 37)) wr)) (fun _ i _ => L - (intOf i).toNat)
  case atStart => exact ⟨0, _, _, rfl, rfl, by omega, Lib.hid (by
    have := World.ownsRow_made (base := w.heap.size + 1) (e := 9) (size := 1) (w.alloc (.cells #[.int .i64 14, .int .i64 a, .int .i64 b, .int .i64 c, .int .i64 n, .string nm, .string s, .slice (some ⟨fb, fo, none⟩) L cp, .int .i64 pos] 37)) #[] 0 (by simp) (by decide) rfl
    rw [World.size_alloc] at this; rw [List.take_zero]; exact this), Lib.hid (by simp), Lib.hid ((Below.refl _ _).alloc (by simp) _)⟩
  case round =>
    obtain ⟨q, g, c', rfl, rfl, hq, HI, HA, HB⟩ := hrel
    have hcb : wr.cell? ⟨w.heap.size, 7, none⟩ = some (.slice (some ⟨fb, fo, none⟩) L cp) := by
      rw [HB.out.cell (p := ⟨w.heap.size, 7, none⟩) (by simp), World.cell?, heap_alloc_new]
      rfl
    have hck : wr.cell? ⟨w.heap.size, 0, none⟩ = some (.int .i64 14) := by
      rw [HB.out.cell (p := ⟨w.heap.size, 0, none⟩) (by simp), World.cell?, heap_alloc_new]
      rfl
    have hsz := HB.out.size
    rw [World.size_alloc] at hsz
    have hsz1 : w.heap.size < wr.heap.size := by omega
    have hsz2 : fb < wr.heap.size := by omega
    by_cases hlt : q < L
    · obtain ⟨fd, hfd⟩ : ∃ fd, l[q]? = some fd := ⟨_, List.getElem?_eq_getElem (by rw [HL.out]; exact hlt)⟩
      obtain ⟨m0, m1, m2⟩ := HF.out q fd hfd
      have e3 : ∀ k, wr.cell? ⟨fb, k, none⟩ = w.cell? ⟨fb, k, none⟩ := fun k => by
        rw [HB.out.cell (p := ⟨fb, _, none⟩) (by show fb < w.heap.size + 1; omega), ((Below.refl w.heap.size w).alloc (Nat.le_refl _) _).cell (p := ⟨fb, _, none⟩) hfb]
      rw [<- e3] at m0 m1 m2
      have HS1 : Hid (fd.nm.size <= 9223372036854775807) := Lib.hid (HSZ.out fd (List.mem_of_getElem? hfd)).1
      have HS2 : Hid (fd.vr.size <= 9223372036854775807) := Lib.hid (HSZ.out fd (List.mem_of_getElem? hfd)).2
      have HX := Lib.hid hfd
      clear e3 hfd
      cases hN1 : M.tagB fd.nm with
      | false =>
        have HN1 := Lib.hid hN1
        have HBAD : Hid (fok 14 fd = false) := Lib.hid (by simp [fok, hN1])
        clear hN1
        go_wp2_with (first | (go_at_call 75; (with_reducible refine (rtag_is HN1.out HS1.out _).mono ?_); rintro e w' ⟨rfl, rfl⟩))
        go_ret
        exact ⟨ret_b (lab_no 14 l q fd HX.out HBAD.out).symm, (((Below.refl _ w).alloc (Nat.le_refl _) _).trans (HB.out.mono (by omega))).trans (((Below.refl _ wr).alloc (Nat.le_refl _) _).mono (by omega))⟩
      | true =>
        cases hN2 : M.nameB fd.vr with
        | false =>
          have HN1 := Lib.hid hN1
          have HN2 := Lib.hid hN2
          have HBAD : Hid (fok 14 fd = false) := Lib.hid (by simp [fok, hN2])
          clear hN1 hN2
          go_wp2_with (first | (go_at_call 75; (with_reducible refine (rtag_is HN1.out HS1.out _).mono ?_); rintro e w' ⟨rfl, rfl⟩) | (go_at_call 74; (with_reducible refine (rname_is HN2.out HS2.out _).mono ?_); rintro e w1 ⟨rfl, hb⟩; obtain ⟨hc, hf⟩ := bcellT hb; have HBB := Lib.hid hb; clear hb))
          go_ret
          exact ⟨ret_b (lab_no 14 l q fd HX.out HBAD.out).symm, (((Below.refl _ w).alloc (Nat.le_refl _) _).trans (HB.out.mono (by omega))).trans ((((Below.refl _ wr).alloc (Nat.le_refl _) _).trans (HBB.out.mono (by simp))).mono (by omega))⟩
        | true =>
          have HN1 := Lib.hid hN1
          have HN2 := Lib.hid hN2
          have HOK : Hid (fok 14 fd = true) := Lib.hid (by simp [fok, hN1, hN2])
          clear hN1 hN2
          go_wp2_with (first | (go_at_call 75; (with_reducible refine (rtag_is HN1.out HS1.out _).mono ?_); rintro e w' ⟨rfl, rfl⟩) | (go_at_call 74; (with_reducible refine (rname_is HN2.out HS2.out _).mono ?_); rintro e w1 ⟨rfl, hb⟩; obtain ⟨hc, hf⟩ := bcellT hb; have HBB := Lib.hid hb; have HRW := Lib.hid ((HI.out.alloc (.cells #[.string fd.nm, .string fd.vr, .int .i64 fd.pl] 97)).kept (grown_belowT hb none) (.inr (by simp [Value.ownBlock]))); have hzw := hb.size; simp at hzw; clear hb) | (at_builtin; refine wpList_append_own _ rfl _ _ 73 rfl (w.heap.size + 1) 9 i0 (.string ⟨#[]⟩) 1 16 Tryz.underlying73 hi hz0 hz1 hz2 rfl (by decide) _ _ _ rfl (HRW.out.alloc _) ⟨_, 0, none⟩ 1 1 [.string fd.nm] rfl rfl (new1s w1 9 _ _ (by rfl)) (fun u hu => by rw [List.mem_singleton.1 hu]; rfl) (by unfold maxLen; omega) (by omega) (by simp; omega) ?_; intro v' w2 hown' hgrow _; obtain ⟨g', cap', rfl⟩ := ownsRow_succ hown'; have HO := Lib.hid hown'; have HG := Lib.hid hgrow; clear hown' hgrow))
          go_roundw
          case rel =>
            refine ⟨q + 1, g', cap', rfl, by go_num, by omega, Lib.hid ?_, Lib.hid (all_take _ l q fd HX.out HA.out HOK.out), Lib.hid ((HB.out.trans ((((Below.refl _ wr).alloc (Nat.le_refl _) _).trans (HBB.out.mono (by simp))).mono (by omega))).trans (((Below.refl _ w1).alloc (by omega) _).grown HG.out (by simp; omega) (fun k hk => (HRW.out.lt k hk).1)))⟩
            rw [nm_take l q fd HX.out]; exact HO.out
          case measure => simp [intOf]; omega
    · obtain rfl : q = L := by omega
      have hall : l.all (fok 14) = true := by have := HA.out; rwa [List.take_of_length_le (by have := HL.out; omega)] at this
      have hrow := HI.out
      rw [List.take_of_length_le (by have := HL.out; omega)] at hrow
      have HH := Lib.hid (holds_of hrow)
      have hcp : q <= c' := by
        rcases hrow.2 with ⟨e, _⟩ | ⟨g', cap', cur, e, _, _, hle, _⟩
        · cases e
        · cases e; exact hle
      obtain ⟨t, htw⟩ : ∃ t, M.tw (l.map Fld.nm) = t := ⟨_, rfl⟩
      have HT := Lib.hid htw
      have HLM : Hid ((l.map Fld.nm).length = q) := Lib.hid (by rw [List.length_map]; exact HL.out)
      by_cases h30 : q <= 30
      · have HR : Hid (labB 14 l = !t) := Lib.hid (by rw [labB, hall, htw, HL.out]; simp [h30, hL0])
        clear hall htw hrow
        cases t
        all_goals
          go_wp2_with (go_at_call 114; refine (rtwice_is HT.out HLM.out _ hcp (by omega) HH).mono ?_; rintro e w1 ⟨rfl, hb⟩; have HBB := Lib.hid hb; clear hb)
          go_ret
          exact ⟨ret_b HR.out.symm, (((Below.refl _ w).alloc (Nat.le_refl _) _).trans (HB.out.mono (by omega))).trans (HBB.out.mono (by omega))⟩
      · have HR : Hid (labB 14 l = false) := Lib.hid (by rw [labB, HL.out]; simp [h30])
        clear hall htw hrow
        go_wp2
        go_ret
        exact ⟨ret_b HR.out.symm, ((Below.refl _ w).alloc (Nat.le_refl _) _).trans (HB.out.mono (by omega))⟩
theorem lab_11z (a b c n pos : Int) (nm s : ByteArray) (A : Option Addr) (cp : Nat) (w : World) :
    Calls Tryz.prog 76 #[.agg #[.int .i64 11, .int .i64 a, .int .i64 b, .int .i64 c, .int .i64 n, .string nm, .string s, .slice A 0 cp, .int .i64 pos]] w fun e w' => e = .returned (.bool (labB 11 [])) /\ Below w.heap.size w w' := by
  have HC := fun w1 => Lib.hid (rtwice_is (ss := []) (b := false) (n := 0) (g := w.heap.size + 1) (c := 0) (by decide) rfl w1 (Nat.le_refl _) (by omega) (Lib.hid (fun j hj => by simp at hj)))
  go_enter Tryz.func76, Tryz.ntmps76
  go_wp2
  go_loop [3, 4] (fun v i => v = .slice (some ⟨w.heap.size + 1, 0, none⟩) 0 0 /\ i = .int .i64 0) (fun _ _ => 0)
  case atStart => exact ⟨rfl, rfl⟩
  case round =>
    obtain ⟨rfl, rfl⟩ := hrel
    go_wp2_with (go_at_call 114; refine (HC _).out.mono ?_; rintro e w1 ⟨rfl, hb⟩; have HBB := Lib.hid hb; clear hb)
    go_ret
    exact ⟨ret_b (by decide), (((Below.refl _ w).alloc (Nat.le_refl _) _).alloc (by simp) _).trans (HBB.out.mono (by simp; omega))⟩
theorem lab_14z (a b c n pos : Int) (nm s : ByteArray) (A : Option Addr) (cp : Nat) (w : World) :
    Calls Tryz.prog 76 #[.agg #[.int .i64 14, .int .i64 a, .int .i64 b, .int .i64 c, .int .i64 n, .string nm, .string s, .slice A 0 cp, .int .i64 pos]] w fun e w' => e = .returned (.bool (labB 14 [])) /\ Below w.heap.size w w' := by
  go_enter Tryz.func76, Tryz.ntmps76
  go_wp2
  go_loop [3, 4] (fun v i => v = .slice (some ⟨w.heap.size + 1, 0, none⟩) 0 0 /\ i = .int .i64 0) (fun _ _ => 0)
  case atStart => exact ⟨rfl, rfl⟩
  case round =>
    obtain ⟨rfl, rfl⟩ := hrel
    go_wp2
    go_ret
    exact ⟨ret_b (by decide), ((Below.refl _ w).alloc (Nat.le_refl _) _).alloc (by simp) _⟩
theorem lab_any (x : Nd) (vl : Value) (hk : x.kind = 11 ∨ x.kind = 14) (w : World) (hv : Flds w.heap.size w vl x.l) (hL : x.l.length <= 1000000) (HSZ : ∀ f ∈ x.l, f.nm.size <= 9223372036854775807 /\ f.vr.size <= 9223372036854775807) :
    Calls Tryz.prog 76 #[.agg (ndArr x vl)] w fun e w' => e = .returned (.bool (labB x.kind x.l)) /\ Below w.heap.size w w' := by
  obtain ⟨k, a, b, c, n, nm, s, l, pos⟩ := x
  unfold ndArr
  simp only at hk hv hL HSZ ⊢
  obtain ⟨A, cp, rfl, _, _, hq⟩ := hv
  by_cases h0 : 0 < l.length
  · obtain ⟨fb, fo, rfl, hlt, hf⟩ := hq h0
    rcases hk with rfl | rfl
    · exact lab_11 a b c n pos nm s l _ cp fb fo (Lib.hid rfl) h0 hL w hlt (Lib.hid hf) (Lib.hid HSZ)
    · exact lab_14 a b c n pos nm s l _ cp fb fo (Lib.hid rfl) h0 hL w hlt (Lib.hid hf) (Lib.hid HSZ)
  · obtain rfl : l = [] := List.eq_nil_of_length_eq_zero (by omega)
    rcases hk with rfl | rfl
    · exact lab_11z a b c n pos nm s _ _ w
    · exact lab_14z a b c n pos nm s _ _ w
end Go.Proofs.YtjakeidbajkdcaaGreatDoor.T
