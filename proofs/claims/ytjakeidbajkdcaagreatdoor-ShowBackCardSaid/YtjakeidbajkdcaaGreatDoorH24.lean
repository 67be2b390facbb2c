/- Joined by program. -/
import Derived.Test.YtjakeidbajkdcaaGreatDoorH22
import Derived.Test.YtjakeidbajkdcaaGreatDoorH23
set_option maxRecDepth 100000
set_option maxHeartbeats 1000000
namespace Go.Proofs.YtjakeidbajkdcaaGreatDoor.Q
open Go.RowKit
theorem sb_any (c : UInt8) (w : World) : Calls Tryz.prog 143 #[.int .u8 (c.toNat : Int)] w fun e w' => e = .returned (.bool (decide (bare c))) /\ w = w' := by
  by_cases h : bare c
  · obtain ⟨h1, h2, h3, h4⟩ := h
    have H : Hid (decide (bare c) = true) := decide_eq_true ⟨h1, h2, h3, h4⟩
    have h3' : ((c.toNat : Int) != 34) = true := by rw [bne_iff_ne]; omega
    have h4' : ((c.toNat : Int) != 92) = true := by rw [bne_iff_ne]; omega
    have h1' : (32 : Int) <= c.toNat := by omega
    have h2' : (c.toNat : Int) <= 126 := by omega
    clear h1 h2 h3 h4
    go_enter Tryz.func143, Tryz.ntmps143
    go_wp2
    go_ret
    exact ⟨by rw [H.out]; rfl, rfl⟩
  · have H : Hid (decide (bare c) = false) := decide_eq_false h
    by_cases h1 : 32 <= c.toNat
    · by_cases h2 : c.toNat <= 126
      · have h1' : (32 : Int) <= c.toNat := by omega
        have h2' : (c.toNat : Int) <= 126 := by omega
        by_cases h3 : c.toNat = 34
        · have h3' : ((c.toNat : Int) != 34) = false := by simp [h3]
          clear h3 h
          go_enter Tryz.func143, Tryz.ntmps143
          go_wp2
          go_ret
          exact ⟨by rw [H.out]; rfl, rfl⟩
        · have h3' : ((c.toNat : Int) != 34) = true := by rw [bne_iff_ne]; omega
          have h4 : c.toNat = 92 := Decidable.byContradiction fun h4 => h ⟨h1, h2, h3, h4⟩
          have h4' : ((c.toNat : Int) != 92) = false := by simp [h4]
          clear h3 h4 h
          go_enter Tryz.func143, Tryz.ntmps143
          go_wp2
          go_ret
          exact ⟨by rw [H.out]; rfl, rfl⟩
      · have h1' : (32 : Int) <= c.toNat := by omega
        have h2' : ¬ (c.toNat : Int) <= 126 := by omega
        clear h
        go_enter Tryz.func143, Tryz.ntmps143
        go_wp2
        go_ret
        exact ⟨by rw [H.out]; rfl, rfl⟩
    · have h1' : ¬ (32 : Int) <= c.toNat := by omega
      clear h
      go_enter Tryz.func143, Tryz.ntmps143
      go_wp2
      go_ret
      exact ⟨by rw [H.out]; rfl, rfl⟩
theorem sb_yes {c : UInt8} (h : Hid (bare c)) (w : World) : Calls Tryz.prog 143 #[.int .u8 (c.toNat : Int)] w fun e w' => e = .returned (.bool true) /\ w = w' := by
  have := sb_any c w
  rwa [decide_eq_true h.out] at this
theorem sb_no {c : UInt8} (h : Hid (¬ bare c)) (w : World) : Calls Tryz.prog 143 #[.int .u8 (c.toNat : Int)] w fun e w' => e = .returned (.bool false) /\ w = w' := by
  have := sb_any c w
  rwa [decide_eq_false h.out] at this
def WrPost (B : Nat) (l : List UInt8) (w : World) (e : Ending) (w' : World) : Prop := ∃ v, e = .returned v /\ Row B w' v l /\ Below B w w'
theorem eqb {c : UInt8} {n : Nat} (h : c.toNat = n) : ((c.toNat : Int) == (n : Int)) = true := by simp [h]
theorem neb {c : UInt8} {n : Nat} (h : ¬ c.toNat = n) : ((c.toNat : Int) == (n : Int)) = false := by rw [beq_eq_false_iff_ne]; omega
section
variable {B : Nat} {v : Value} {l : List UInt8} (w : World)
theorem wr_quote (hrow : Row B w v l) (hl : l.length <= 900000) (hB : B <= w.heap.size) : Calls Tryz.prog 110 #[v, .int .u8 34] w (WrPost B (l ++ [92, 34]) w) := by
  go_enter Tryz.func110, Tryz.ntmps110
  go_wp2_with (at_builtin; refine wpList_app (hrow.alloc _) [92, 34] (heap_alloc_new w _) (by simp; omega) (by simp; omega) rfl _ _ 2 rfl rfl rfl ?_; intro v1 w1 hr1 hb1)
  go_ret
  exact ⟨v1, rfl, hr1, ((Below.refl B w).alloc hB _).trans hb1⟩
theorem wr_back (hrow : Row B w v l) (hl : l.length <= 900000) (hB : B <= w.heap.size) : Calls Tryz.prog 110 #[v, .int .u8 92] w (WrPost B (l ++ [92, 92]) w) := by
  go_enter Tryz.func110, Tryz.ntmps110
  go_wp2_with (at_builtin; refine wpList_app (hrow.alloc _) [92, 92] (heap_alloc_new w _) (by simp; omega) (by simp; omega) rfl _ _ 2 rfl rfl rfl ?_; intro v1 w1 hr1 hb1)
  go_ret
  exact ⟨v1, rfl, hr1, ((Below.refl B w).alloc hB _).trans hb1⟩
theorem wr_line (hrow : Row B w v l) (hl : l.length <= 900000) (hB : B <= w.heap.size) : Calls Tryz.prog 110 #[v, .int .u8 10] w (WrPost B (l ++ [92, 110]) w) := by
  go_enter Tryz.func110, Tryz.ntmps110
  go_wp2_with (at_builtin; refine wpList_app (hrow.alloc _) [92, 110] (heap_alloc_new w _) (by simp; omega) (by simp; omega) rfl _ _ 2 rfl rfl rfl ?_; intro v1 w1 hr1 hb1)
  go_ret
  exact ⟨v1, rfl, hr1, ((Below.refl B w).alloc hB _).trans hb1⟩
theorem wr_tab (hrow : Row B w v l) (hl : l.length <= 900000) (hB : B <= w.heap.size) : Calls Tryz.prog 110 #[v, .int .u8 9] w (WrPost B (l ++ [92, 116]) w) := by
  go_enter Tryz.func110, Tryz.ntmps110
  go_wp2_with (at_builtin; refine wpList_app (hrow.alloc _) [92, 116] (heap_alloc_new w _) (by simp; omega) (by simp; omega) rfl _ _ 2 rfl rfl rfl ?_; intro v1 w1 hr1 hb1)
  go_ret
  exact ⟨v1, rfl, hr1, ((Below.refl B w).alloc hB _).trans hb1⟩
variable (c : UInt8)
theorem wr_bare (h : Hid (bare c)) (h10 : ((c.toNat : Int) == 10) = false) (h9 : ((c.toNat : Int) == 9) = false) (h34 : ((c.toNat : Int) == 34) = false) (h92 : ((c.toNat : Int) == 92) = false)
    (hrow : Row B w v l) (hl : l.length <= 900000) (hB : B <= w.heap.size) : Calls Tryz.prog 110 #[v, .int .u8 (c.toNat : Int)] w (WrPost B (l ++ [c]) w) := by
  go_enter Tryz.func110, Tryz.ntmps110
  go_wp2_with (first | (go_at_call 143; refine (sb_yes h _).mono ?_; rintro e w' ⟨rfl, rfl⟩) | (at_builtin; refine wpList_app (hrow.alloc _) [c] (heap_alloc_new w _) (by simp; omega) (by simp; omega) rfl _ _ 1 rfl rfl rfl ?_; intro v1 w1 hr1 hb1))
  go_ret
  exact ⟨v1, rfl, hr1, ((Below.refl B w).alloc hB _).trans hb1⟩
abbrev digs : ByteArray := { data := #[48, 49, 50, 51, 52, 53, 54, 55, 56, 57, 97, 98, 99, 100, 101, 102] }
theorem idx_hex (k : IntKind) (hk : k = .u8 ∨ k = .i64) : ∀ (n : Nat) (_ : n < 16) (W : World), (Instr.index 9 (.string digs) (.int k (n : Int))).run Tryz.prog W = .ok (.int .u8 ((hexd n).toNat : Int)) W := by
  rcases hk with rfl | rfl
  · intro n hn W
    match n, hn with
    | 0, _ => rfl
    | 1, _ => rfl
    | 2, _ => rfl
    | 3, _ => rfl
    | 4, _ => rfl
    | 5, _ => rfl
    | 6, _ => rfl
    | 7, _ => rfl
    | 8, _ => rfl
    | 9, _ => rfl
    | 10, _ => rfl
    | 11, _ => rfl
    | 12, _ => rfl
    | 13, _ => rfl
    | 14, _ => rfl
    | 15, _ => rfl
    | n + 16, h => omega
  · intro n hn W
    match n, hn with
    | 0, _ => rfl
    | 1, _ => rfl
    | 2, _ => rfl
    | 3, _ => rfl
    | 4, _ => rfl
    | 5, _ => rfl
    | 6, _ => rfl
    | 7, _ => rfl
    | 8, _ => rfl
    | 9, _ => rfl
    | 10, _ => rfl
    | 11, _ => rfl
    | 12, _ => rfl
    | 13, _ => rfl
    | 14, _ => rfl
    | 15, _ => rfl
    | n + 16, h => omega
theorem and15 : ∀ n : Nat, n < 256 -> bits .and .u8 (n : Int) 15 = ((n % 16 : Nat) : Int) := by decide +kernel
theorem wr_hex (h : Hid (¬ bare c)) (h10 : ((c.toNat : Int) == 10) = false) (h9 : ((c.toNat : Int) == 9) = false) (h34 : ((c.toNat : Int) == 34) = false) (h92 : ((c.toNat : Int) == 92) = false)
    (hrow : Row B w v l) (hl : l.length <= 900000) (hB : B <= w.heap.size) : Calls Tryz.prog 110 #[v, .int .u8 (c.toNat : Int)] w (WrPost B (l ++ [92, 120, hexd (c.toNat / 16), hexd (c.toNat % 16)]) w) := by
  have hlt := c.toNat_lt
  have i1 : ∀ W : World, (Instr.index 9 (.string digs) (.int .u8 ((c.toNat : Int) / 16))).run Tryz.prog W = .ok (.int .u8 ((hexd (c.toNat / 16)).toNat : Int)) W := idx_hex .u8 (.inl rfl) (c.toNat / 16) (by omega)
  have i2 : ∀ W : World, (Instr.index 9 (.string digs) (.int .u8 ((c.toNat : Int) % 16))).run Tryz.prog W = .ok (.int .u8 ((hexd (c.toNat % 16)).toNat : Int)) W := idx_hex .u8 (.inl rfl) (c.toNat % 16) (by omega)
  have i3 := and15 c.toNat (by omega)
  go_enter Tryz.func110, Tryz.ntmps110
  go_wp2_with (first | (go_at_call 143; refine (sb_no h _).mono ?_; rintro e w' ⟨rfl, rfl⟩))
  go_region_law ((refine step_app (hrow.drew.alloc _) [92, 120, hexd (c.toNat / 16), hexd (c.toNat % 16)] (heap_alloc_new w.drew _) (by simp; omega) (by simp; omega) rfl _ _ 4 rfl rfl rfl ?_; intro v1 w1 hr1 hb1))
  all_goals
    go_wp2
    go_ret
    exact ⟨_, rfl, hr1, ((Below.refl B w).drew.alloc hB _).trans hb1⟩
theorem wr_any (c : UInt8) (hrow : Row B w v l) (hl : l.length <= 900000) (hB : B <= w.heap.size) : Calls Tryz.prog 110 #[v, .int .u8 (c.toNat : Int)] w (WrPost B (l ++ wr1 c) w) := by
  by_cases h34 : c.toNat = 34
  · rw [show wr1 c = [92, 34] by rw [wr1, if_pos h34], h34]; exact wr_quote w hrow hl hB
  by_cases h92 : c.toNat = 92
  · rw [show wr1 c = [92, 92] by rw [wr1, if_neg h34, if_pos h92], h92]; exact wr_back w hrow hl hB
  by_cases h10 : c.toNat = 10
  · rw [show wr1 c = [92, 110] by rw [wr1, if_neg h34, if_neg h92, if_pos h10], h10]; exact wr_line w hrow hl hB
  by_cases h9 : c.toNat = 9
  · rw [show wr1 c = [92, 116] by rw [wr1, if_neg h34, if_neg h92, if_neg h10, if_pos h9], h9]; exact wr_tab w hrow hl hB
  by_cases hb : bare c
  · rw [show wr1 c = [c] by rw [wr1, if_neg h34, if_neg h92, if_neg h10, if_neg h9, if_pos hb]]
    exact wr_bare w c (Lib.hid hb) (neb h10) (neb h9) (neb h34) (neb h92) hrow hl hB
  · rw [show wr1 c = [92, 120, hexd (c.toNat / 16), hexd (c.toNat % 16)] by rw [wr1, if_neg h34, if_neg h92, if_neg h10, if_neg h9, if_neg hb]]
    exact wr_hex w c (Lib.hid hb) (neb h10) (neb h9) (neb h34) (neb h92) hrow hl hB
end
theorem wr_take (s : ByteArray) (k : Nat) (h : k < s.size) : 34 :: wrt (s.data.toList.take (k + 1)) = (34 :: wrt (s.data.toList.take k)) ++ wr1 s[k] := by
  rw [take_snoc s k h, wr_snoc]; rfl
def Wrote (B : Nat) (s : ByteArray) (k : Nat) (w : World) (v : Value) : Prop := Row B w v (34 :: wrt (s.data.toList.take k))
theorem print_any {B : Nat} (s : ByteArray) (hs : s.size <= 10000) (w : World) (hB : B <= w.heap.size) :
    Calls Tryz.prog 66 #[.string s] w fun e w' => e = .returned (.string ⟨(qtext s.data.toList).toArray⟩) /\ Below B w w' := by
  go_enter Tryz.func66, Tryz.ntmps66
  go_wp2
  go_loopw [3, 8] (fun v i wr => ∃ k : Nat, k <= s.size /\ i = .int .i64 k /\ Wrote B s k wr v /\ Below B w wr) (fun _ i _ => s.size - (intOf i).toNat)
  case atStart => exact ⟨0, Nat.zero_le _, rfl, Row.one w 34 hB, (Below.refl B w).alloc hB _⟩
  case round =>
    obtain ⟨k, hk, rfl, hrow, hbw⟩ := hrel
    have hz := hbw.size
    have hlen : (34 :: wrt (s.data.toList.take k)).length <= 40001 := by
      have h1 := wrt_len (s.data.toList.take k)
      have h2 : (s.data.toList.take k).length <= k := List.length_take_le _ _
      simp only [List.length_cons]; omega
    by_cases hlt : k < s.size
    · have HT := Lib.hid (wr_take s k hlt)
      go_wp2_with (go_at_call 110; refine (wr_any _ s[k] hrow (by omega) (by omega)).mono ?_; rintro e w1 ⟨v1, rfl, hr1, hb1⟩)
      go_roundw
      case rel => exact ⟨k + 1, by omega, by go_num, by unfold Wrote; rw [HT.out]; exact hr1, hbw.trans hb1⟩
      case measure => simp [intOf]; omega
    · obtain rfl : k = s.size := by omega
      unfold Wrote at hrow
      rw [List.take_of_length_le (by rw [size_len]; exact Nat.le_refl _)] at hrow hlen
      go_wp2_with (at_builtin; refine wpList_app (hrow.alloc _) [34] (heap_alloc_new _ _) (by simp only [List.length_cons, List.length_nil] at hlen ⊢; omega) (by simp; omega) rfl _ _ 1 rfl rfl rfl ?_; intro v1 w1 hr1 hb1; have hcv := hr1.conv)
      go_ret
      exact ⟨rfl, (hbw.alloc (by omega) _).trans hb1⟩
open Go.RowKit
section
variable (s : ByteArray) (n : Nat)
def At (k : Nat) (b : UInt8) : Prop := rk (s.data.toList.drop n) = k /\ rb (s.data.toList.drop n) = b
variable {s n} {o : Option (List UInt8 × Nat)} {acc : List UInt8}
def Going (s : ByteArray) (o : Option (List UInt8 × Nat)) (n : Nat) (acc : List UInt8) : Prop := tkAt s.data.toList n acc = o
end
end Go.Proofs.YtjakeidbajkdcaaGreatDoor.Q
