/- Joined by program. -/
import Derived.Test.YtjakeidbajkdcaaGreatDoorH07
import Derived.Test.YtjakeidbajkdcaaGreatDoorH08
import Derived.BigGuardPart
set_option maxRecDepth 100000
set_option maxHeartbeats 4000000
namespace Go.Proofs.YtjakeidbajkdcaaGreatDoor.T
open Go.RowKit
def one (k : Int) : Bool := decide (k = 5 ∨ k = 12 ∨ k = 13 ∨ k = 14)
def two (k : Int) : Bool := decide (k = 6 ∨ k = 7 ∨ k = 8 ∨ k = 10)
def named (k : Int) : Bool := decide (k = 4 ∨ k = 5 ∨ k = 7 ∨ k = 8 ∨ k = 12)
def rB (k a b c n pos : Int) (nE nB tB sE : Bool) (sL L : Nat) (lab : Bool) : Bool :=
  !(decide (pos < 0) || (decide (1048576 < pos) || (decide (k < 1) || decide (14 < k)))) &&
  !(decide (k ≠ 1 /\ k ≠ 2 /\ k ≠ 10 /\ n ≠ 0) || (decide (k ≠ 3) && !sE || decide (k ≠ 11 /\ k ≠ 14 /\ 0 < L))) &&
  !((!one k && (!two k && decide (k ≠ 9 /\ a ≠ 0))) || ((!two k && decide (k ≠ 9 /\ b ≠ 0)) || decide (k ≠ 9 /\ c ≠ 0))) &&
  !((named k && !nB) || ((decide (k = 13) && !tB) || (!named k && (decide (k ≠ 13) && !nE)))) &&
  !(decide (k = 2 /\ n ≠ 0 /\ n ≠ 1) || (decide (k = 10 /\ (n < 1 ∨ 7 < n)) || decide (k = 3 /\ (200 : Int) < (sL : Int)))) &&
  (decide (k ≠ 11 /\ k ≠ 14) || lab)
theorem right_5 (a b c n pos : Int) (nm s : ByteArray) (A : Option Addr) (L cp : Nat) (nB tB lab : Bool) (HN : Hid (M.nameB nm = nB)) (HS : Hid (nm.size <= 9223372036854775807)) (w : World) :
    Calls Tryz.prog 41 #[.agg #[.int .i64 5, .int .i64 a, .int .i64 b, .int .i64 c, .int .i64 n, .string nm, .string s, .slice A L cp, .int .i64 pos]] w fun e w' => e = .returned (.bool (rB 5 a b c n pos nm.toList.isEmpty nB tB s.toList.isEmpty s.size L lab)) /\ Below w.heap.size w w' := by
  rcases Decidable.em (c = 0) with rfl | hc0
  · go_enter Tryz.func41, Tryz.ntmps41
    go_wp2_with (first | (go_at_call 74; refine (rname_is HN.out HS.out _).mono ?_; rintro e w1 ⟨rfl, hb⟩; obtain ⟨hc, hf⟩ := bcellT hb; have HA := Lib.hid (((Below.refl w.heap.size w).alloc (Nat.le_refl _) _).trans (hb.mono (by simp))); clear hb))
    all_goals
      go_ret
      first
        | exact ⟨ret_b (by simp [rB, one, two, named, *]), HA.out⟩
        | exact ⟨ret_b (by simp [rB, one, two, named, *]), (Below.refl _ w).alloc (Nat.le_refl _) _⟩
  · have hcb : (c != 0) = true := by simpa using hc0
    go_enter Tryz.func41, Tryz.ntmps41
    go_wp2_with (first | (go_at_call 74; refine (rname_is HN.out HS.out _).mono ?_; rintro e w1 ⟨rfl, hb⟩; obtain ⟨hc, hf⟩ := bcellT hb; have HA := Lib.hid (((Below.refl w.heap.size w).alloc (Nat.le_refl _) _).trans (hb.mono (by simp))); clear hb))
    all_goals
      go_ret
      first
        | exact ⟨ret_b (by simp [rB, one, two, named, *]), HA.out⟩
        | exact ⟨ret_b (by simp [rB, one, two, named, *]), (Below.refl _ w).alloc (Nat.le_refl _) _⟩
theorem right_11 (a b c n pos : Int) (nm s : ByteArray) (A : Option Addr) (L cp : Nat) (nB tB lab : Bool) (w : World)
    (HLAB : Hid (∀ (a b c n pos : Int) (nm s : ByteArray) (w1 : World), Below w.heap.size w w1 -> Calls Tryz.prog 76 #[.agg #[.int .i64 11, .int .i64 a, .int .i64 b, .int .i64 c, .int .i64 n, .string nm, .string s, .slice A L cp, .int .i64 pos]] w1 fun e w' => e = .returned (.bool lab) /\ Below w1.heap.size w1 w')) :
    Calls Tryz.prog 41 #[.agg #[.int .i64 11, .int .i64 a, .int .i64 b, .int .i64 c, .int .i64 n, .string nm, .string s, .slice A L cp, .int .i64 pos]] w fun e w' => e = .returned (.bool (rB 11 a b c n pos nm.toList.isEmpty nB tB s.toList.isEmpty s.size L lab)) /\ Below w.heap.size w w' := by
  rcases Decidable.em (c = 0) with rfl | hc0
  · go_enter Tryz.func41, Tryz.ntmps41
    go_wp2_with (first | (go_at_call 76; refine (HLAB.out _ _ _ _ _ _ _ _ ((Below.refl w.heap.size w).alloc (Nat.le_refl _) _)).mono ?_; rintro e w2 ⟨rfl, hb⟩; have HA := Lib.hid (((Below.refl w.heap.size w).alloc (Nat.le_refl _) _).trans (hb.mono (by simp))); clear hb))
    all_goals
      go_ret
      first
        | exact ⟨ret_b (by simp [rB, one, two, named, *]), HA.out⟩
        | exact ⟨ret_b (by simp [rB, one, two, named, *]), (Below.refl _ w).alloc (Nat.le_refl _) _⟩
  · have hcb : (c != 0) = true := by simpa using hc0
    go_enter Tryz.func41, Tryz.ntmps41
    go_wp2_with (first | (go_at_call 76; refine (HLAB.out _ _ _ _ _ _ _ _ ((Below.refl w.heap.size w).alloc (Nat.le_refl _) _)).mono ?_; rintro e w2 ⟨rfl, hb⟩; have HA := Lib.hid (((Below.refl w.heap.size w).alloc (Nat.le_refl _) _).trans (hb.mono (by simp))); clear hb))
    all_goals
      go_ret
      first
        | exact ⟨ret_b (by simp [rB, one, two, named, *]), HA.out⟩
        | exact ⟨ret_b (by simp [rB, one, two, named, *]), (Below.refl _ w).alloc (Nat.le_refl _) _⟩
theorem right_2 (a b c n pos : Int) (nm s : ByteArray) (A : Option Addr) (L cp : Nat) (nB tB lab : Bool) (w : World) :
    Calls Tryz.prog 41 #[.agg #[.int .i64 2, .int .i64 a, .int .i64 b, .int .i64 c, .int .i64 n, .string nm, .string s, .slice A L cp, .int .i64 pos]] w fun e w' => e = .returned (.bool (rB 2 a b c n pos nm.toList.isEmpty nB tB s.toList.isEmpty s.size L lab)) /\ Below w.heap.size w w' := by
  rcases Decidable.em (c = 0) with rfl | hc0
  · go_enter Tryz.func41, Tryz.ntmps41
    go_wp2
    all_goals
      go_ret
      first
        | exact ⟨ret_b (by simp [rB, one, two, named, *]), HA.out⟩
        | exact ⟨ret_b (by simp [rB, one, two, named, *]), (Below.refl _ w).alloc (Nat.le_refl _) _⟩
  · have hcb : (c != 0) = true := by simpa using hc0
    go_enter Tryz.func41, Tryz.ntmps41
    go_wp2
    all_goals
      go_ret
      first
        | exact ⟨ret_b (by simp [rB, one, two, named, *]), HA.out⟩
        | exact ⟨ret_b (by simp [rB, one, two, named, *]), (Below.refl _ w).alloc (Nat.le_refl _) _⟩
open Go.RowKit
theorem right_1 (a b c n pos : Int) (nm s : ByteArray) (A : Option Addr) (L cp : Nat) (nB tB lab : Bool) (w : World) :
    Calls Tryz.prog 41 #[.agg #[.int .i64 1, .int .i64 a, .int .i64 b, .int .i64 c, .int .i64 n, .string nm, .string s, .slice A L cp, .int .i64 pos]] w fun e w' => e = .returned (.bool (rB 1 a b c n pos nm.toList.isEmpty nB tB s.toList.isEmpty s.size L lab)) /\ Below w.heap.size w w' := by
  rcases Decidable.em (c = 0) with rfl | hc0
  · go_enter Tryz.func41, Tryz.ntmps41
    go_wp2
    all_goals
      go_ret
      first
        | exact ⟨ret_b (by simp [rB, one, two, named, *]), HA.out⟩
        | exact ⟨ret_b (by simp [rB, one, two, named, *]), (Below.refl _ w).alloc (Nat.le_refl _) _⟩
  · have hcb : (c != 0) = true := by simpa using hc0
    go_enter Tryz.func41, Tryz.ntmps41
    go_wp2
    all_goals
      go_ret
      first
        | exact ⟨ret_b (by simp [rB, one, two, named, *]), HA.out⟩
        | exact ⟨ret_b (by simp [rB, one, two, named, *]), (Below.refl _ w).alloc (Nat.le_refl _) _⟩
theorem right_3 (a b c n pos : Int) (nm s : ByteArray) (A : Option Addr) (L cp : Nat) (nB tB lab : Bool) (_hss : s.size <= 9223372036854775807) (w : World) :
    Calls Tryz.prog 41 #[.agg #[.int .i64 3, .int .i64 a, .int .i64 b, .int .i64 c, .int .i64 n, .string nm, .string s, .slice A L cp, .int .i64 pos]] w fun e w' => e = .returned (.bool (rB 3 a b c n pos nm.toList.isEmpty nB tB s.toList.isEmpty s.size L lab)) /\ Below w.heap.size w w' := by
  rcases Decidable.em (c = 0) with rfl | hc0
  · go_enter Tryz.func41, Tryz.ntmps41
    go_wp2
    all_goals
      go_ret
      first
        | exact ⟨ret_b (by simp [rB, one, two, named, *]), HA.out⟩
        | exact ⟨ret_b (by simp [rB, one, two, named, *]), (Below.refl _ w).alloc (Nat.le_refl _) _⟩
  · have hcb : (c != 0) = true := by simpa using hc0
    go_enter Tryz.func41, Tryz.ntmps41
    go_wp2
    all_goals
      go_ret
      first
        | exact ⟨ret_b (by simp [rB, one, two, named, *]), HA.out⟩
        | exact ⟨ret_b (by simp [rB, one, two, named, *]), (Below.refl _ w).alloc (Nat.le_refl _) _⟩
theorem right_4 (a b c n pos : Int) (nm s : ByteArray) (A : Option Addr) (L cp : Nat) (nB tB lab : Bool) (HN : Hid (M.nameB nm = nB)) (HS : Hid (nm.size <= 9223372036854775807)) (w : World) :
    Calls Tryz.prog 41 #[.agg #[.int .i64 4, .int .i64 a, .int .i64 b, .int .i64 c, .int .i64 n, .string nm, .string s, .slice A L cp, .int .i64 pos]] w fun e w' => e = .returned (.bool (rB 4 a b c n pos nm.toList.isEmpty nB tB s.toList.isEmpty s.size L lab)) /\ Below w.heap.size w w' := by
  rcases Decidable.em (c = 0) with rfl | hc0
  · go_enter Tryz.func41, Tryz.ntmps41
    go_wp2_with (first | (go_at_call 74; refine (rname_is HN.out HS.out _).mono ?_; rintro e w1 ⟨rfl, hb⟩; obtain ⟨hc, hf⟩ := bcellT hb; have HA := Lib.hid (((Below.refl w.heap.size w).alloc (Nat.le_refl _) _).trans (hb.mono (by simp))); clear hb))
    all_goals
      go_ret
      first
        | exact ⟨ret_b (by simp [rB, one, two, named, *]), HA.out⟩
        | exact ⟨ret_b (by simp [rB, one, two, named, *]), (Below.refl _ w).alloc (Nat.le_refl _) _⟩
  · have hcb : (c != 0) = true := by simpa using hc0
    go_enter Tryz.func41, Tryz.ntmps41
    go_wp2_with (first | (go_at_call 74; refine (rname_is HN.out HS.out _).mono ?_; rintro e w1 ⟨rfl, hb⟩; obtain ⟨hc, hf⟩ := bcellT hb; have HA := Lib.hid (((Below.refl w.heap.size w).alloc (Nat.le_refl _) _).trans (hb.mono (by simp))); clear hb))
    all_goals
      go_ret
      first
        | exact ⟨ret_b (by simp [rB, one, two, named, *]), HA.out⟩
        | exact ⟨ret_b (by simp [rB, one, two, named, *]), (Below.refl _ w).alloc (Nat.le_refl _) _⟩
theorem right_6 (a b c n pos : Int) (nm s : ByteArray) (A : Option Addr) (L cp : Nat) (nB tB lab : Bool) (w : World) :
    Calls Tryz.prog 41 #[.agg #[.int .i64 6, .int .i64 a, .int .i64 b, .int .i64 c, .int .i64 n, .string nm, .string s, .slice A L cp, .int .i64 pos]] w fun e w' => e = .returned (.bool (rB 6 a b c n pos nm.toList.isEmpty nB tB s.toList.isEmpty s.size L lab)) /\ Below w.heap.size w w' := by
  rcases Decidable.em (c = 0) with rfl | hc0
  · go_enter Tryz.func41, Tryz.ntmps41
    go_wp2
    all_goals
      go_ret
      first
        | exact ⟨ret_b (by simp [rB, one, two, named, *]), HA.out⟩
        | exact ⟨ret_b (by simp [rB, one, two, named, *]), (Below.refl _ w).alloc (Nat.le_refl _) _⟩
  · have hcb : (c != 0) = true := by simpa using hc0
    go_enter Tryz.func41, Tryz.ntmps41
    go_wp2
    all_goals
      go_ret
      first
        | exact ⟨ret_b (by simp [rB, one, two, named, *]), HA.out⟩
        | exact ⟨ret_b (by simp [rB, one, two, named, *]), (Below.refl _ w).alloc (Nat.le_refl _) _⟩
open Go.RowKit
theorem right_7 (a b c n pos : Int) (nm s : ByteArray) (A : Option Addr) (L cp : Nat) (nB tB lab : Bool) (HN : Hid (M.nameB nm = nB)) (HS : Hid (nm.size <= 9223372036854775807)) (w : World) :
    Calls Tryz.prog 41 #[.agg #[.int .i64 7, .int .i64 a, .int .i64 b, .int .i64 c, .int .i64 n, .string nm, .string s, .slice A L cp, .int .i64 pos]] w fun e w' => e = .returned (.bool (rB 7 a b c n pos nm.toList.isEmpty nB tB s.toList.isEmpty s.size L lab)) /\ Below w.heap.size w w' := by
  rcases Decidable.em (c = 0) with rfl | hc0
  · go_enter Tryz.func41, Tryz.ntmps41
    go_wp2_with (first | (go_at_call 74; refine (rname_is HN.out HS.out _).mono ?_; rintro e w1 ⟨rfl, hb⟩; obtain ⟨hc, hf⟩ := bcellT hb; have HA := Lib.hid (((Below.refl w.heap.size w).alloc (Nat.le_refl _) _).trans (hb.mono (by simp))); clear hb))
    all_goals
      go_ret
      first
        | exact ⟨ret_b (by simp [rB, one, two, named, *]), HA.out⟩
        | exact ⟨ret_b (by simp [rB, one, two, named, *]), (Below.refl _ w).alloc (Nat.le_refl _) _⟩
  · have hcb : (c != 0) = true := by simpa using hc0
    go_enter Tryz.func41, Tryz.ntmps41
    go_wp2_with (first | (go_at_call 74; refine (rname_is HN.out HS.out _).mono ?_; rintro e w1 ⟨rfl, hb⟩; obtain ⟨hc, hf⟩ := bcellT hb; have HA := Lib.hid (((Below.refl w.heap.size w).alloc (Nat.le_refl _) _).trans (hb.mono (by simp))); clear hb))
    all_goals
      go_ret
      first
        | exact ⟨ret_b (by simp [rB, one, two, named, *]), HA.out⟩
        | exact ⟨ret_b (by simp [rB, one, two, named, *]), (Below.refl _ w).alloc (Nat.le_refl _) _⟩
theorem right_8 (a b c n pos : Int) (nm s : ByteArray) (A : Option Addr) (L cp : Nat) (nB tB lab : Bool) (HN : Hid (M.nameB nm = nB)) (HS : Hid (nm.size <= 9223372036854775807)) (w : World) :
    Calls Tryz.prog 41 #[.agg #[.int .i64 8, .int .i64 a, .int .i64 b, .int .i64 c, .int .i64 n, .string nm, .string s, .slice A L cp, .int .i64 pos]] w fun e w' => e = .returned (.bool (rB 8 a b c n pos nm.toList.isEmpty nB tB s.toList.isEmpty s.size L lab)) /\ Below w.heap.size w w' := by
  rcases Decidable.em (c = 0) with rfl | hc0
  · go_enter Tryz.func41, Tryz.ntmps41
    go_wp2_with (first | (go_at_call 74; refine (rname_is HN.out HS.out _).mono ?_; rintro e w1 ⟨rfl, hb⟩; obtain ⟨hc, hf⟩ := bcellT hb; have HA := Lib.hid (((Below.refl w.heap.size w).alloc (Nat.le_refl _) _).trans (hb.mono (by simp))); clear hb))
    all_goals
      go_ret
      first
        | exact ⟨ret_b (by simp [rB, one, two, named, *]), HA.out⟩
        | exact ⟨ret_b (by simp [rB, one, two, named, *]), (Below.refl _ w).alloc (Nat.le_refl _) _⟩
  · have hcb : (c != 0) = true := by simpa using hc0
    go_enter Tryz.func41, Tryz.ntmps41
    go_wp2_with (first | (go_at_call 74; refine (rname_is HN.out HS.out _).mono ?_; rintro e w1 ⟨rfl, hb⟩; obtain ⟨hc, hf⟩ := bcellT hb; have HA := Lib.hid (((Below.refl w.heap.size w).alloc (Nat.le_refl _) _).trans (hb.mono (by simp))); clear hb))
    all_goals
      go_ret
      first
        | exact ⟨ret_b (by simp [rB, one, two, named, *]), HA.out⟩
        | exact ⟨ret_b (by simp [rB, one, two, named, *]), (Below.refl _ w).alloc (Nat.le_refl _) _⟩
theorem right_9 (a b c n pos : Int) (nm s : ByteArray) (A : Option Addr) (L cp : Nat) (nB tB lab : Bool) (w : World) :
    Calls Tryz.prog 41 #[.agg #[.int .i64 9, .int .i64 a, .int .i64 b, .int .i64 c, .int .i64 n, .string nm, .string s, .slice A L cp, .int .i64 pos]] w fun e w' => e = .returned (.bool (rB 9 a b c n pos nm.toList.isEmpty nB tB s.toList.isEmpty s.size L lab)) /\ Below w.heap.size w w' := by
  rcases Decidable.em (c = 0) with rfl | hc0
  · go_enter Tryz.func41, Tryz.ntmps41
    go_wp2
    all_goals
      go_ret
      first
        | exact ⟨ret_b (by simp [rB, one, two, named, *]), HA.out⟩
        | exact ⟨ret_b (by simp [rB, one, two, named, *]), (Below.refl _ w).alloc (Nat.le_refl _) _⟩
  · have hcb : (c != 0) = true := by simpa using hc0
    go_enter Tryz.func41, Tryz.ntmps41
    go_wp2
    all_goals
      go_ret
      first
        | exact ⟨ret_b (by simp [rB, one, two, named, *]), HA.out⟩
        | exact ⟨ret_b (by simp [rB, one, two, named, *]), (Below.refl _ w).alloc (Nat.le_refl _) _⟩
theorem right_10 (a b c n pos : Int) (nm s : ByteArray) (A : Option Addr) (L cp : Nat) (nB tB lab : Bool) (w : World) :
    Calls Tryz.prog 41 #[.agg #[.int .i64 10, .int .i64 a, .int .i64 b, .int .i64 c, .int .i64 n, .string nm, .string s, .slice A L cp, .int .i64 pos]] w fun e w' => e = .returned (.bool (rB 10 a b c n pos nm.toList.isEmpty nB tB s.toList.isEmpty s.size L lab)) /\ Below w.heap.size w w' := by
  rcases Decidable.em (c = 0) with rfl | hc0
  · go_enter Tryz.func41, Tryz.ntmps41
    go_wp2
    all_goals
      go_ret
      first
        | exact ⟨ret_b (by simp [rB, one, two, named, *]), HA.out⟩
        | exact ⟨ret_b (by simp [rB, one, two, named, *]), (Below.refl _ w).alloc (Nat.le_refl _) _⟩
  · have hcb : (c != 0) = true := by simpa using hc0
    go_enter Tryz.func41, Tryz.ntmps41
    go_wp2
    all_goals
      go_ret
      first
        | exact ⟨ret_b (by simp [rB, one, two, named, *]), HA.out⟩
        | exact ⟨ret_b (by simp [rB, one, two, named, *]), (Below.refl _ w).alloc (Nat.le_refl _) _⟩
open Go.RowKit
theorem right_12 (a b c n pos : Int) (nm s : ByteArray) (A : Option Addr) (L cp : Nat) (nB tB lab : Bool) (HN : Hid (M.nameB nm = nB)) (HS : Hid (nm.size <= 9223372036854775807)) (w : World) :
    Calls Tryz.prog 41 #[.agg #[.int .i64 12, .int .i64 a, .int .i64 b, .int .i64 c, .int .i64 n, .string nm, .string s, .slice A L cp, .int .i64 pos]] w fun e w' => e = .returned (.bool (rB 12 a b c n pos nm.toList.isEmpty nB tB s.toList.isEmpty s.size L lab)) /\ Below w.heap.size w w' := by
  rcases Decidable.em (c = 0) with rfl | hc0
  · go_enter Tryz.func41, Tryz.ntmps41
    go_wp2_with (first | (go_at_call 74; refine (rname_is HN.out HS.out _).mono ?_; rintro e w1 ⟨rfl, hb⟩; obtain ⟨hc, hf⟩ := bcellT hb; have HA := Lib.hid (((Below.refl w.heap.size w).alloc (Nat.le_refl _) _).trans (hb.mono (by simp))); clear hb))
    all_goals
      go_ret
      first
        | exact ⟨ret_b (by simp [rB, one, two, named, *]), HA.out⟩
        | exact ⟨ret_b (by simp [rB, one, two, named, *]), (Below.refl _ w).alloc (Nat.le_refl _) _⟩
  · have hcb : (c != 0) = true := by simpa using hc0
    go_enter Tryz.func41, Tryz.ntmps41
    go_wp2_with (first | (go_at_call 74; refine (rname_is HN.out HS.out _).mono ?_; rintro e w1 ⟨rfl, hb⟩; obtain ⟨hc, hf⟩ := bcellT hb; have HA := Lib.hid (((Below.refl w.heap.size w).alloc (Nat.le_refl _) _).trans (hb.mono (by simp))); clear hb))
    all_goals
      go_ret
      first
        | exact ⟨ret_b (by simp [rB, one, two, named, *]), HA.out⟩
        | exact ⟨ret_b (by simp [rB, one, two, named, *]), (Below.refl _ w).alloc (Nat.le_refl _) _⟩
theorem right_13 (a b c n pos : Int) (nm s : ByteArray) (A : Option Addr) (L cp : Nat) (nB tB lab : Bool) (HT : Hid (M.tagB nm = tB)) (HS : Hid (nm.size <= 9223372036854775807)) (w : World) :
    Calls Tryz.prog 41 #[.agg #[.int .i64 13, .int .i64 a, .int .i64 b, .int .i64 c, .int .i64 n, .string nm, .string s, .slice A L cp, .int .i64 pos]] w fun e w' => e = .returned (.bool (rB 13 a b c n pos nm.toList.isEmpty nB tB s.toList.isEmpty s.size L lab)) /\ Below w.heap.size w w' := by
  rcases Decidable.em (c = 0) with rfl | hc0
  · go_enter Tryz.func41, Tryz.ntmps41
    go_wp2_with (first | (go_at_call 75; refine (rtag_is HT.out HS.out _).mono ?_; rintro e w' ⟨rfl, rfl⟩))
    all_goals
      go_ret
      first
        | exact ⟨ret_b (by simp [rB, one, two, named, *]), HA.out⟩
        | exact ⟨ret_b (by simp [rB, one, two, named, *]), (Below.refl _ w).alloc (Nat.le_refl _) _⟩
  · have hcb : (c != 0) = true := by simpa using hc0
    go_enter Tryz.func41, Tryz.ntmps41
    go_wp2_with (first | (go_at_call 75; refine (rtag_is HT.out HS.out _).mono ?_; rintro e w' ⟨rfl, rfl⟩))
    all_goals
      go_ret
      first
        | exact ⟨ret_b (by simp [rB, one, two, named, *]), HA.out⟩
        | exact ⟨ret_b (by simp [rB, one, two, named, *]), (Below.refl _ w).alloc (Nat.le_refl _) _⟩
theorem right_14 (a b c n pos : Int) (nm s : ByteArray) (A : Option Addr) (L cp : Nat) (nB tB lab : Bool) (w : World)
    (HLAB : Hid (∀ (a b c n pos : Int) (nm s : ByteArray) (w1 : World), Below w.heap.size w w1 -> Calls Tryz.prog 76 #[.agg #[.int .i64 14, .int .i64 a, .int .i64 b, .int .i64 c, .int .i64 n, .string nm, .string s, .slice A L cp, .int .i64 pos]] w1 fun e w' => e = .returned (.bool lab) /\ Below w1.heap.size w1 w')) :
    Calls Tryz.prog 41 #[.agg #[.int .i64 14, .int .i64 a, .int .i64 b, .int .i64 c, .int .i64 n, .string nm, .string s, .slice A L cp, .int .i64 pos]] w fun e w' => e = .returned (.bool (rB 14 a b c n pos nm.toList.isEmpty nB tB s.toList.isEmpty s.size L lab)) /\ Below w.heap.size w w' := by
  rcases Decidable.em (c = 0) with rfl | hc0
  · go_enter Tryz.func41, Tryz.ntmps41
    go_wp2_with (first | (go_at_call 76; refine (HLAB.out _ _ _ _ _ _ _ _ ((Below.refl w.heap.size w).alloc (Nat.le_refl _) _)).mono ?_; rintro e w2 ⟨rfl, hb⟩; have HA := Lib.hid (((Below.refl w.heap.size w).alloc (Nat.le_refl _) _).trans (hb.mono (by simp))); clear hb))
    all_goals
      go_ret
      first
        | exact ⟨ret_b (by simp [rB, one, two, named, *]), HA.out⟩
        | exact ⟨ret_b (by simp [rB, one, two, named, *]), (Below.refl _ w).alloc (Nat.le_refl _) _⟩
  · have hcb : (c != 0) = true := by simpa using hc0
    go_enter Tryz.func41, Tryz.ntmps41
    go_wp2_with (first | (go_at_call 76; refine (HLAB.out _ _ _ _ _ _ _ _ ((Below.refl w.heap.size w).alloc (Nat.le_refl _) _)).mono ?_; rintro e w2 ⟨rfl, hb⟩; have HA := Lib.hid (((Below.refl w.heap.size w).alloc (Nat.le_refl _) _).trans (hb.mono (by simp))); clear hb))
    all_goals
      go_ret
      first
        | exact ⟨ret_b (by simp [rB, one, two, named, *]), HA.out⟩
        | exact ⟨ret_b (by simp [rB, one, two, named, *]), (Below.refl _ w).alloc (Nat.le_refl _) _⟩
open Go.RowKit
theorem right_lo (k a b c n pos : Int) (h : k < 1) (nm s : ByteArray) (A : Option Addr) (L cp : Nat) (nB tB lab : Bool) (w : World) :
    Calls Tryz.prog 41 #[.agg #[.int .i64 k, .int .i64 a, .int .i64 b, .int .i64 c, .int .i64 n, .string nm, .string s, .slice A L cp, .int .i64 pos]] w fun e w' => e = .returned (.bool (rB k a b c n pos nm.toList.isEmpty nB tB s.toList.isEmpty s.size L lab)) /\ Below w.heap.size w w' := by
  go_enter Tryz.func41, Tryz.ntmps41
  go_wp2
  all_goals
    go_ret
    exact ⟨ret_b (by simp [rB, *]), (Below.refl _ w).alloc (Nat.le_refl _) _⟩
theorem right_hi (k a b c n pos : Int) (h : 14 < k) (h1 : ¬k < 1) (nm s : ByteArray) (A : Option Addr) (L cp : Nat) (nB tB lab : Bool) (w : World) :
    Calls Tryz.prog 41 #[.agg #[.int .i64 k, .int .i64 a, .int .i64 b, .int .i64 c, .int .i64 n, .string nm, .string s, .slice A L cp, .int .i64 pos]] w fun e w' => e = .returned (.bool (rB k a b c n pos nm.toList.isEmpty nB tB s.toList.isEmpty s.size L lab)) /\ Below w.heap.size w w' := by
  go_enter Tryz.func41, Tryz.ntmps41
  go_wp2
  all_goals
    go_ret
    exact ⟨ret_b (by simp [rB, *]), (Below.refl _ w).alloc (Nat.le_refl _) _⟩
def rightB (x : Nd) : Bool := rB x.kind x.a x.b x.c x.n x.pos x.nm.toList.isEmpty (M.nameB x.nm) (M.tagB x.nm) x.s.toList.isEmpty x.s.size x.l.length (labB x.kind x.l)
theorem right_any (x : Nd) (vl : Value) (w : World) (hv : Flds w.heap.size w vl x.l) (hL : x.l.length <= 1000000) (hn : x.nm.size <= 9223372036854775807) (hs : x.s.size <= 9223372036854775807) (HSZ : ∀ f ∈ x.l, f.nm.size <= 9223372036854775807 /\ f.vr.size <= 9223372036854775807) :
    Calls Tryz.prog 41 #[.agg (ndArr x vl)] w fun e w' => e = .returned (.bool (rightB x)) /\ Below w.heap.size w w' := by
  obtain ⟨k, a, b, c, n, nm, s, l, pos⟩ := x
  obtain ⟨A, cp, rfl, h1, h2, h3⟩ := hv
  simp only at hL hn hs HSZ h1 h3
  have HLAB : k = 11 ∨ k = 14 -> Hid (∀ (a b c n pos : Int) (nm s : ByteArray) (w1 : World), Below w.heap.size w w1 -> Calls Tryz.prog 76 #[.agg #[.int .i64 k, .int .i64 a, .int .i64 b, .int .i64 c, .int .i64 n, .string nm, .string s, .slice A l.length cp, .int .i64 pos]] w1 fun e w' => e = .returned (.bool (labB k l)) /\ Below w1.heap.size w1 w') := fun hk => Lib.hid fun a b c n pos nm s w1 hb => by
    have hf : Flds w.heap.size w (.slice A l.length cp) l := ⟨A, cp, rfl, h1, h2, h3⟩
    exact lab_any ⟨k, a, b, c, n, nm, s, l, pos⟩ _ hk w1 ((hf.below hb).mono hb.size) hL HSZ
  show Calls Tryz.prog 41 #[.agg #[.int .i64 k, .int .i64 a, .int .i64 b, .int .i64 c, .int .i64 n, .string nm, .string s, .slice A l.length cp, .int .i64 pos]] w fun e w' => e = .returned (.bool (rB k a b c n pos nm.toList.isEmpty (M.nameB nm) (M.tagB nm) s.toList.isEmpty s.size l.length (labB k l))) /\ Below w.heap.size w w'
  by_cases hlo : k < 1
  · exact right_lo k a b c n pos hlo nm s A _ cp _ _ _ w
  · by_cases hhi : 14 < k
    · exact right_hi k a b c n pos hhi hlo nm s A _ cp _ _ _ w
    · have hcases : k = 1 ∨ k = 2 ∨ k = 3 ∨ k = 4 ∨ k = 5 ∨ k = 6 ∨ k = 7 ∨ k = 8 ∨ k = 9 ∨ k = 10 ∨ k = 11 ∨ k = 12 ∨ k = 13 ∨ k = 14 := by omega
      rcases hcases with rfl | rfl | rfl | rfl | rfl | rfl | rfl | rfl | rfl | rfl | rfl | rfl | rfl | rfl
      · exact right_1 a b c n pos nm s A _ cp _ _ _ w
      · exact right_2 a b c n pos nm s A _ cp _ _ _ w
      · exact right_3 a b c n pos nm s A _ cp _ _ _ hs w
      · exact right_4 a b c n pos nm s A _ cp _ _ _ (Lib.hid rfl) (Lib.hid hn) w
      · exact right_5 a b c n pos nm s A _ cp _ _ _ (Lib.hid rfl) (Lib.hid hn) w
      · exact right_6 a b c n pos nm s A _ cp _ _ _ w
      · exact right_7 a b c n pos nm s A _ cp _ _ _ (Lib.hid rfl) (Lib.hid hn) w
      · exact right_8 a b c n pos nm s A _ cp _ _ _ (Lib.hid rfl) (Lib.hid hn) w
      · exact right_9 a b c n pos nm s A _ cp _ _ _ w
      · exact right_10 a b c n pos nm s A _ cp _ _ _ w
      · exact right_11 a b c n pos nm s A _ cp _ _ _ w (HLAB (.inl rfl))
      · exact right_12 a b c n pos nm s A _ cp _ _ _ (Lib.hid rfl) (Lib.hid hn) w
      · exact right_13 a b c n pos nm s A _ cp _ _ _ (Lib.hid rfl) (Lib.hid hn) w
      · exact right_14 a b c n pos nm s A _ cp _ _ _ w (HLAB (.inr rfl))
open Go.RowKit
theorem Kws_mono {B B' : Nat} {w : World} (h : Kws B w) (hb : B <= B') : Kws B' w := ⟨Nat.lt_of_lt_of_le h.1 hb, h.2⟩
def uOk (x : Nd) : Bool :=
  if x.kind = 1 ∨ x.kind = 6 ∨ x.kind = 9 then true else if x.kind = 2 then (x.n == 0) || (x.n == 1) else if x.kind = 3 then decide ((x.s.size : Int) <= 200)
  else if x.kind = 4 ∨ x.kind = 5 ∨ x.kind = 7 ∨ x.kind = 8 ∨ x.kind = 12 then M.nameB x.nm else if x.kind = 13 then M.tagB x.nm else if x.kind = 10 then decide (1 <= x.n) && decide (x.n <= 7)
  else if x.kind = 11 then allB 11 x.l else if x.kind = 14 then decide (0 < x.l.length) && allB 14 x.l else false
def uRest (x : Nd) : Nd :=
  { x with n := if x.kind = 1 ∨ x.kind = 2 ∨ x.kind = 10 then 0 else x.n, s := if x.kind = 3 then ⟨#[]⟩ else x.s, nm := if x.kind = 4 ∨ x.kind = 5 ∨ x.kind = 7 ∨ x.kind = 8 ∨ x.kind = 12 ∨ x.kind = 13 then ⟨#[]⟩ else x.nm, l := if x.kind = 11 ∨ x.kind = 14 then [] else x.l }
def UAny (x : Nd) (w : World) (e : Ending) (w' : World) : Prop := ∃ A c, e = .returned (.tuple #[.agg (ndArr (uRest x) (.slice A (uRest x).l.length c)), .bool (uOk x)]) /\ Flds w'.heap.size w' (.slice A (uRest x).l.length c) (uRest x).l /\ Below w.heap.size w w'
theorem flds_nil (B : Nat) (W : World) : Flds B W (.slice none 0 0) [] := ⟨none, 0, rfl, ⟨Nat.le_refl _, by decide⟩, fun _ => rfl, fun h => absurd h (by simp)⟩
theorem unc_any (x : Nd) (vl : Value) (w : World) (hK : Kws w.heap.size w) (hv : Flds w.heap.size w vl x.l) (hL : x.l.length <= 1000000) (hn : x.nm.size <= 9223372036854775807) (hs : x.s.size <= 9223372036854775807) (HSZ : ∀ f ∈ x.l, f.nm.size <= 9223372036854775807 /\ f.vr.size <= 9223372036854775807) :
    Calls Tryz.prog 138 #[.agg (ndArr x vl)] w (UAny x w) := by
  obtain ⟨k, a, b, c, n, nm, s, l, pos⟩ := x
  obtain ⟨A, cp, rfl, h1, h2, h3⟩ := hv
  simp only at hL hn hs HSZ h1 h3
  have hf : Flds w.heap.size w (.slice A l.length cp) l := ⟨A, cp, rfl, h1, h2, h3⟩
  have fin : ∀ (y : Nd) (ok : Bool), y.l = l -> uRest ⟨k, a, b, c, n, nm, s, l, pos⟩ = y -> uOk ⟨k, a, b, c, n, nm, s, l, pos⟩ = ok ->
      Calls Tryz.prog 138 #[.agg (ndArr ⟨k, a, b, c, n, nm, s, l, pos⟩ (.slice A l.length cp))] w (UPost (ndArr y (.slice A l.length cp)) ok w) -> Calls Tryz.prog 138 #[.agg (ndArr ⟨k, a, b, c, n, nm, s, l, pos⟩ (.slice A l.length cp))] w (UAny ⟨k, a, b, c, n, nm, s, l, pos⟩ w) := by
    intro y ok hy e1 e2 h
    refine h.mono ?_
    rintro e w' ⟨rfl, hb⟩
    unfold UAny
    rw [e1, e2, hy]
    exact ⟨A, cp, rfl, (hf.below hb).mono hb.size, hb⟩
  have finN : ∀ (y : Nd) (ok : Bool), y.l = [] -> uRest ⟨k, a, b, c, n, nm, s, l, pos⟩ = y -> uOk ⟨k, a, b, c, n, nm, s, l, pos⟩ = ok ->
      Calls Tryz.prog 138 #[.agg (ndArr ⟨k, a, b, c, n, nm, s, l, pos⟩ (.slice A l.length cp))] w (UPost (ndArr y (.slice none 0 0)) ok w) -> Calls Tryz.prog 138 #[.agg (ndArr ⟨k, a, b, c, n, nm, s, l, pos⟩ (.slice A l.length cp))] w (UAny ⟨k, a, b, c, n, nm, s, l, pos⟩ w) := by
    intro y ok hy e1 e2 h
    refine h.mono ?_
    rintro e w' ⟨rfl, hb⟩
    unfold UAny
    rw [e1, e2, hy]
    exact ⟨none, 0, rfl, flds_nil _ _, hb⟩
  by_cases hin : 1 <= k /\ k <= 14
  · have hcases : k = 1 ∨ k = 2 ∨ k = 3 ∨ k = 4 ∨ k = 5 ∨ k = 6 ∨ k = 7 ∨ k = 8 ∨ k = 9 ∨ k = 10 ∨ k = 11 ∨ k = 12 ∨ k = 13 ∨ k = 14 := by omega
    rcases hcases with rfl | rfl | rfl | rfl | rfl | rfl | rfl | rfl | rfl | rfl | rfl | rfl | rfl | rfl
    · exact fin ⟨1, a, b, c, 0, nm, s, l, pos⟩ _ rfl rfl rfl (unc_1 w a b c n pos nm s A _ cp)
    · exact fin ⟨2, a, b, c, 0, nm, s, l, pos⟩ _ rfl rfl rfl (unc_2 w a b c n pos nm s A _ cp _ _ rfl rfl)
    · exact fin ⟨3, a, b, c, n, nm, ⟨#[]⟩, l, pos⟩ _ rfl rfl rfl (unc_3 w a b c n pos nm s A _ cp _ hs rfl)
    · exact fin ⟨4, a, b, c, n, ⟨#[]⟩, s, l, pos⟩ _ rfl rfl rfl (unc_4 w a b c n pos nm s A _ cp _ hn (Lib.hid rfl) (Nat.le_refl _) hK)
    · exact fin ⟨5, a, b, c, n, ⟨#[]⟩, s, l, pos⟩ _ rfl rfl rfl (unc_5 w a b c n pos nm s A _ cp _ hn (Lib.hid rfl) (Nat.le_refl _) hK)
    · exact fin ⟨6, a, b, c, n, nm, s, l, pos⟩ _ rfl rfl rfl (unc_6 w a b c n pos nm s A _ cp)
    · exact fin ⟨7, a, b, c, n, ⟨#[]⟩, s, l, pos⟩ _ rfl rfl rfl (unc_7 w a b c n pos nm s A _ cp _ hn (Lib.hid rfl) (Nat.le_refl _) hK)
    · exact fin ⟨8, a, b, c, n, ⟨#[]⟩, s, l, pos⟩ _ rfl rfl rfl (unc_8 w a b c n pos nm s A _ cp _ hn (Lib.hid rfl) (Nat.le_refl _) hK)
    · exact fin ⟨9, a, b, c, n, nm, s, l, pos⟩ _ rfl rfl rfl (unc_9 w a b c n pos nm s A _ cp)
    · exact fin ⟨10, a, b, c, 0, nm, s, l, pos⟩ _ rfl rfl rfl (unc_10 w a b c n pos nm s A _ cp _ _ rfl rfl)
    · exact finN ⟨11, a, b, c, n, nm, s, [], pos⟩ _ rfl rfl rfl (unc_11 w a b c n pos nm s A _ cp _ (Lib.hid fun w1 hb => parts_any l _ w1 (Kws_mono (hK.on hb) hb.size) ((hf.below hb).mono hb.size) hL HSZ))
    · exact fin ⟨12, a, b, c, n, ⟨#[]⟩, s, l, pos⟩ _ rfl rfl rfl (unc_12 w a b c n pos nm s A _ cp _ hn (Lib.hid rfl) (Nat.le_refl _) hK)
    · exact fin ⟨13, a, b, c, n, ⟨#[]⟩, s, l, pos⟩ _ rfl rfl rfl (unc_13 w a b c n pos nm s A _ cp _ hn (Lib.hid rfl))
    · exact finN ⟨14, a, b, c, n, nm, s, [], pos⟩ _ rfl rfl rfl (unc_14 w a b c n pos nm s A _ cp _ (Lib.hid fun w1 hb => branches_any l _ w1 (Kws_mono (hK.on hb) hb.size) ((hf.below hb).mono hb.size) hL HSZ))
  · have hr : uRest ⟨k, a, b, c, n, nm, s, l, pos⟩ = ⟨k, a, b, c, n, nm, s, l, pos⟩ := by
      simp only [uRest]
      rw [if_neg (by omega), if_neg (by omega), if_neg (by omega), if_neg (by omega)]
    have ho : uOk ⟨k, a, b, c, n, nm, s, l, pos⟩ = false := by
      simp only [uOk]
      rw [if_neg (by omega), if_neg (by omega), if_neg (by omega), if_neg (by omega), if_neg (by omega), if_neg (by omega), if_neg (by omega), if_neg (by omega)]
    exact fin _ _ rfl hr ho (unc_k w k a b c n pos nm s A _ cp (neI (by omega)) (neI (by omega)) (neI (by omega)) (neI (by omega)) (neI (by omega)) (neI (by omega)) (neI (by omega)) (neI (by omega)) (neI (by omega)) (neI (by omega)) (neI (by omega)) (neI (by omega)) (neI (by omega)) (neI (by omega)))
open Go.RowKit
def restB (x : Nd) : Bool := emptyB (ownN (uRest x).kind) (uRest x).a (uRest x).b (uRest x).c ((uRest x).n == 0) (uRest x).nm.toList.isEmpty (uRest x).s.toList.isEmpty ((uRest x).l.length == 0)
def nodeB (x : Nd) : Bool := uOk x && (restB x && (decide (0 <= x.pos) && decide (x.pos <= 1048576)))
theorem node_any (x : Nd) (vl : Value) (w : World) (hK : Kws w.heap.size w) (hv : Flds w.heap.size w vl x.l) (hL : x.l.length <= 1000000) (hn : x.nm.size <= 9223372036854775807) (hs : x.s.size <= 9223372036854775807) (HSZ : ∀ f ∈ x.l, f.nm.size <= 9223372036854775807 /\ f.vr.size <= 9223372036854775807) :
    Calls Tryz.prog 106 #[.agg (ndArr x vl)] w fun e w' => e = .returned (.bool (nodeB x)) /\ Below w.heap.size w w' := by
  have HU : Hid (∀ w1, Below w.heap.size w w1 -> Calls Tryz.prog 138 #[.agg (ndArr x vl)] w1 (UAny x w1)) := Lib.hid fun w1 hb => unc_any x vl w1 (Kws_mono (hK.on hb) hb.size) ((hv.below hb).mono hb.size) hL hn hs HSZ
  have HE : Hid (∀ w1 v, Flds w1.heap.size w1 v (uRest x).l -> Calls Tryz.prog 139 #[.agg (ndArr (uRest x) v)] w1 fun e w' => e = .returned (.bool (restB x)) /\ Below w1.heap.size w1 w') := Lib.hid fun w1 v h => empty_any (uRest x) v w1 h
  have hpos : (uRest x).pos = x.pos := rfl
  obtain ⟨y, hy⟩ : ∃ y, uRest x = y := ⟨_, rfl⟩
  obtain ⟨ok, hok⟩ : ∃ ok, uOk x = ok := ⟨_, rfl⟩
  obtain ⟨rb, hrb⟩ : ∃ rb, restB x = rb := ⟨_, rfl⟩
  unfold UAny at HU
  have HR : Hid (nodeB x = (ok && (rb && (decide (0 <= x.pos) && decide (x.pos <= 1048576))))) := Lib.hid (by rw [nodeB, hok, hrb])
  rw [HR.out]
  rw [hy, hok] at HU
  rw [hy, hrb] at HE
  clear hy hok hrb hpos HR
  obtain ⟨A, cp, rfl, _⟩ := hv
  obtain ⟨k, a, b, c, n, nm, s, l, pos⟩ := x
  obtain ⟨k', a', b', c', n', nm', s', l', pos'⟩ := y
  unfold ndArr at HU HE ⊢
  simp only at HU HE ⊢
  have hb0 := (Below.refl w.heap.size w).alloc (Nat.le_refl _) (.cells #[.int .i64 k, .int .i64 a, .int .i64 b, .int .i64 c, .int .i64 n, .string nm, .string s, .slice A l.length cp, .int .i64 pos] 37)
  have HB0 := Lib.hid hb0
  clear hb0
  obtain ⟨p1, hp1⟩ : ∃ p1, decide (0 <= pos) = p1 := ⟨_, rfl⟩
  obtain ⟨p2, hp2⟩ : ∃ p2, decide (pos <= 1048576) = p2 := ⟨_, rfl⟩
  rw [hp1, hp2]
  cases ok with
  | false =>
    go_enter Tryz.func106, Tryz.ntmps106
    go_wp2_with (go_at_call 138; refine (HU.out _ HB0.out).mono ?_; rintro e w1 ⟨A', cp', rfl, hf', hb⟩; have HBB := Lib.hid hb; clear hb hf')
    go_ret
    exact ⟨rfl, (HB0.out.trans (HBB.out.mono (by simp))).alloc (by have := HBB.out.size; simp at this; omega) _⟩
  | true =>
    cases rb with
    | false =>
      go_enter Tryz.func106, Tryz.ntmps106
      go_wp2_with (first | (go_at_call 138; refine (HU.out _ HB0.out).mono ?_; rintro e w1 ⟨A', cp', rfl, hf', hb⟩; have HBB := Lib.hid hb; have HF := Lib.hid hf'; clear hb hf') | (go_at_call 139; refine (HE.out _ _ ((HF.out.below ((Below.refl _ w1).alloc (Nat.le_refl _) _)).mono (by simp))).mono ?_; rintro e w2 ⟨rfl, hb2⟩; have HB2 := Lib.hid hb2; clear hb2))
      go_ret
      exact ⟨rfl, ((HB0.out.trans (HBB.out.mono (by simp))).alloc (by have := HBB.out.size; simp at this; omega) _).trans (HB2.out.mono (by have := HBB.out.size; simp at this; simp; omega))⟩
    | true =>
      cases p1 <;> cases p2
      all_goals
        go_enter Tryz.func106, Tryz.ntmps106
        go_wp2_with (first | (go_at_call 138; refine (HU.out _ HB0.out).mono ?_; rintro e w1 ⟨A', cp', rfl, hf', hb⟩; have hsz := hb.size; rw [World.size_alloc] at hsz; have c1 := (hb.cell (p := ⟨w.heap.size, 8, none⟩) (by simp)).trans (new_cellsT' w 37 [.int .i64 k, .int .i64 a, .int .i64 b, .int .i64 c, .int .i64 n, .string nm, .string s, .slice A l.length cp, .int .i64 pos] 8 _ rfl); have HBB := Lib.hid hb; have HF := Lib.hid hf'; clear hb hf') | (go_at_call 139; refine (HE.out _ _ ((HF.out.below ((Below.refl _ w1).alloc (Nat.le_refl _) _)).mono (by simp))).mono ?_; rintro e w2 ⟨rfl, hb2⟩; have c2 := ((hb2.cell (p := ⟨w.heap.size, 8, none⟩) (by simp; omega)).trans (cell_under1 w1 _ _ _ (by omega))).trans c1; have HB2 := Lib.hid hb2; clear hb2))
        go_ret
        exact ⟨rfl, ((HB0.out.trans (HBB.out.mono (by simp))).alloc (by omega) _).trans (HB2.out.mono (by simp; omega))⟩
open Go.RowKit
theorem node_right (x : Nd) : nodeB x = rightB x := by
  obtain ⟨k, a, b, c, n, nm, s, l, pos⟩ := x
  by_cases hin : 1 <= k /\ k <= 14
  · have hcases : k = 1 ∨ k = 2 ∨ k = 3 ∨ k = 4 ∨ k = 5 ∨ k = 6 ∨ k = 7 ∨ k = 8 ∨ k = 9 ∨ k = 10 ∨ k = 11 ∨ k = 12 ∨ k = 13 ∨ k = 14 := by omega
    rcases hcases with rfl | rfl | rfl | rfl | rfl | rfl | rfl | rfl | rfl | rfl | rfl | rfl | rfl | rfl
    all_goals
      rw [Bool.eq_iff_iff]
      simp [nodeB, uOk, restB, uRest, emptyB, zeros, ownN, rightB, rB, one, two, named, labB, allB]
      try grind
  · have hr : uOk ⟨k, a, b, c, n, nm, s, l, pos⟩ = false := by
      simp only [uOk]
      rw [if_neg (by omega), if_neg (by omega), if_neg (by omega), if_neg (by omega), if_neg (by omega), if_neg (by omega), if_neg (by omega), if_neg (by omega)]
    rw [nodeB, hr]
    simp only [Bool.false_and, rightB, rB]
    have h : (decide (pos < 0) || (decide (1048576 < pos) || (decide (k < 1) || decide (14 < k)))) = true := by
      simp; omega
    rw [h]
    simp
end Go.Proofs.YtjakeidbajkdcaaGreatDoor.T
