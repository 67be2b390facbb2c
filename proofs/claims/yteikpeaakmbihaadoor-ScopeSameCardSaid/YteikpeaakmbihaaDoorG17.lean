/- Joined by program: TRight, TRightB, TRightC, TRightD, TRightE. -/
import Derived.Test.YteikpeaakmbihaaDoorG14
import Derived.BigGuardPart
/- right, the document's, of some kinds: may a node be, but for its children? -/
namespace Go.Proofs.YteikpeaakmbihaaDoor.T
open Go.RowKit
def one (k : Int) : Bool := decide (k = 5 ∨ k = 12 ∨ k = 13 ∨ k = 14)
def two (k : Int) : Bool := decide (k = 6 ∨ k = 7 ∨ k = 8 ∨ k = 10)
def named (k : Int) : Bool := decide (k = 4 ∨ k = 5 ∨ k = 7 ∨ k = 8 ∨ k = 12)
/-- May it be? nE: the name is empty; nB, tB: it is a name, a tag; sE: the text is empty; sL, L: how long it is, how many parts; lab: the parts may be. -/
def rB (k a b c n pos : Int) (nE nB tB sE : Bool) (sL L : Nat) (lab : Bool) : Bool :=
  !(decide (pos < 0) || (decide (1048576 < pos) || (decide (k < 1) || decide (14 < k)))) &&
  !(decide (k ≠ 1 ∧ k ≠ 2 ∧ k ≠ 10 ∧ n ≠ 0) || (decide (k ≠ 3) && !sE || decide (k ≠ 11 ∧ k ≠ 14 ∧ 0 < L))) &&
  !((!one k && (!two k && decide (k ≠ 9 ∧ a ≠ 0))) || ((!two k && decide (k ≠ 9 ∧ b ≠ 0)) || decide (k ≠ 9 ∧ c ≠ 0))) &&
  !((named k && !nB) || ((decide (k = 13) && !tB) || (!named k && (decide (k ≠ 13) && !nE)))) &&
  !(decide (k = 2 ∧ n ≠ 0 ∧ n ≠ 1) || (decide (k = 10 ∧ (n < 1 ∨ 7 < n)) || decide (k = 3 ∧ (200 : Int) < (sL : Int)))) &&
  (decide (k ≠ 11 ∧ k ≠ 14) || lab)
set_option maxRecDepth 100000 in
set_option maxHeartbeats 4000000 in
theorem right_5 (a b c n pos : Int) (nm s : ByteArray) (A : Option Addr) (L cp : Nat) (nB tB lab : Bool) (HN : Hid (M.nameB nm = nB)) (HS : Hid (nm.size ≤ 9223372036854775807)) (w : World) :
    Calls Tryd.prog 41 #[.agg #[.int .i64 5, .int .i64 a, .int .i64 b, .int .i64 c, .int .i64 n, .string nm, .string s, .slice A L cp, .int .i64 pos]] w fun e w' => e = .returned (.bool (rB 5 a b c n pos nm.toList.isEmpty nB tB s.toList.isEmpty s.size L lab)) ∧ Below w.heap.size w w' := by
  rcases Decidable.em (c = 0) with rfl | hc0
  · go_enter Tryd.func41, Tryd.ntmps41
    go_wp2_with (first
      | (go_at_call 66; refine (rname_is HN.out HS.out _).mono ?_; rintro e w1 ⟨rfl, hb⟩; obtain ⟨hc, hf⟩ := bcellT hb; have HA := Lib.hid (((Below.refl w.heap.size w).alloc (Nat.le_refl _) _).trans (hb.mono (by simp))); clear hb))
    all_goals
      go_ret
      first
        | exact ⟨ret_b (by simp [rB, one, two, named, *]), HA.out⟩
        | exact ⟨ret_b (by simp [rB, one, two, named, *]), (Below.refl _ w).alloc (Nat.le_refl _) _⟩
  · have hcb : (c != 0) = true := by simpa using hc0
    go_enter Tryd.func41, Tryd.ntmps41
    go_wp2_with (first
      | (go_at_call 66; refine (rname_is HN.out HS.out _).mono ?_; rintro e w1 ⟨rfl, hb⟩; obtain ⟨hc, hf⟩ := bcellT hb; have HA := Lib.hid (((Below.refl w.heap.size w).alloc (Nat.le_refl _) _).trans (hb.mono (by simp))); clear hb))
    all_goals
      go_ret
      first
        | exact ⟨ret_b (by simp [rB, one, two, named, *]), HA.out⟩
        | exact ⟨ret_b (by simp [rB, one, two, named, *]), (Below.refl _ w).alloc (Nat.le_refl _) _⟩
set_option maxRecDepth 100000 in
set_option maxHeartbeats 4000000 in
theorem right_11 (a b c n pos : Int) (nm s : ByteArray) (A : Option Addr) (L cp : Nat) (nB tB lab : Bool) (w : World)
    (HLAB : Hid (∀ (a b c n pos : Int) (nm s : ByteArray) (w1 : World), Below w.heap.size w w1 → Calls Tryd.prog 68 #[.agg #[.int .i64 11, .int .i64 a, .int .i64 b, .int .i64 c, .int .i64 n, .string nm, .string s, .slice A L cp, .int .i64 pos]] w1 fun e w' => e = .returned (.bool lab) ∧ Below w1.heap.size w1 w')) :
    Calls Tryd.prog 41 #[.agg #[.int .i64 11, .int .i64 a, .int .i64 b, .int .i64 c, .int .i64 n, .string nm, .string s, .slice A L cp, .int .i64 pos]] w fun e w' => e = .returned (.bool (rB 11 a b c n pos nm.toList.isEmpty nB tB s.toList.isEmpty s.size L lab)) ∧ Below w.heap.size w w' := by
  rcases Decidable.em (c = 0) with rfl | hc0
  · go_enter Tryd.func41, Tryd.ntmps41
    go_wp2_with (first
      | (go_at_call 68; refine (HLAB.out _ _ _ _ _ _ _ _ ((Below.refl w.heap.size w).alloc (Nat.le_refl _) _)).mono ?_; rintro e w2 ⟨rfl, hb⟩; have HA := Lib.hid (((Below.refl w.heap.size w).alloc (Nat.le_refl _) _).trans (hb.mono (by simp))); clear hb))
    all_goals
      go_ret
      first
        | exact ⟨ret_b (by simp [rB, one, two, named, *]), HA.out⟩
        | exact ⟨ret_b (by simp [rB, one, two, named, *]), (Below.refl _ w).alloc (Nat.le_refl _) _⟩
  · have hcb : (c != 0) = true := by simpa using hc0
    go_enter Tryd.func41, Tryd.ntmps41
    go_wp2_with (first
      | (go_at_call 68; refine (HLAB.out _ _ _ _ _ _ _ _ ((Below.refl w.heap.size w).alloc (Nat.le_refl _) _)).mono ?_; rintro e w2 ⟨rfl, hb⟩; have HA := Lib.hid (((Below.refl w.heap.size w).alloc (Nat.le_refl _) _).trans (hb.mono (by simp))); clear hb))
    all_goals
      go_ret
      first
        | exact ⟨ret_b (by simp [rB, one, two, named, *]), HA.out⟩
        | exact ⟨ret_b (by simp [rB, one, two, named, *]), (Below.refl _ w).alloc (Nat.le_refl _) _⟩
set_option maxRecDepth 100000 in
set_option maxHeartbeats 4000000 in
theorem right_2 (a b c n pos : Int) (nm s : ByteArray) (A : Option Addr) (L cp : Nat) (nB tB lab : Bool) (w : World) :
    Calls Tryd.prog 41 #[.agg #[.int .i64 2, .int .i64 a, .int .i64 b, .int .i64 c, .int .i64 n, .string nm, .string s, .slice A L cp, .int .i64 pos]] w fun e w' => e = .returned (.bool (rB 2 a b c n pos nm.toList.isEmpty nB tB s.toList.isEmpty s.size L lab)) ∧ Below w.heap.size w w' := by
  rcases Decidable.em (c = 0) with rfl | hc0
  · go_enter Tryd.func41, Tryd.ntmps41
    go_wp2
    all_goals
      go_ret
      first
        | exact ⟨ret_b (by simp [rB, one, two, named, *]), HA.out⟩
        | exact ⟨ret_b (by simp [rB, one, two, named, *]), (Below.refl _ w).alloc (Nat.le_refl _) _⟩
  · have hcb : (c != 0) = true := by simpa using hc0
    go_enter Tryd.func41, Tryd.ntmps41
    go_wp2
    all_goals
      go_ret
      first
        | exact ⟨ret_b (by simp [rB, one, two, named, *]), HA.out⟩
        | exact ⟨ret_b (by simp [rB, one, two, named, *]), (Below.refl _ w).alloc (Nat.le_refl _) _⟩
end Go.Proofs.YteikpeaakmbihaaDoor.T
/- right, the document's, of some kinds: may a node be, but for its children? -/
namespace Go.Proofs.YteikpeaakmbihaaDoor.T
open Go.RowKit
set_option maxRecDepth 100000 in
set_option maxHeartbeats 4000000 in
theorem right_1 (a b c n pos : Int) (nm s : ByteArray) (A : Option Addr) (L cp : Nat) (nB tB lab : Bool) (w : World) :
    Calls Tryd.prog 41 #[.agg #[.int .i64 1, .int .i64 a, .int .i64 b, .int .i64 c, .int .i64 n, .string nm, .string s, .slice A L cp, .int .i64 pos]] w fun e w' => e = .returned (.bool (rB 1 a b c n pos nm.toList.isEmpty nB tB s.toList.isEmpty s.size L lab)) ∧ Below w.heap.size w w' := by
  rcases Decidable.em (c = 0) with rfl | hc0
  · go_enter Tryd.func41, Tryd.ntmps41
    go_wp2
    all_goals
      go_ret
      first
        | exact ⟨ret_b (by simp [rB, one, two, named, *]), HA.out⟩
        | exact ⟨ret_b (by simp [rB, one, two, named, *]), (Below.refl _ w).alloc (Nat.le_refl _) _⟩
  · have hcb : (c != 0) = true := by simpa using hc0
    go_enter Tryd.func41, Tryd.ntmps41
    go_wp2
    all_goals
      go_ret
      first
        | exact ⟨ret_b (by simp [rB, one, two, named, *]), HA.out⟩
        | exact ⟨ret_b (by simp [rB, one, two, named, *]), (Below.refl _ w).alloc (Nat.le_refl _) _⟩
set_option maxRecDepth 100000 in
set_option maxHeartbeats 4000000 in
theorem right_3 (a b c n pos : Int) (nm s : ByteArray) (A : Option Addr) (L cp : Nat) (nB tB lab : Bool) (_hss : s.size ≤ 9223372036854775807) (w : World) :
    Calls Tryd.prog 41 #[.agg #[.int .i64 3, .int .i64 a, .int .i64 b, .int .i64 c, .int .i64 n, .string nm, .string s, .slice A L cp, .int .i64 pos]] w fun e w' => e = .returned (.bool (rB 3 a b c n pos nm.toList.isEmpty nB tB s.toList.isEmpty s.size L lab)) ∧ Below w.heap.size w w' := by
  rcases Decidable.em (c = 0) with rfl | hc0
  · go_enter Tryd.func41, Tryd.ntmps41
    go_wp2
    all_goals
      go_ret
      first
        | exact ⟨ret_b (by simp [rB, one, two, named, *]), HA.out⟩
        | exact ⟨ret_b (by simp [rB, one, two, named, *]), (Below.refl _ w).alloc (Nat.le_refl _) _⟩
  · have hcb : (c != 0) = true := by simpa using hc0
    go_enter Tryd.func41, Tryd.ntmps41
    go_wp2
    all_goals
      go_ret
      first
        | exact ⟨ret_b (by simp [rB, one, two, named, *]), HA.out⟩
        | exact ⟨ret_b (by simp [rB, one, two, named, *]), (Below.refl _ w).alloc (Nat.le_refl _) _⟩
set_option maxRecDepth 100000 in
set_option maxHeartbeats 4000000 in
theorem right_4 (a b c n pos : Int) (nm s : ByteArray) (A : Option Addr) (L cp : Nat) (nB tB lab : Bool) (HN : Hid (M.nameB nm = nB)) (HS : Hid (nm.size ≤ 9223372036854775807)) (w : World) :
    Calls Tryd.prog 41 #[.agg #[.int .i64 4, .int .i64 a, .int .i64 b, .int .i64 c, .int .i64 n, .string nm, .string s, .slice A L cp, .int .i64 pos]] w fun e w' => e = .returned (.bool (rB 4 a b c n pos nm.toList.isEmpty nB tB s.toList.isEmpty s.size L lab)) ∧ Below w.heap.size w w' := by
  rcases Decidable.em (c = 0) with rfl | hc0
  · go_enter Tryd.func41, Tryd.ntmps41
    go_wp2_with (first
      | (go_at_call 66; refine (rname_is HN.out HS.out _).mono ?_; rintro e w1 ⟨rfl, hb⟩; obtain ⟨hc, hf⟩ := bcellT hb; have HA := Lib.hid (((Below.refl w.heap.size w).alloc (Nat.le_refl _) _).trans (hb.mono (by simp))); clear hb))
    all_goals
      go_ret
      first
        | exact ⟨ret_b (by simp [rB, one, two, named, *]), HA.out⟩
        | exact ⟨ret_b (by simp [rB, one, two, named, *]), (Below.refl _ w).alloc (Nat.le_refl _) _⟩
  · have hcb : (c != 0) = true := by simpa using hc0
    go_enter Tryd.func41, Tryd.ntmps41
    go_wp2_with (first
      | (go_at_call 66; refine (rname_is HN.out HS.out _).mono ?_; rintro e w1 ⟨rfl, hb⟩; obtain ⟨hc, hf⟩ := bcellT hb; have HA := Lib.hid (((Below.refl w.heap.size w).alloc (Nat.le_refl _) _).trans (hb.mono (by simp))); clear hb))
    all_goals
      go_ret
      first
        | exact ⟨ret_b (by simp [rB, one, two, named, *]), HA.out⟩
        | exact ⟨ret_b (by simp [rB, one, two, named, *]), (Below.refl _ w).alloc (Nat.le_refl _) _⟩
set_option maxRecDepth 100000 in
set_option maxHeartbeats 4000000 in
theorem right_6 (a b c n pos : Int) (nm s : ByteArray) (A : Option Addr) (L cp : Nat) (nB tB lab : Bool) (w : World) :
    Calls Tryd.prog 41 #[.agg #[.int .i64 6, .int .i64 a, .int .i64 b, .int .i64 c, .int .i64 n, .string nm, .string s, .slice A L cp, .int .i64 pos]] w fun e w' => e = .returned (.bool (rB 6 a b c n pos nm.toList.isEmpty nB tB s.toList.isEmpty s.size L lab)) ∧ Below w.heap.size w w' := by
  rcases Decidable.em (c = 0) with rfl | hc0
  · go_enter Tryd.func41, Tryd.ntmps41
    go_wp2
    all_goals
      go_ret
      first
        | exact ⟨ret_b (by simp [rB, one, two, named, *]), HA.out⟩
        | exact ⟨ret_b (by simp [rB, one, two, named, *]), (Below.refl _ w).alloc (Nat.le_refl _) _⟩
  · have hcb : (c != 0) = true := by simpa using hc0
    go_enter Tryd.func41, Tryd.ntmps41
    go_wp2
    all_goals
      go_ret
      first
        | exact ⟨ret_b (by simp [rB, one, two, named, *]), HA.out⟩
        | exact ⟨ret_b (by simp [rB, one, two, named, *]), (Below.refl _ w).alloc (Nat.le_refl _) _⟩
end Go.Proofs.YteikpeaakmbihaaDoor.T
/- right, the document's, of some kinds: may a node be, but for its children? -/
namespace Go.Proofs.YteikpeaakmbihaaDoor.T
open Go.RowKit
set_option maxRecDepth 100000 in
set_option maxHeartbeats 4000000 in
theorem right_7 (a b c n pos : Int) (nm s : ByteArray) (A : Option Addr) (L cp : Nat) (nB tB lab : Bool) (HN : Hid (M.nameB nm = nB)) (HS : Hid (nm.size ≤ 9223372036854775807)) (w : World) :
    Calls Tryd.prog 41 #[.agg #[.int .i64 7, .int .i64 a, .int .i64 b, .int .i64 c, .int .i64 n, .string nm, .string s, .slice A L cp, .int .i64 pos]] w fun e w' => e = .returned (.bool (rB 7 a b c n pos nm.toList.isEmpty nB tB s.toList.isEmpty s.size L lab)) ∧ Below w.heap.size w w' := by
  rcases Decidable.em (c = 0) with rfl | hc0
  · go_enter Tryd.func41, Tryd.ntmps41
    go_wp2_with (first
      | (go_at_call 66; refine (rname_is HN.out HS.out _).mono ?_; rintro e w1 ⟨rfl, hb⟩; obtain ⟨hc, hf⟩ := bcellT hb; have HA := Lib.hid (((Below.refl w.heap.size w).alloc (Nat.le_refl _) _).trans (hb.mono (by simp))); clear hb))
    all_goals
      go_ret
      first
        | exact ⟨ret_b (by simp [rB, one, two, named, *]), HA.out⟩
        | exact ⟨ret_b (by simp [rB, one, two, named, *]), (Below.refl _ w).alloc (Nat.le_refl _) _⟩
  · have hcb : (c != 0) = true := by simpa using hc0
    go_enter Tryd.func41, Tryd.ntmps41
    go_wp2_with (first
      | (go_at_call 66; refine (rname_is HN.out HS.out _).mono ?_; rintro e w1 ⟨rfl, hb⟩; obtain ⟨hc, hf⟩ := bcellT hb; have HA := Lib.hid (((Below.refl w.heap.size w).alloc (Nat.le_refl _) _).trans (hb.mono (by simp))); clear hb))
    all_goals
      go_ret
      first
        | exact ⟨ret_b (by simp [rB, one, two, named, *]), HA.out⟩
        | exact ⟨ret_b (by simp [rB, one, two, named, *]), (Below.refl _ w).alloc (Nat.le_refl _) _⟩
set_option maxRecDepth 100000 in
set_option maxHeartbeats 4000000 in
theorem right_8 (a b c n pos : Int) (nm s : ByteArray) (A : Option Addr) (L cp : Nat) (nB tB lab : Bool) (HN : Hid (M.nameB nm = nB)) (HS : Hid (nm.size ≤ 9223372036854775807)) (w : World) :
    Calls Tryd.prog 41 #[.agg #[.int .i64 8, .int .i64 a, .int .i64 b, .int .i64 c, .int .i64 n, .string nm, .string s, .slice A L cp, .int .i64 pos]] w fun e w' => e = .returned (.bool (rB 8 a b c n pos nm.toList.isEmpty nB tB s.toList.isEmpty s.size L lab)) ∧ Below w.heap.size w w' := by
  rcases Decidable.em (c = 0) with rfl | hc0
  · go_enter Tryd.func41, Tryd.ntmps41
    go_wp2_with (first
      | (go_at_call 66; refine (rname_is HN.out HS.out _).mono ?_; rintro e w1 ⟨rfl, hb⟩; obtain ⟨hc, hf⟩ := bcellT hb; have HA := Lib.hid (((Below.refl w.heap.size w).alloc (Nat.le_refl _) _).trans (hb.mono (by simp))); clear hb))
    all_goals
      go_ret
      first
        | exact ⟨ret_b (by simp [rB, one, two, named, *]), HA.out⟩
        | exact ⟨ret_b (by simp [rB, one, two, named, *]), (Below.refl _ w).alloc (Nat.le_refl _) _⟩
  · have hcb : (c != 0) = true := by simpa using hc0
    go_enter Tryd.func41, Tryd.ntmps41
    go_wp2_with (first
      | (go_at_call 66; refine (rname_is HN.out HS.out _).mono ?_; rintro e w1 ⟨rfl, hb⟩; obtain ⟨hc, hf⟩ := bcellT hb; have HA := Lib.hid (((Below.refl w.heap.size w).alloc (Nat.le_refl _) _).trans (hb.mono (by simp))); clear hb))
    all_goals
      go_ret
      first
        | exact ⟨ret_b (by simp [rB, one, two, named, *]), HA.out⟩
        | exact ⟨ret_b (by simp [rB, one, two, named, *]), (Below.refl _ w).alloc (Nat.le_refl _) _⟩
set_option maxRecDepth 100000 in
set_option maxHeartbeats 4000000 in
theorem right_9 (a b c n pos : Int) (nm s : ByteArray) (A : Option Addr) (L cp : Nat) (nB tB lab : Bool) (w : World) :
    Calls Tryd.prog 41 #[.agg #[.int .i64 9, .int .i64 a, .int .i64 b, .int .i64 c, .int .i64 n, .string nm, .string s, .slice A L cp, .int .i64 pos]] w fun e w' => e = .returned (.bool (rB 9 a b c n pos nm.toList.isEmpty nB tB s.toList.isEmpty s.size L lab)) ∧ Below w.heap.size w w' := by
  rcases Decidable.em (c = 0) with rfl | hc0
  · go_enter Tryd.func41, Tryd.ntmps41
    go_wp2
    all_goals
      go_ret
      first
        | exact ⟨ret_b (by simp [rB, one, two, named, *]), HA.out⟩
        | exact ⟨ret_b (by simp [rB, one, two, named, *]), (Below.refl _ w).alloc (Nat.le_refl _) _⟩
  · have hcb : (c != 0) = true := by simpa using hc0
    go_enter Tryd.func41, Tryd.ntmps41
    go_wp2
    all_goals
      go_ret
      first
        | exact ⟨ret_b (by simp [rB, one, two, named, *]), HA.out⟩
        | exact ⟨ret_b (by simp [rB, one, two, named, *]), (Below.refl _ w).alloc (Nat.le_refl _) _⟩
set_option maxRecDepth 100000 in
set_option maxHeartbeats 4000000 in
theorem right_10 (a b c n pos : Int) (nm s : ByteArray) (A : Option Addr) (L cp : Nat) (nB tB lab : Bool) (w : World) :
    Calls Tryd.prog 41 #[.agg #[.int .i64 10, .int .i64 a, .int .i64 b, .int .i64 c, .int .i64 n, .string nm, .string s, .slice A L cp, .int .i64 pos]] w fun e w' => e = .returned (.bool (rB 10 a b c n pos nm.toList.isEmpty nB tB s.toList.isEmpty s.size L lab)) ∧ Below w.heap.size w w' := by
  rcases Decidable.em (c = 0) with rfl | hc0
  · go_enter Tryd.func41, Tryd.ntmps41
    go_wp2
    all_goals
      go_ret
      first
        | exact ⟨ret_b (by simp [rB, one, two, named, *]), HA.out⟩
        | exact ⟨ret_b (by simp [rB, one, two, named, *]), (Below.refl _ w).alloc (Nat.le_refl _) _⟩
  · have hcb : (c != 0) = true := by simpa using hc0
    go_enter Tryd.func41, Tryd.ntmps41
    go_wp2
    all_goals
      go_ret
      first
        | exact ⟨ret_b (by simp [rB, one, two, named, *]), HA.out⟩
        | exact ⟨ret_b (by simp [rB, one, two, named, *]), (Below.refl _ w).alloc (Nat.le_refl _) _⟩
end Go.Proofs.YteikpeaakmbihaaDoor.T
/- right, the document's, of some kinds: may a node be, but for its children? -/
namespace Go.Proofs.YteikpeaakmbihaaDoor.T
open Go.RowKit
set_option maxRecDepth 100000 in
set_option maxHeartbeats 4000000 in
theorem right_12 (a b c n pos : Int) (nm s : ByteArray) (A : Option Addr) (L cp : Nat) (nB tB lab : Bool) (HN : Hid (M.nameB nm = nB)) (HS : Hid (nm.size ≤ 9223372036854775807)) (w : World) :
    Calls Tryd.prog 41 #[.agg #[.int .i64 12, .int .i64 a, .int .i64 b, .int .i64 c, .int .i64 n, .string nm, .string s, .slice A L cp, .int .i64 pos]] w fun e w' => e = .returned (.bool (rB 12 a b c n pos nm.toList.isEmpty nB tB s.toList.isEmpty s.size L lab)) ∧ Below w.heap.size w w' := by
  rcases Decidable.em (c = 0) with rfl | hc0
  · go_enter Tryd.func41, Tryd.ntmps41
    go_wp2_with (first
      | (go_at_call 66; refine (rname_is HN.out HS.out _).mono ?_; rintro e w1 ⟨rfl, hb⟩; obtain ⟨hc, hf⟩ := bcellT hb; have HA := Lib.hid (((Below.refl w.heap.size w).alloc (Nat.le_refl _) _).trans (hb.mono (by simp))); clear hb))
    all_goals
      go_ret
      first
        | exact ⟨ret_b (by simp [rB, one, two, named, *]), HA.out⟩
        | exact ⟨ret_b (by simp [rB, one, two, named, *]), (Below.refl _ w).alloc (Nat.le_refl _) _⟩
  · have hcb : (c != 0) = true := by simpa using hc0
    go_enter Tryd.func41, Tryd.ntmps41
    go_wp2_with (first
      | (go_at_call 66; refine (rname_is HN.out HS.out _).mono ?_; rintro e w1 ⟨rfl, hb⟩; obtain ⟨hc, hf⟩ := bcellT hb; have HA := Lib.hid (((Below.refl w.heap.size w).alloc (Nat.le_refl _) _).trans (hb.mono (by simp))); clear hb))
    all_goals
      go_ret
      first
        | exact ⟨ret_b (by simp [rB, one, two, named, *]), HA.out⟩
        | exact ⟨ret_b (by simp [rB, one, two, named, *]), (Below.refl _ w).alloc (Nat.le_refl _) _⟩
set_option maxRecDepth 100000 in
set_option maxHeartbeats 4000000 in
theorem right_13 (a b c n pos : Int) (nm s : ByteArray) (A : Option Addr) (L cp : Nat) (nB tB lab : Bool) (HT : Hid (M.tagB nm = tB)) (HS : Hid (nm.size ≤ 9223372036854775807)) (w : World) :
    Calls Tryd.prog 41 #[.agg #[.int .i64 13, .int .i64 a, .int .i64 b, .int .i64 c, .int .i64 n, .string nm, .string s, .slice A L cp, .int .i64 pos]] w fun e w' => e = .returned (.bool (rB 13 a b c n pos nm.toList.isEmpty nB tB s.toList.isEmpty s.size L lab)) ∧ Below w.heap.size w w' := by
  rcases Decidable.em (c = 0) with rfl | hc0
  · go_enter Tryd.func41, Tryd.ntmps41
    go_wp2_with (first
      | (go_at_call 67; refine (rtag_is HT.out HS.out _).mono ?_; rintro e w' ⟨rfl, rfl⟩))
    all_goals
      go_ret
      first
        | exact ⟨ret_b (by simp [rB, one, two, named, *]), HA.out⟩
        | exact ⟨ret_b (by simp [rB, one, two, named, *]), (Below.refl _ w).alloc (Nat.le_refl _) _⟩
  · have hcb : (c != 0) = true := by simpa using hc0
    go_enter Tryd.func41, Tryd.ntmps41
    go_wp2_with (first
      | (go_at_call 67; refine (rtag_is HT.out HS.out _).mono ?_; rintro e w' ⟨rfl, rfl⟩))
    all_goals
      go_ret
      first
        | exact ⟨ret_b (by simp [rB, one, two, named, *]), HA.out⟩
        | exact ⟨ret_b (by simp [rB, one, two, named, *]), (Below.refl _ w).alloc (Nat.le_refl _) _⟩
set_option maxRecDepth 100000 in
set_option maxHeartbeats 4000000 in
theorem right_14 (a b c n pos : Int) (nm s : ByteArray) (A : Option Addr) (L cp : Nat) (nB tB lab : Bool) (w : World)
    (HLAB : Hid (∀ (a b c n pos : Int) (nm s : ByteArray) (w1 : World), Below w.heap.size w w1 → Calls Tryd.prog 68 #[.agg #[.int .i64 14, .int .i64 a, .int .i64 b, .int .i64 c, .int .i64 n, .string nm, .string s, .slice A L cp, .int .i64 pos]] w1 fun e w' => e = .returned (.bool lab) ∧ Below w1.heap.size w1 w')) :
    Calls Tryd.prog 41 #[.agg #[.int .i64 14, .int .i64 a, .int .i64 b, .int .i64 c, .int .i64 n, .string nm, .string s, .slice A L cp, .int .i64 pos]] w fun e w' => e = .returned (.bool (rB 14 a b c n pos nm.toList.isEmpty nB tB s.toList.isEmpty s.size L lab)) ∧ Below w.heap.size w w' := by
  rcases Decidable.em (c = 0) with rfl | hc0
  · go_enter Tryd.func41, Tryd.ntmps41
    go_wp2_with (first
      | (go_at_call 68; refine (HLAB.out _ _ _ _ _ _ _ _ ((Below.refl w.heap.size w).alloc (Nat.le_refl _) _)).mono ?_; rintro e w2 ⟨rfl, hb⟩; have HA := Lib.hid (((Below.refl w.heap.size w).alloc (Nat.le_refl _) _).trans (hb.mono (by simp))); clear hb))
    all_goals
      go_ret
      first
        | exact ⟨ret_b (by simp [rB, one, two, named, *]), HA.out⟩
        | exact ⟨ret_b (by simp [rB, one, two, named, *]), (Below.refl _ w).alloc (Nat.le_refl _) _⟩
  · have hcb : (c != 0) = true := by simpa using hc0
    go_enter Tryd.func41, Tryd.ntmps41
    go_wp2_with (first
      | (go_at_call 68; refine (HLAB.out _ _ _ _ _ _ _ _ ((Below.refl w.heap.size w).alloc (Nat.le_refl _) _)).mono ?_; rintro e w2 ⟨rfl, hb⟩; have HA := Lib.hid (((Below.refl w.heap.size w).alloc (Nat.le_refl _) _).trans (hb.mono (by simp))); clear hb))
    all_goals
      go_ret
      first
        | exact ⟨ret_b (by simp [rB, one, two, named, *]), HA.out⟩
        | exact ⟨ret_b (by simp [rB, one, two, named, *]), (Below.refl _ w).alloc (Nat.le_refl _) _⟩
end Go.Proofs.YteikpeaakmbihaaDoor.T
/- right, the document's, of some kinds: may a node be, but for its children? -/
namespace Go.Proofs.YteikpeaakmbihaaDoor.T
open Go.RowKit
set_option maxRecDepth 100000 in
set_option maxHeartbeats 2000000 in
theorem right_lo (k a b c n pos : Int) (h : k < 1) (nm s : ByteArray) (A : Option Addr) (L cp : Nat) (nB tB lab : Bool) (w : World) :
    Calls Tryd.prog 41 #[.agg #[.int .i64 k, .int .i64 a, .int .i64 b, .int .i64 c, .int .i64 n, .string nm, .string s, .slice A L cp, .int .i64 pos]] w fun e w' => e = .returned (.bool (rB k a b c n pos nm.toList.isEmpty nB tB s.toList.isEmpty s.size L lab)) ∧ Below w.heap.size w w' := by
  go_enter Tryd.func41, Tryd.ntmps41
  go_wp2
  all_goals
    go_ret
    exact ⟨ret_b (by simp [rB, *]), (Below.refl _ w).alloc (Nat.le_refl _) _⟩
set_option maxRecDepth 100000 in
set_option maxHeartbeats 2000000 in
theorem right_hi (k a b c n pos : Int) (h : 14 < k) (h1 : ¬k < 1) (nm s : ByteArray) (A : Option Addr) (L cp : Nat) (nB tB lab : Bool) (w : World) :
    Calls Tryd.prog 41 #[.agg #[.int .i64 k, .int .i64 a, .int .i64 b, .int .i64 c, .int .i64 n, .string nm, .string s, .slice A L cp, .int .i64 pos]] w fun e w' => e = .returned (.bool (rB k a b c n pos nm.toList.isEmpty nB tB s.toList.isEmpty s.size L lab)) ∧ Below w.heap.size w w' := by
  go_enter Tryd.func41, Tryd.ntmps41
  go_wp2
  all_goals
    go_ret
    exact ⟨ret_b (by simp [rB, *]), (Below.refl _ w).alloc (Nat.le_refl _) _⟩
/-- right, of a node. -/
def rightB (x : Nd) : Bool := rB x.kind x.a x.b x.c x.n x.pos x.nm.toList.isEmpty (M.nameB x.nm) (M.tagB x.nm) x.s.toList.isEmpty x.s.size x.l.length (labB x.kind x.l)
theorem right_any (x : Nd) (vl : Value) (w : World) (hv : Flds w.heap.size w vl x.l) (hL : x.l.length ≤ 1000000) (hn : x.nm.size ≤ 9223372036854775807) (hs : x.s.size ≤ 9223372036854775807) (HSZ : ∀ f ∈ x.l, f.nm.size ≤ 9223372036854775807 ∧ f.vr.size ≤ 9223372036854775807) :
    Calls Tryd.prog 41 #[.agg (ndArr x vl)] w fun e w' => e = .returned (.bool (rightB x)) ∧ Below w.heap.size w w' := by
  obtain ⟨k, a, b, c, n, nm, s, l, pos⟩ := x
  obtain ⟨A, cp, rfl, h1, h2, h3⟩ := hv
  simp only at hL hn hs HSZ h1 h3
  have HLAB : k = 11 ∨ k = 14 → Hid (∀ (a b c n pos : Int) (nm s : ByteArray) (w1 : World), Below w.heap.size w w1 → Calls Tryd.prog 68 #[.agg #[.int .i64 k, .int .i64 a, .int .i64 b, .int .i64 c, .int .i64 n, .string nm, .string s, .slice A l.length cp, .int .i64 pos]] w1 fun e w' => e = .returned (.bool (labB k l)) ∧ Below w1.heap.size w1 w') := fun hk => Lib.hid fun a b c n pos nm s w1 hb => by
    have hf : Flds w.heap.size w (.slice A l.length cp) l := ⟨A, cp, rfl, h1, h2, h3⟩
    exact lab_any ⟨k, a, b, c, n, nm, s, l, pos⟩ _ hk w1 ((hf.below hb).mono hb.size) hL HSZ
  show Calls Tryd.prog 41 #[.agg #[.int .i64 k, .int .i64 a, .int .i64 b, .int .i64 c, .int .i64 n, .string nm, .string s, .slice A l.length cp, .int .i64 pos]] w fun e w' => e = .returned (.bool (rB k a b c n pos nm.toList.isEmpty (M.nameB nm) (M.tagB nm) s.toList.isEmpty s.size l.length (labB k l))) ∧ Below w.heap.size w w'
  by_cases hlo : k < 1
  · exact right_lo k a b c n pos hlo nm s A _ cp _ _ _ w
  · by_cases hhi : 14 < k
    · exact right_hi k a b c n pos hhi hlo nm s A _ cp _ _ _ w
    · have hcases : k = 1 ∨ k = 2 ∨ k = 3 ∨ k = 4 ∨ k = 5 ∨ k = 6 ∨ k = 7 ∨ k = 8 ∨ k = 9 ∨ k = 10 ∨ k = 11 ∨ k = 12 ∨ k = 13 ∨ k = 14 := by omega
      rcases hcases with rfl | rfl | rfl | rfl | rfl | rfl | rfl | rfl | rfl | rfl | rfl | rfl | rfl | rfl
      · exact right_1 a b c n pos nm s A _ cp _ _ _ w
      · exact right_2 a b c n pos nm s A _ cp _ _ _ w
      · exact right_3 a b c n pos nm s A _ cp _ _ _ hs w
      · exact right_4 a b c n pos nm s A _ cp _ _ _ (Lib.hid rfl) (Lib.hid hn) w
      · exact right_5 a b c n pos nm s A _ cp _ _ _ (Lib.hid rfl) (Lib.hid hn) w
      · exact right_6 a b c n pos nm s A _ cp _ _ _ w
      · exact right_7 a b c n pos nm s A _ cp _ _ _ (Lib.hid rfl) (Lib.hid hn) w
      · exact right_8 a b c n pos nm s A _ cp _ _ _ (Lib.hid rfl) (Lib.hid hn) w
      · exact right_9 a b c n pos nm s A _ cp _ _ _ w
      · exact right_10 a b c n pos nm s A _ cp _ _ _ w
      · exact right_11 a b c n pos nm s A _ cp _ _ _ w (HLAB (.inl rfl))
      · exact right_12 a b c n pos nm s A _ cp _ _ _ (Lib.hid rfl) (Lib.hid hn) w
      · exact right_13 a b c n pos nm s A _ cp _ _ _ (Lib.hid rfl) (Lib.hid hn) w
      · exact right_14 a b c n pos nm s A _ cp _ _ _ w (HLAB (.inr rfl))
end Go.Proofs.YteikpeaakmbihaaDoor.T
