/- One byte of a writing, read by the program: which byte, and how many bytes it takes (0: there is none); nothing is changed. -/
import Derived.Test.YtekbfgjlkmldgaaDoorQPrint
import Derived.Test.YtekbfgjlkmldgaaDoorShelf
import Derived.Deep.QuietTactic
import Derived.BigQuiet
namespace Go.Proofs.YtekbfgjlkmldgaaDoor.Q
open Go.RowKit
theorem ix_all : ∀ n : Nat, n < 256 → Lib.indexByte digs.data.toList n.toUInt8 = hx n.toUInt8 := by decide +kernel
theorem ix_any (c : UInt8) (w : World) : Calls Tryd.prog 39 #[.string digs, .int .u8 (c.toNat : Int)] w fun e w' => e = .returned (.int .i64 (hx c)) ∧ w' = w := by
  have h := ix_all c.toNat c.toNat_lt
  rw [show c.toNat.toUInt8 = c by simp] at h
  have := Tryd.strings_IndexByte digs (c.toNat : Int) w
  rw [Int.toNat_natCast, show c.toNat.toUInt8 = c by simp, h] at this
  exact this
theorem hx_lo (c : UInt8) : -1 ≤ hx c := by unfold hx; split; · omega
                                            split <;> omega
theorem hx_hi (c : UInt8) : hx c < 16 := by unfold hx; split; · omega
                                            split <;> omega
theorem hx_or : ∀ a b : Nat, a < 16 → b < 16 → bits .or .i64 ((a : Int) * 16) (b : Int) = ((a * 16 + b : Nat) : Int) := by
  intro a b ha hb
  have h : ∀ a : Nat, a < 16 → ∀ b : Nat, b < 16 → bits .or .i64 ((a : Int) * 16) (b : Int) = ((a * 16 + b : Nat) : Int) := by decide +kernel
  exact h a ha b hb
/-- A byte and a number: what read returns. -/
def RdPost (b : UInt8) (k : Nat) (w : World) (e : Ending) (w' : World) : Prop := e = .returned (.tuple #[.int .u8 (b.toNat : Int), .int .i64 (k : Int)]) ∧ ∃ n, w' = w.drewN n
set_option maxHeartbeats 1000000 in
theorem dig_short (s : ByteArray) (h : s.size < 4) (w : World) : Calls Tryd.prog 64 #[.string s] w (RdPost 0 0 w) := by
  go_enter Tryd.func64, Tryd.ntmps64
  go_wp2
  go_ret2
  exact ⟨rfl, 0, rfl⟩
set_option maxHeartbeats 1000000 in
theorem dig_bad1 (s : ByteArray) (h : 4 ≤ s.size) (hm : s.size ≤ 140737488353000) (h1 : hx s[2] < 0) (w : World) : Calls Tryd.prog 64 #[.string s] w (RdPost 0 0 w) := by
  have a2 : (2 : Int) < (s.size : Int) := by omega
  have a3 : (3 : Int) < (s.size : Int) := by omega
  have a4 : 2 < s.size := by omega
  have a5 : 3 < s.size := by omega
  go_enter Tryd.func64, Tryd.ntmps64
  go_wp2_with fail
  go_quiet ((go_at_call 39; exact Calls.quiet_of_same (ix_any _ _)))
  go_wp2
  go_ret2
  exact ⟨rfl, _, rfl⟩
set_option maxHeartbeats 1000000 in
theorem dig_bad2 (s : ByteArray) (h : 4 ≤ s.size) (hm : s.size ≤ 140737488353000) (h1 : 0 ≤ hx s[2]) (h2 : hx s[3] < 0) (w : World) : Calls Tryd.prog 64 #[.string s] w (RdPost 0 0 w) := by
  have a2 : (2 : Int) < (s.size : Int) := by omega
  have a3 : (3 : Int) < (s.size : Int) := by omega
  have a4 : 2 < s.size := by omega
  have a5 : 3 < s.size := by omega
  go_enter Tryd.func64, Tryd.ntmps64
  go_wp2_with fail
  go_quiet ((go_at_call 39; exact Calls.quiet_of_same (ix_any _ _)))
  go_wp2
  go_ret2
  exact ⟨rfl, _, rfl⟩
set_option maxHeartbeats 1000000 in
theorem dig_good (s : ByteArray) (h : 4 ≤ s.size) (hm : s.size ≤ 140737488353000) (h1 : 0 ≤ hx s[2]) (h2 : 0 ≤ hx s[3]) (w : World) : Calls Tryd.prog 64 #[.string s] w (RdPost (UInt8.ofNat ((hx s[2]).toNat * 16 + (hx s[3]).toNat)) 4 w) := by
  have a2 : (2 : Int) < (s.size : Int) := by omega
  have a3 : (3 : Int) < (s.size : Int) := by omega
  have a4 : 2 < s.size := by omega
  have a5 : 3 < s.size := by omega
  have b2 := hx_hi s[2]
  have b3 := hx_hi s[3]
  obtain ⟨x, hX⟩ : ∃ x : Nat, hx s[2] = x := ⟨(hx s[2]).toNat, by omega⟩
  obtain ⟨y, hY⟩ : ∃ y : Nat, hx s[3] = y := ⟨(hx s[3]).toNat, by omega⟩
  rw [hX] at b2 h1
  rw [hY] at b3 h2
  have hO := hx_or x y (by omega) (by omega)
  have H : Hid (UInt8.ofNat ((hx s[2]).toNat * 16 + (hx s[3]).toNat) = UInt8.ofNat (x * 16 + y)) := by unfold Hid; rw [hX, hY]; rfl
  rw [H.out]
  have hN : Hid ((((UInt8.ofNat (x * 16 + y)).toNat : Nat) : Int) = ((x * 16 + y : Nat) : Int)) := by unfold Hid; rw [UInt8.toNat_ofNat']; omega
  go_enter Tryd.func64, Tryd.ntmps64
  go_wp2_with fail
  go_quiet ((go_at_call 39; exact Calls.quiet_of_same (ix_any _ _)))
  go_wp2
  go_ret2
  refine ⟨?_, _, rfl⟩
  rw [hN.out]
  rfl
set_option maxHeartbeats 1000000 in
theorem rd_bare (s : ByteArray) (h0 : 0 < s.size) (hb : Hid (bare s[0])) (w : World) : Calls Tryd.prog 58 #[.string s] w (RdPost s[0] 1 w) := by
  go_enter Tryd.func58, Tryd.ntmps58
  go_wp2_with (first
    | (go_at_call 63; refine (sb_yes hb _).mono ?_; rintro e w' ⟨rfl, rfl⟩))
  go_ret2
  exact ⟨rfl, 0, rfl⟩
set_option maxHeartbeats 1000000 in
theorem rd_no (s : ByteArray) (h0 : 0 < s.size) (hb : Hid (¬ bare s[0])) (h1 : ((s[0].toNat : Int) != 92) = true) (w : World) : Calls Tryd.prog 58 #[.string s] w (RdPost 0 0 w) := by
  go_enter Tryd.func58, Tryd.ntmps58
  go_wp2_with (first
    | (go_at_call 63; refine (sb_no hb _).mono ?_; rintro e w' ⟨rfl, rfl⟩))
  go_ret2
  exact ⟨rfl, 0, rfl⟩
set_option maxHeartbeats 1000000 in
theorem rd_short (s : ByteArray) (h0 : 0 < s.size) (hb : Hid (¬ bare s[0])) (h1 : ((s[0].toNat : Int) != 92) = false) (h2 : s.size < 2) (w : World) : Calls Tryd.prog 58 #[.string s] w (RdPost 0 0 w) := by
  go_enter Tryd.func58, Tryd.ntmps58
  go_wp2_with (first
    | (go_at_call 63; refine (sb_no hb _).mono ?_; rintro e w' ⟨rfl, rfl⟩))
  go_ret2
  exact ⟨rfl, 0, rfl⟩
set_option maxHeartbeats 1000000 in
theorem rd_same1 (s : ByteArray) (h0 : 0 < s.size) (hb : Hid (¬ bare s[0])) (h1 : ((s[0].toNat : Int) != 92) = false) (h2 : 1 < s.size) (hm : s.size ≤ 140737488353000) (h3 : ((s[1].toNat : Int) == 34) = true) (w : World) : Calls Tryd.prog 58 #[.string s] w (RdPost s[1] 2 w) := by
  go_enter Tryd.func58, Tryd.ntmps58
  go_wp2_with (first
    | (go_at_call 63; refine (sb_no hb _).mono ?_; rintro e w' ⟨rfl, rfl⟩))
  go_ret2
  exact ⟨rfl, 0, rfl⟩
set_option maxHeartbeats 1000000 in
theorem rd_same2 (s : ByteArray) (h0 : 0 < s.size) (hb : Hid (¬ bare s[0])) (h1 : ((s[0].toNat : Int) != 92) = false) (h2 : 1 < s.size) (hm : s.size ≤ 140737488353000) (h3 : ((s[1].toNat : Int) == 34) = false) (h4 : ((s[1].toNat : Int) == 92) = true) (w : World) : Calls Tryd.prog 58 #[.string s] w (RdPost s[1] 2 w) := by
  go_enter Tryd.func58, Tryd.ntmps58
  go_wp2_with (first
    | (go_at_call 63; refine (sb_no hb _).mono ?_; rintro e w' ⟨rfl, rfl⟩))
  go_ret2
  exact ⟨rfl, 0, rfl⟩
set_option maxHeartbeats 1000000 in
theorem rd_line (s : ByteArray) (h0 : 0 < s.size) (hb : Hid (¬ bare s[0])) (h1 : ((s[0].toNat : Int) != 92) = false) (h2 : 1 < s.size) (hm : s.size ≤ 140737488353000) (h3 : ((s[1].toNat : Int) == 34) = false) (h4 : ((s[1].toNat : Int) == 92) = false) (h5 : ((s[1].toNat : Int) == 110) = true) (w : World) : Calls Tryd.prog 58 #[.string s] w (RdPost 10 2 w) := by
  go_enter Tryd.func58, Tryd.ntmps58
  go_wp2_with (first
    | (go_at_call 63; refine (sb_no hb _).mono ?_; rintro e w' ⟨rfl, rfl⟩))
  go_ret2
  exact ⟨rfl, 0, rfl⟩
set_option maxHeartbeats 1000000 in
theorem rd_tab (s : ByteArray) (h0 : 0 < s.size) (hb : Hid (¬ bare s[0])) (h1 : ((s[0].toNat : Int) != 92) = false) (h2 : 1 < s.size) (hm : s.size ≤ 140737488353000) (h3 : ((s[1].toNat : Int) == 34) = false) (h4 : ((s[1].toNat : Int) == 92) = false) (h5 : ((s[1].toNat : Int) == 110) = false) (h6 : ((s[1].toNat : Int) == 116) = true) (w : World) : Calls Tryd.prog 58 #[.string s] w (RdPost 9 2 w) := by
  go_enter Tryd.func58, Tryd.ntmps58
  go_wp2_with (first
    | (go_at_call 63; refine (sb_no hb _).mono ?_; rintro e w' ⟨rfl, rfl⟩))
  go_ret2
  exact ⟨rfl, 0, rfl⟩
set_option maxHeartbeats 1000000 in
theorem rd_none (s : ByteArray) (h0 : 0 < s.size) (hb : Hid (¬ bare s[0])) (h1 : ((s[0].toNat : Int) != 92) = false) (h2 : 1 < s.size) (hm : s.size ≤ 140737488353000) (h3 : ((s[1].toNat : Int) == 34) = false) (h4 : ((s[1].toNat : Int) == 92) = false) (h5 : ((s[1].toNat : Int) == 110) = false) (h6 : ((s[1].toNat : Int) == 116) = false) (h7 : ((s[1].toNat : Int) == 120) = false) (w : World) : Calls Tryd.prog 58 #[.string s] w (RdPost 0 0 w) := by
  go_enter Tryd.func58, Tryd.ntmps58
  go_wp2_with (first
    | (go_at_call 63; refine (sb_no hb _).mono ?_; rintro e w' ⟨rfl, rfl⟩))
  go_ret2
  exact ⟨rfl, 0, rfl⟩
set_option maxHeartbeats 1000000 in
theorem rd_dig (s : ByteArray) (h0 : 0 < s.size) (hb : Hid (¬ bare s[0])) (h1 : ((s[0].toNat : Int) != 92) = false) (h2 : 1 < s.size) (hm : s.size ≤ 140737488353000) (h3 : ((s[1].toNat : Int) == 34) = false) (h4 : ((s[1].toNat : Int) == 92) = false) (h5 : ((s[1].toNat : Int) == 110) = false) (h6 : ((s[1].toNat : Int) == 116) = false) (h7 : ((s[1].toNat : Int) == 120) = true) (b : UInt8) (k : Nat) (hd : Hid (∀ w, Calls Tryd.prog 64 #[.string s] w (RdPost b k w))) (w : World) : Calls Tryd.prog 58 #[.string s] w (RdPost b k w) := by
  go_enter Tryd.func58, Tryd.ntmps58
  go_wp2_with (first
    | (go_at_call 63; refine (sb_no hb _).mono ?_; rintro e w' ⟨rfl, rfl⟩)
    | (go_at_call 64; refine (hd.out _).mono ?_; rintro e w' ⟨rfl, n, rfl⟩))
  go_ret2
  exact ⟨rfl, n, rfl⟩
theorem neq' {c : UInt8} {n : Nat} (h : c.toNat = n) : ((c.toNat : Int) != (n : Int)) = false := by simp [h]
theorem nne' {c : UInt8} {n : Nat} (h : ¬ c.toNat = n) : ((c.toNat : Int) != (n : Int)) = true := by rw [bne_iff_ne]; omega
theorem rd_any (s : ByteArray) (h0 : 0 < s.size) (hm : s.size ≤ 140737488353000) (w : World) : Calls Tryd.prog 58 #[.string s] w (RdPost (rb s.data.toList) (rk s.data.toList) w) := by
  have e0 := drop_at s 0 h0
  rw [List.drop_zero] at e0
  by_cases hb : bare s[0]
  · rw [show rb s.data.toList = s[0] by rw [e0]; simp [rb, hb], show rk s.data.toList = 1 by rw [e0]; simp [rk, hb]]
    exact rd_bare s h0 (Lib.hid hb) w
  by_cases h92 : s[0].toNat = 92
  · by_cases h2 : 1 < s.size
    · have e1 := drop_at s 1 h2
      by_cases a34 : s[1].toNat = 34
      · rw [show rb s.data.toList = s[1] by rw [e0, e1]; simp [rb, hb, h92, a34], show rk s.data.toList = 2 by rw [e0, e1]; simp [rk, hb, h92, a34]]
        exact rd_same1 s h0 (Lib.hid hb) (neq' h92) h2 hm (eqb a34) w
      by_cases a92 : s[1].toNat = 92
      · rw [show rb s.data.toList = s[1] by rw [e0, e1]; simp [rb, hb, h92, a92], show rk s.data.toList = 2 by rw [e0, e1]; simp [rk, hb, h92, a92]]
        exact rd_same2 s h0 (Lib.hid hb) (neq' h92) h2 hm (neb a34) (eqb a92) w
      by_cases a110 : s[1].toNat = 110
      · rw [show rb s.data.toList = 10 by rw [e0, e1]; simp [rb, hb, h92, a110], show rk s.data.toList = 2 by rw [e0, e1]; simp [rk, hb, h92, a110]]
        exact rd_line s h0 (Lib.hid hb) (neq' h92) h2 hm (neb a34) (neb a92) (eqb a110) w
      by_cases a116 : s[1].toNat = 116
      · rw [show rb s.data.toList = 9 by rw [e0, e1]; simp [rb, hb, h92, a116], show rk s.data.toList = 2 by rw [e0, e1]; simp [rk, hb, h92, a116]]
        exact rd_tab s h0 (Lib.hid hb) (neq' h92) h2 hm (neb a34) (neb a92) (neb a110) (eqb a116) w
      by_cases a120 : s[1].toNat = 120
      · refine rd_dig s h0 (Lib.hid hb) (neq' h92) h2 hm (neb a34) (neb a92) (neb a110) (neb a116) (eqb a120) _ _ (Lib.hid ?_) w
        intro w
        by_cases h4 : 4 ≤ s.size
        · have e2 := drop_at s 2 (by omega)
          have e3 := drop_at s 3 (by omega)
          have a2 : 2 < s.size := by omega
          have a3 : 3 < s.size := by omega
          by_cases x2 : (0 : Int) ≤ hx s[2]
          · by_cases x3 : (0 : Int) ≤ hx s[3]
            · rw [show rb s.data.toList = UInt8.ofNat ((hx s[2]).toNat * 16 + (hx s[3]).toNat) by rw [e0, e1, e2, e3]; simp [rb, hb, h92, a120, x2, x3],
                show rk s.data.toList = 4 by rw [e0, e1, e2, e3]; simp [rk, hb, h92, a120, x2, x3]]
              exact dig_good s h4 hm x2 x3 w
            · rw [show rb s.data.toList = 0 by rw [e0, e1, e2, e3]; simp [rb, hb, h92, a120, x3], show rk s.data.toList = 0 by rw [e0, e1, e2, e3]; simp [rk, hb, h92, a120, x3]]
              exact dig_bad2 s h4 hm x2 (by omega) w
          · rw [show rb s.data.toList = 0 by rw [e0, e1, e2, e3]; simp [rb, hb, h92, a120, x2], show rk s.data.toList = 0 by rw [e0, e1, e2, e3]; simp [rk, hb, h92, a120, x2]]
            exact dig_bad1 s h4 hm (by omega) w
        · have hl : (s.data.toList.drop 2).length ≤ 1 := by rw [List.length_drop, size_len]; omega
          have hr : rb s.data.toList = 0 ∧ rk s.data.toList = 0 := by
            rw [e0, e1]
            rcases hq : s.data.toList.drop (1 + 1) with _ | ⟨a, _ | ⟨b, r⟩⟩
            · simp [rb, rk, hb, h92, a120]
            · simp [rb, rk, hb, h92, a120]
            · rw [hq] at hl; simp at hl
          rw [hr.1, hr.2]
          exact dig_short s (by omega) w
      · rw [show rb s.data.toList = 0 by rw [e0, e1]; simp [rb, hb, h92, a34, a92, a110, a116, a120], show rk s.data.toList = 0 by rw [e0, e1]; simp [rk, hb, h92, a34, a92, a110, a116, a120]]
        exact rd_none s h0 (Lib.hid hb) (neq' h92) h2 hm (neb a34) (neb a92) (neb a110) (neb a116) (neb a120) w
    · have e1 : s.data.toList.drop 1 = [] := List.drop_of_length_le (by rw [size_len]; omega)
      rw [show rb s.data.toList = 0 by rw [e0, e1]; simp [rb, hb, h92], show rk s.data.toList = 0 by rw [e0, e1]; simp [rk, hb, h92]]
      exact rd_short s h0 (Lib.hid hb) (neq' h92) (by omega) w
  · rw [show rb s.data.toList = 0 by rw [e0]; simp [rb, hb, h92], show rk s.data.toList = 0 by rw [e0]; simp [rk, hb, h92]]
    exact rd_no s h0 (Lib.hid hb) (nne' h92) w
end Go.Proofs.YtekbfgjlkmldgaaDoor.Q
