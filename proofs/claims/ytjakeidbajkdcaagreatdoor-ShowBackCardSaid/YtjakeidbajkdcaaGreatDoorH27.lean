/- Joined by program. -/
import Derived.Test.YtjakeidbajkdcaaGreatDoorH24
import Derived.Test.YtjakeidbajkdcaaGreatDoorH04
import Derived.Deep.QuietTactic
import Derived.BigQuiet
set_option maxRecDepth 100000
set_option maxHeartbeats 2000000
namespace Go.Proofs.YtjakeidbajkdcaaGreatDoor.Q
open Go.RowKit
theorem ix_all : ∀ n : Nat, n < 256 -> Lib.indexByte digs.data.toList n.toUInt8 = hx n.toUInt8 := by decide +kernel
theorem ix_any (c : UInt8) (w : World) : Calls Tryz.prog 148 #[.string digs, .int .u8 (c.toNat : Int)] w fun e w' => e = .returned (.int .i64 (hx c)) /\ w' = w := by
  have h := ix_all c.toNat c.toNat_lt
  rw [show c.toNat.toUInt8 = c by simp] at h
  have := Tryz.strings_IndexByte digs (c.toNat : Int) w
  rw [Int.toNat_natCast, show c.toNat.toUInt8 = c by simp, h] at this
  exact this
theorem hx_hi (c : UInt8) : hx c < 16 := by unfold hx; split; · omega
                                            split <;> omega
theorem hx_or : ∀ a b : Nat, a < 16 -> b < 16 -> bits .or .i64 ((a : Int) * 16) (b : Int) = ((a * 16 + b : Nat) : Int) := by
  intro a b ha hb
  have h : ∀ a : Nat, a < 16 -> ∀ b : Nat, b < 16 -> bits .or .i64 ((a : Int) * 16) (b : Int) = ((a * 16 + b : Nat) : Int) := by decide +kernel
  exact h a ha b hb
def RdPost (b : UInt8) (k : Nat) (w : World) (e : Ending) (w' : World) : Prop := e = .returned (.tuple #[.int .u8 (b.toNat : Int), .int .i64 (k : Int)]) /\ ∃ n, w' = w.drewN n
theorem dig_short (s : ByteArray) (h : s.size < 4) (w : World) : Calls Tryz.prog 198 #[.string s] w (RdPost 0 0 w) := by
  go_enter Tryz.func198, Tryz.ntmps198
  go_wp2
  go_ret2
  exact ⟨rfl, 0, rfl⟩
theorem dig_bad1 (s : ByteArray) (h : 4 <= s.size) (hm : s.size <= 140737488353000) (h1 : hx s[2] < 0) (w : World) : Calls Tryz.prog 198 #[.string s] w (RdPost 0 0 w) := by
  have a2 : (2 : Int) < (s.size : Int) := by omega
  have a3 : (3 : Int) < (s.size : Int) := by omega
  have a4 : 2 < s.size := by omega
  have a5 : 3 < s.size := by omega
  go_enter Tryz.func198, Tryz.ntmps198
  go_wp2_with fail
  go_quiet ((go_at_call 148; exact Calls.quiet_of_same (ix_any _ _)))
  go_wp2
  go_ret2
  exact ⟨rfl, _, rfl⟩
theorem dig_bad2 (s : ByteArray) (h : 4 <= s.size) (hm : s.size <= 140737488353000) (h1 : 0 <= hx s[2]) (h2 : hx s[3] < 0) (w : World) : Calls Tryz.prog 198 #[.string s] w (RdPost 0 0 w) := by
  have a2 : (2 : Int) < (s.size : Int) := by omega
  have a3 : (3 : Int) < (s.size : Int) := by omega
  have a4 : 2 < s.size := by omega
  have a5 : 3 < s.size := by omega
  go_enter Tryz.func198, Tryz.ntmps198
  go_wp2_with fail
  go_quiet ((go_at_call 148; exact Calls.quiet_of_same (ix_any _ _)))
  go_wp2
  go_ret2
  exact ⟨rfl, _, rfl⟩
theorem dig_good (s : ByteArray) (h : 4 <= s.size) (hm : s.size <= 140737488353000) (h1 : 0 <= hx s[2]) (h2 : 0 <= hx s[3]) (w : World) : Calls Tryz.prog 198 #[.string s] w (RdPost (UInt8.ofNat ((hx s[2]).toNat * 16 + (hx s[3]).toNat)) 4 w) := by
  have a2 : (2 : Int) < (s.size : Int) := by omega
  have a3 : (3 : Int) < (s.size : Int) := by omega
  have a4 : 2 < s.size := by omega
  have a5 : 3 < s.size := by omega
  have b2 := hx_hi s[2]
  have b3 := hx_hi s[3]
  obtain ⟨x, hX⟩ : ∃ x : Nat, hx s[2] = x := ⟨(hx s[2]).toNat, by omega⟩
  obtain ⟨y, hY⟩ : ∃ y : Nat, hx s[3] = y := ⟨(hx s[3]).toNat, by omega⟩
  rw [hX] at b2 h1
  rw [hY] at b3 h2
  have hO := hx_or x y (by omega) (by omega)
  have H : Hid (UInt8.ofNat ((hx s[2]).toNat * 16 + (hx s[3]).toNat) = UInt8.ofNat (x * 16 + y)) := by unfold Hid; rw [hX, hY]; rfl
  rw [H.out]
  have hN : Hid ((((UInt8.ofNat (x * 16 + y)).toNat : Nat) : Int) = ((x * 16 + y : Nat) : Int)) := by unfold Hid; rw [UInt8.toNat_ofNat']; omega
  go_enter Tryz.func198, Tryz.ntmps198
  go_wp2_with fail
  go_quiet ((go_at_call 148; exact Calls.quiet_of_same (ix_any _ _)))
  go_wp2
  go_ret2
  refine ⟨?_, _, rfl⟩
  rw [hN.out]
  rfl
theorem rd_bare (s : ByteArray) (h0 : 0 < s.size) (hb : Hid (bare s[0])) (w : World) : Calls Tryz.prog 179 #[.string s] w (RdPost s[0] 1 w) := by
  go_enter Tryz.func179, Tryz.ntmps179
  go_wp2_with (first | (go_at_call 143; refine (sb_yes hb _).mono ?_; rintro e w' ⟨rfl, rfl⟩))
  go_ret2
  exact ⟨rfl, 0, rfl⟩
theorem rd_no (s : ByteArray) (h0 : 0 < s.size) (hb : Hid (¬ bare s[0])) (h1 : ((s[0].toNat : Int) != 92) = true) (w : World) : Calls Tryz.prog 179 #[.string s] w (RdPost 0 0 w) := by
  go_enter Tryz.func179, Tryz.ntmps179
  go_wp2_with (first | (go_at_call 143; refine (sb_no hb _).mono ?_; rintro e w' ⟨rfl, rfl⟩))
  go_ret2
  exact ⟨rfl, 0, rfl⟩
theorem rd_short (s : ByteArray) (h0 : 0 < s.size) (hb : Hid (¬ bare s[0])) (h1 : ((s[0].toNat : Int) != 92) = false) (h2 : s.size < 2) (w : World) : Calls Tryz.prog 179 #[.string s] w (RdPost 0 0 w) := by
  go_enter Tryz.func179, Tryz.ntmps179
  go_wp2_with (first | (go_at_call 143; refine (sb_no hb _).mono ?_; rintro e w' ⟨rfl, rfl⟩))
  go_ret2
  exact ⟨rfl, 0, rfl⟩
theorem rd_same1 (s : ByteArray) (h0 : 0 < s.size) (hb : Hid (¬ bare s[0])) (h1 : ((s[0].toNat : Int) != 92) = false) (h2 : 1 < s.size) (hm : s.size <= 140737488353000) (h3 : ((s[1].toNat : Int) == 34) = true) (w : World) : Calls Tryz.prog 179 #[.string s] w (RdPost s[1] 2 w) := by
  go_enter Tryz.func179, Tryz.ntmps179
  go_wp2_with (first | (go_at_call 143; refine (sb_no hb _).mono ?_; rintro e w' ⟨rfl, rfl⟩))
  go_ret2
  exact ⟨rfl, 0, rfl⟩
theorem rd_same2 (s : ByteArray) (h0 : 0 < s.size) (hb : Hid (¬ bare s[0])) (h1 : ((s[0].toNat : Int) != 92) = false) (h2 : 1 < s.size) (hm : s.size <= 140737488353000) (h3 : ((s[1].toNat : Int) == 34) = false) (h4 : ((s[1].toNat : Int) == 92) = true) (w : World) : Calls Tryz.prog 179 #[.string s] w (RdPost s[1] 2 w) := by
  go_enter Tryz.func179, Tryz.ntmps179
  go_wp2_with (first | (go_at_call 143; refine (sb_no hb _).mono ?_; rintro e w' ⟨rfl, rfl⟩))
  go_ret2
  exact ⟨rfl, 0, rfl⟩
theorem rd_line (s : ByteArray) (h0 : 0 < s.size) (hb : Hid (¬ bare s[0])) (h1 : ((s[0].toNat : Int) != 92) = false) (h2 : 1 < s.size) (hm : s.size <= 140737488353000) (h3 : ((s[1].toNat : Int) == 34) = false) (h4 : ((s[1].toNat : Int) == 92) = false) (h5 : ((s[1].toNat : Int) == 110) = true) (w : World) : Calls Tryz.prog 179 #[.string s] w (RdPost 10 2 w) := by
  go_enter Tryz.func179, Tryz.ntmps179
  go_wp2_with (first | (go_at_call 143; refine (sb_no hb _).mono ?_; rintro e w' ⟨rfl, rfl⟩))
  go_ret2
  exact ⟨rfl, 0, rfl⟩
theorem rd_tab (s : ByteArray) (h0 : 0 < s.size) (hb : Hid (¬ bare s[0])) (h1 : ((s[0].toNat : Int) != 92) = false) (h2 : 1 < s.size) (hm : s.size <= 140737488353000) (h3 : ((s[1].toNat : Int) == 34) = false) (h4 : ((s[1].toNat : Int) == 92) = false) (h5 : ((s[1].toNat : Int) == 110) = false) (h6 : ((s[1].toNat : Int) == 116) = true) (w : World) : Calls Tryz.prog 179 #[.string s] w (RdPost 9 2 w) := by
  go_enter Tryz.func179, Tryz.ntmps179
  go_wp2_with (first | (go_at_call 143; refine (sb_no hb _).mono ?_; rintro e w' ⟨rfl, rfl⟩))
  go_ret2
  exact ⟨rfl, 0, rfl⟩
theorem rd_none (s : ByteArray) (h0 : 0 < s.size) (hb : Hid (¬ bare s[0])) (h1 : ((s[0].toNat : Int) != 92) = false) (h2 : 1 < s.size) (hm : s.size <= 140737488353000) (h3 : ((s[1].toNat : Int) == 34) = false) (h4 : ((s[1].toNat : Int) == 92) = false) (h5 : ((s[1].toNat : Int) == 110) = false) (h6 : ((s[1].toNat : Int) == 116) = false) (h7 : ((s[1].toNat : Int) == 120) = false) (w : World) : Calls Tryz.prog 179 #[.string s] w (RdPost 0 0 w) := by
  go_enter Tryz.func179, Tryz.ntmps179
  go_wp2_with (first | (go_at_call 143; refine (sb_no hb _).mono ?_; rintro e w' ⟨rfl, rfl⟩))
  go_ret2
  exact ⟨rfl, 0, rfl⟩
theorem rd_dig (s : ByteArray) (h0 : 0 < s.size) (hb : Hid (¬ bare s[0])) (h1 : ((s[0].toNat : Int) != 92) = false) (h2 : 1 < s.size) (hm : s.size <= 140737488353000) (h3 : ((s[1].toNat : Int) == 34) = false) (h4 : ((s[1].toNat : Int) == 92) = false) (h5 : ((s[1].toNat : Int) == 110) = false) (h6 : ((s[1].toNat : Int) == 116) = false) (h7 : ((s[1].toNat : Int) == 120) = true) (b : UInt8) (k : Nat) (hd : Hid (∀ w, Calls Tryz.prog 198 #[.string s] w (RdPost b k w))) (w : World) : Calls Tryz.prog 179 #[.string s] w (RdPost b k w) := by
  go_enter Tryz.func179, Tryz.ntmps179
  go_wp2_with (first | (go_at_call 143; refine (sb_no hb _).mono ?_; rintro e w' ⟨rfl, rfl⟩) | (go_at_call 198; refine (hd.out _).mono ?_; rintro e w' ⟨rfl, n, rfl⟩))
  go_ret2
  exact ⟨rfl, n, rfl⟩
theorem neq' {c : UInt8} {n : Nat} (h : c.toNat = n) : ((c.toNat : Int) != (n : Int)) = false := by simp [h]
theorem nne' {c : UInt8} {n : Nat} (h : ¬ c.toNat = n) : ((c.toNat : Int) != (n : Int)) = true := by rw [bne_iff_ne]; omega
theorem rd_any (s : ByteArray) (h0 : 0 < s.size) (hm : s.size <= 140737488353000) (w : World) : Calls Tryz.prog 179 #[.string s] w (RdPost (rb s.data.toList) (rk s.data.toList) w) := by
  have e0 := drop_at s 0 h0
  rw [List.drop_zero] at e0
  by_cases hb : bare s[0]
  · rw [show rb s.data.toList = s[0] by rw [e0]; simp [rb, hb], show rk s.data.toList = 1 by rw [e0]; simp [rk, hb]]
    exact rd_bare s h0 (Lib.hid hb) w
  by_cases h92 : s[0].toNat = 92
  · by_cases h2 : 1 < s.size
    · have e1 := drop_at s 1 h2
      by_cases a34 : s[1].toNat = 34
      · rw [show rb s.data.toList = s[1] by rw [e0, e1]; simp [rb, hb, h92, a34], show rk s.data.toList = 2 by rw [e0, e1]; simp [rk, hb, h92, a34]]
        exact rd_same1 s h0 (Lib.hid hb) (neq' h92) h2 hm (eqb a34) w
      by_cases a92 : s[1].toNat = 92
      · rw [show rb s.data.toList = s[1] by rw [e0, e1]; simp [rb, hb, h92, a92], show rk s.data.toList = 2 by rw [e0, e1]; simp [rk, hb, h92, a92]]
        exact rd_same2 s h0 (Lib.hid hb) (neq' h92) h2 hm (neb a34) (eqb a92) w
      by_cases a110 : s[1].toNat = 110
      · rw [show rb s.data.toList = 10 by rw [e0, e1]; simp [rb, hb, h92, a110], show rk s.data.toList = 2 by rw [e0, e1]; simp [rk, hb, h92, a110]]
        exact rd_line s h0 (Lib.hid hb) (neq' h92) h2 hm (neb a34) (neb a92) (eqb a110) w
      by_cases a116 : s[1].toNat = 116
      · rw [show rb s.data.toList = 9 by rw [e0, e1]; simp [rb, hb, h92, a116], show rk s.data.toList = 2 by rw [e0, e1]; simp [rk, hb, h92, a116]]
        exact rd_tab s h0 (Lib.hid hb) (neq' h92) h2 hm (neb a34) (neb a92) (neb a110) (eqb a116) w
      by_cases a120 : s[1].toNat = 120
      · refine rd_dig s h0 (Lib.hid hb) (neq' h92) h2 hm (neb a34) (neb a92) (neb a110) (neb a116) (eqb a120) _ _ (Lib.hid ?_) w
        intro w
        by_cases h4 : 4 <= s.size
        · have e2 := drop_at s 2 (by omega)
          have e3 := drop_at s 3 (by omega)
          have a2 : 2 < s.size := by omega
          have a3 : 3 < s.size := by omega
          by_cases x2 : (0 : Int) <= hx s[2]
          · by_cases x3 : (0 : Int) <= hx s[3]
            · rw [show rb s.data.toList = UInt8.ofNat ((hx s[2]).toNat * 16 + (hx s[3]).toNat) by rw [e0, e1, e2, e3]; simp [rb, hb, h92, a120, x2, x3],
                show rk s.data.toList = 4 by rw [e0, e1, e2, e3]; simp [rk, hb, h92, a120, x2, x3]]
              exact dig_good s h4 hm x2 x3 w
            · rw [show rb s.data.toList = 0 by rw [e0, e1, e2, e3]; simp [rb, hb, h92, a120, x3], show rk s.data.toList = 0 by rw [e0, e1, e2, e3]; simp [rk, hb, h92, a120, x3]]
              exact dig_bad2 s h4 hm x2 (by omega) w
          · rw [show rb s.data.toList = 0 by rw [e0, e1, e2, e3]; simp [rb, hb, h92, a120, x2], show rk s.data.toList = 0 by rw [e0, e1, e2, e3]; simp [rk, hb, h92, a120, x2]]
            exact dig_bad1 s h4 hm (by omega) w
        · have hl : (s.data.toList.drop 2).length <= 1 := by rw [List.length_drop, size_len]; omega
          have hr : rb s.data.toList = 0 /\ rk s.data.toList = 0 := by
            rw [e0, e1]
            rcases hq : s.data.toList.drop (1 + 1) with _ | ⟨a, _ | ⟨b, r⟩⟩
            · simp [rb, rk, hb, h92, a120]
            · simp [rb, rk, hb, h92, a120]
            · rw [hq] at hl; simp at hl
          rw [hr.1, hr.2]
          exact dig_short s (by omega) w
      · rw [show rb s.data.toList = 0 by rw [e0, e1]; simp [rb, hb, h92, a34, a92, a110, a116, a120], show rk s.data.toList = 0 by rw [e0, e1]; simp [rk, hb, h92, a34, a92, a110, a116, a120]]
        exact rd_none s h0 (Lib.hid hb) (neq' h92) h2 hm (neb a34) (neb a92) (neb a110) (neb a116) (neb a120) w
    · have e1 : s.data.toList.drop 1 = [] := List.drop_of_length_le (by rw [size_len]; omega)
      rw [show rb s.data.toList = 0 by rw [e0, e1]; simp [rb, hb, h92], show rk s.data.toList = 0 by rw [e0, e1]; simp [rk, hb, h92]]
      exact rd_short s h0 (Lib.hid hb) (neq' h92) (by omega) w
  · rw [show rb s.data.toList = 0 by rw [e0]; simp [rb, hb, h92], show rk s.data.toList = 0 by rw [e0]; simp [rk, hb, h92]]
    exact rd_no s h0 (Lib.hid hb) (nne' h92) w
open Go.RowKit
def TkEnd (o : Option (List UInt8 × Nat)) (e : Ending) : Prop := e = .returned (.tuple #[.string ⟨(tT o).toArray⟩, .int .i64 (tN o : Int), .int .i64 (tE o)])
def TkPost (o : Option (List UInt8 × Nat)) (B : Nat) (w : World) (e : Ending) (w' : World) : Prop := TkEnd o e /\ Below B w w'
theorem taken_long {B : Nat} {v : Value} {l : List UInt8} (n : Nat) (w : World) (hrow : Row B w v l) (h : 200 < l.length) (hl : l.length <= 140737488355328) :
    Calls Tryz.prog 178 #[v, .int .i64 (n : Int)] w fun e w' => TkEnd (some (l, n)) e /\ w = w' := by
  obtain ⟨A, c, rfl⟩ := hrow.form
  have H : Hid (tT (some (l, n)) = [] /\ tN (some (l, n)) = 0 /\ tE (some (l, n)) = 7) := by
    refine ⟨?_, ?_, ?_⟩
    · rw [tT]; simp [h]
    · rw [tN]; simp [h]
    · rw [tE]; simp [h]
  unfold TkEnd
  rw [H.out.1, H.out.2.1, H.out.2.2]
  go_enter Tryz.func178, Tryz.ntmps178
  go_wp2
  go_ret3
  exact ⟨rfl, rfl⟩
theorem taken_good {B : Nat} {v : Value} {l : List UInt8} (n : Nat) (w : World) (hrow : Row B w v l) (h : l.length <= 200) :
    Calls Tryz.prog 178 #[v, .int .i64 (n : Int)] w fun e w' => TkEnd (some (l, n)) e /\ w = w' := by
  have hcv := hrow.conv
  obtain ⟨A, c, rfl⟩ := hrow.form
  have H : Hid (tT (some (l, n)) = l /\ tN (some (l, n)) = n /\ tE (some (l, n)) = 0) := by
    have h' : ¬ 200 < l.length := by omega
    refine ⟨?_, ?_, ?_⟩
    · rw [tT]; simp [h']
    · rw [tN]; simp [h']
    · rw [tE]; simp [h']
  unfold TkEnd
  rw [H.out.1, H.out.2.1, H.out.2.2]
  go_enter Tryz.func178, Tryz.ntmps178
  go_wp2
  go_ret3
  exact ⟨rfl, rfl⟩
theorem taken_any {B : Nat} {v : Value} {l : List UInt8} (n : Int) (m : Nat) (hn : n = (m : Int)) (w : World) (hrow : Row B w v l) (hl : l.length <= 140737488355328) :
    Calls Tryz.prog 178 #[v, .int .i64 n] w fun e w' => TkEnd (some (l, m)) e /\ w = w' := by
  subst hn
  by_cases h : l.length <= 200
  · exact taken_good m w hrow h
  · exact taken_long m w hrow (by omega) hl
theorem take_empty {B : Nat} (w : World) : Calls Tryz.prog 158 #[.string ⟨#[]⟩] w (TkPost none B w) := by
  go_enter Tryz.func158, Tryz.ntmps158
  go_wp2
  go_ret3
  exact ⟨rfl, Below.refl _ _⟩
theorem take_not {B : Nat} (s : ByteArray) (h0 : 0 < s.size) (hE : s.toList.isEmpty = false) (hq : ((s[0].toNat : Int) != 34) = true) (w : World) : Calls Tryz.prog 158 #[.string s] w (TkPost none B w) := by
  go_enter Tryz.func158, Tryz.ntmps158
  go_wp2
  go_ret3
  exact ⟨rfl, Below.refl _ _⟩
theorem take_loop {B : Nat} (s : ByteArray) (hs : s.size <= 140737488353000) (h0 : 0 < s.size) (hE : s.toList.isEmpty = false) (hq : ((s[0].toNat : Int) != 34) = false) (w : World) (hB : B <= w.heap.size) :
    Calls Tryz.prog 158 #[.string s] w (TkPost (tkAt s.data.toList 1 []) B w) := by
  obtain ⟨o, ho⟩ : ∃ o, tkAt s.data.toList 1 [] = o := ⟨_, rfl⟩
  have HO : Going s o 1 [] := ho
  rw [ho]
  clear ho
  go_enter Tryz.func158, Tryz.ntmps158
  go_wp2
  go_loopw [5, 6, 19] (fun v nx i wr => ∃ (k n : Nat) (acc : List UInt8), i = .int .i64 k /\ nx = .int .i64 n /\ k <= s.size /\ k <= n /\ n <= s.size /\ acc.length <= n /\ Row B wr v acc /\ Going s o n acc /\ Below B w wr) (fun _ _ i _ => s.size - (intOf i).toNat)
  case atStart => exact ⟨0, 1, [], rfl, rfl, Nat.zero_le _, by omega, by omega, by simp, Row.nil _ _, HO, Below.refl _ _⟩
  case round =>
    obtain ⟨k, n, acc, rfl, rfl, hk, hkn, hn, hacc, hrow, hg, hbw⟩ := hrel
    have hz := hbw.size
    by_cases hlt : k < s.size
    · by_cases hnx : k < n
      · go_wp2_with fail
        go_roundw
        case rel => exact ⟨k + 1, n, acc, by go_num, rfl, by omega, by omega, hn, hacc, hrow, hg, hbw⟩
        case measure => simp [intOf]; omega
      · obtain rfl : k = n := by omega
        have hd := Lib.hid (drop_at s k hlt)
        by_cases h34 : s[k].toNat = 34
        · have h34' := eqb h34
          have HR : Hid (o = some (acc, k + 1)) := by rw [<- show tkAt s.data.toList k acc = o from hg]; exact at_quote hd.out h34
          clear h34
          go_wp2_with (go_at_call 178; refine (taken_any _ (k + 1) (by omega) _ hrow (by omega)).mono ?_; rintro e w1 ⟨he, rfl⟩; unfold TkEnd at he; subst he)
          go_ret3
          exact ⟨by rw [HR.out]; rfl, hbw⟩
        · have h34' := neb h34
          have hx : (s.extract k s.size).data.toList = s.data.toList.drop k := extract_drop s k
          have hxs : (s.extract k s.size).size = s.size - k := by rw [ByteArray.size_extract]; omega
          have hR := rd_any (s.extract k s.size) (by omega) (by omega)
          rw [hx] at hR
          have HR := Lib.hid hR
          have hr1 := rk_le (s.data.toList.drop k)
          rw [List.length_drop, size_len] at hr1
          have hr4 := rk_le4 (s.data.toList.drop k)
          clear hR hx hxs
          by_cases hrk : rk (s.data.toList.drop k) = 0
          · have HN : Hid (o = none) := by rw [<- show tkAt s.data.toList k acc = o from hg]; exact at_bad hd.out h34 hrk
            obtain ⟨q, hq'⟩ : ∃ q, rk (s.data.toList.drop k) = q := ⟨_, rfl⟩
            rw [hq'] at HR hrk hr1 hr4
            subst hrk
            clear hq' h34
            go_wp2_with (go_at_call 179; refine (HR.out _).mono ?_; rintro e w1 ⟨rfl, m, rfl⟩)
            go_ret3
            exact ⟨by rw [HN.out]; rfl, below_drewN hbw m⟩
          · have HS : Going s o (k + rk (s.data.toList.drop k)) (acc ++ [rb (s.data.toList.drop k)]) := by
              unfold Going; rw [<- at_step hd.out h34 hrk]; exact hg
            obtain ⟨q, hq'⟩ : ∃ q, rk (s.data.toList.drop k) = q := ⟨_, rfl⟩
            obtain ⟨b, hb'⟩ : ∃ b, rb (s.data.toList.drop k) = b := ⟨_, rfl⟩
            rw [hq'] at HR hrk hr1 hr4 HS
            rw [hb'] at HR HS
            clear hq' hb' h34
            have hrk' : ((q : Int) == 0) = false := by rw [beq_eq_false_iff_ne]; omega
            go_wp2_with (first | (go_at_call 179; refine (HR.out _).mono ?_; rintro e w1 ⟨rfl, m, rfl⟩) | (at_builtin; refine wpList_app ((hrow.drewN m).alloc _) [b] (heap_alloc_new _ _) (by simp; omega) (by simp; omega) rfl _ _ 1 rfl rfl rfl ?_; intro v1 w1 hr1' hb1))
            go_roundw
            case rel => exact ⟨k + 1, k + q, acc ++ [b], by go_num, by go_num, by omega, by omega, by omega, by simp; omega, hr1', HS, (((below_drewN hbw m).alloc (by simp; omega) _).trans hb1)⟩
            case measure => simp [intOf]; omega
    · have HN : Hid (o = none) := by rw [<- show tkAt s.data.toList n acc = o from hg]; exact at_end (by rw [size_len]; omega)
      go_wp2_with fail
      go_ret3
      exact ⟨by rw [HN.out]; rfl, hbw⟩
theorem is_empty {s : ByteArray} (h : ¬ 0 < s.size) : s = ⟨#[]⟩ := by
  apply ByteArray.ext
  exact Array.eq_empty_of_size_eq_zero (by have : s.data.size = s.size := rfl; omega)
theorem not_empty {s : ByteArray} (h0 : 0 < s.size) : s.toList.isEmpty = false := by
  rw [ByteArray.toList_eq]
  cases hl : s.data.toList with
  | nil => have : s.size = 0 := by rw [<- size_len, hl]; rfl
           omega
  | cons _ _ => rfl
theorem take_any {B : Nat} (s : ByteArray) (hs : s.size <= 140737488353000) (w : World) (hB : B <= w.heap.size) : Calls Tryz.prog 158 #[.string s] w (TkPost (tq s.data.toList) B w) := by
  by_cases h0 : 0 < s.size
  · have hd := drop_at s 0 h0
    rw [List.drop_zero] at hd
    by_cases h34 : s[0].toNat = 34
    · rw [show tq s.data.toList = tkAt s.data.toList 1 [] by rw [hd]; simp only [tq]; rw [if_pos h34]]
      exact take_loop s hs h0 (not_empty h0) (neq' h34) w hB
    · rw [show tq s.data.toList = none by rw [hd]; simp only [tq]; rw [if_neg h34]]
      exact take_not s h0 (not_empty h0) (nne' h34) w
  · obtain rfl := is_empty h0
    exact take_empty w
section
variable {B : Nat} (s : ByteArray) (t : List UInt8) (n : Nat) (x : Int)
  (HT : Hid (∀ w, B <= w.heap.size -> Calls Tryz.prog 158 #[.string s] w fun e w' => e = .returned (.tuple #[.string ⟨t.toArray⟩, .int .i64 (n : Int), .int .i64 x]) /\ Below B w w')) (w : World) (hB : B <= w.heap.size)
include HT hB
end
end Go.Proofs.YtjakeidbajkdcaaGreatDoor.Q
