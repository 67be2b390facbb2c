/- Joined by program: LRSign. -/
import Derived.Test.YtjakeidbajkdcaaGreatDoorG33
import Derived.Deep.QuietTactic
import Derived.BigQuiet
import Derived.Deep.Draws
import Derived.WalkSmall
/- sign, the document's: how many bytes of a sign there are. -/
namespace Go.Proofs.YtjakeidbajkdcaaGreatDoor.L
open Go.RowKit
set_option maxRecDepth 100000 in
abbrev sgs : ByteArray := ⟨#[59, 58, 44, 46, 61, 60, 62, 43, 45, 42, 47, 94, 40, 41, 123, 125, 91, 93, 124, 38]⟩
set_option maxRecDepth 100000 in
def sgB (k : Nat) : UInt8 := sgs.data.toList.getD k 0
set_option maxRecDepth 100000 in
theorem idx_sign : ∀ (k : Nat) (_ : k < 20) (W : World), (Instr.index 9 (.string sgs) (.int .i64 (k : Int))).run Tryz.prog W = .ok (.int .u8 ((sgB k).toNat : Int)) W := by
  intro n hn W
  match n, hn with
  | 0, _ => rfl
  | 1, _ => rfl
  | 2, _ => rfl
  | 3, _ => rfl
  | 4, _ => rfl
  | 5, _ => rfl
  | 6, _ => rfl
  | 7, _ => rfl
  | 8, _ => rfl
  | 9, _ => rfl
  | 10, _ => rfl
  | 11, _ => rfl
  | 12, _ => rfl
  | 13, _ => rfl
  | 14, _ => rfl
  | 15, _ => rfl
  | 16, _ => rfl
  | 17, _ => rfl
  | 18, _ => rfl
  | 19, _ => rfl
  | n + 20, h => omega
set_option maxRecDepth 100000 in
def sgn (k : Nat) (c : UInt8) : Bool := decide (0 ≤ Lib.indexByte (sgs.data.toList.drop k) c)
set_option maxRecDepth 100000 in
theorem sgn_hit {k : Nat} {c : UInt8} (hk : k < 20) (h : sgB k = c) : sgn k c = true := by
  rw [sgn, List.drop_eq_getElem_cons (by exact hk)]
  have e : sgs.data.toList[k]'(by exact hk) = c := by rw [← h, sgB, List.getD_eq_getElem?_getD, List.getElem?_eq_getElem (by exact hk)]; rfl
  rw [e]; simp [Lib.indexByte]
set_option maxRecDepth 100000 in
theorem sgn_miss {k : Nat} {c : UInt8} (hk : k < 20) (h : ¬ sgB k = c) : sgn k c = sgn (k + 1) c := by
  rw [sgn, List.drop_eq_getElem_cons (by exact hk), sgn]
  have e : ¬ sgs.data.toList[k]'(by exact hk) = c := by
    intro h'; apply h; rw [← h', sgB, List.getD_eq_getElem?_getD, List.getElem?_eq_getElem (by exact hk)]; rfl
  generalize sgs.data.toList.drop (k + 1) = r
  have := Lib.indexByte_ge r c
  rw [Lib.indexByte, if_neg (by simpa using e)]
  split
  · rename_i h1; simp at h1; rw [h1]
  · rename_i h1; simp at h1; congr 1; apply propext; omega
set_option maxRecDepth 100000 in
theorem sgn_end (c : UInt8) : sgn 20 c = false := by rw [sgn]; rfl
set_option maxRecDepth 100000 in
set_option maxHeartbeats 1000000 in
theorem rsign_two (s y : ByteArray) (h2 : 2 ≤ s.size) (hy : s.extract 0 2 = y) (b : Bool) (h1 : (y.toList == [45, 62]) = b) (h1' : b = false → (y.toList == [61, 61]) = true) (w : World) :
    Calls Tryz.prog 94 #[.string s] w fun e w' => e = .returned (.int .i64 2) ∧ ∃ n, w' = w.drewN n := by
  cases b with
  | true =>
    clear h1'
    go_enter Tryz.func94, Tryz.ntmps94
    go_wp2
    go_ret
    exact ⟨rfl, 0, rfl⟩
  | false =>
    have h2 := h1' rfl
    clear h1'
    go_enter Tryz.func94, Tryz.ntmps94
    go_wp2
    go_ret
    exact ⟨rfl, 0, rfl⟩
set_option maxRecDepth 100000 in
set_option maxHeartbeats 2000000 in
theorem rsign_loop (s y : ByteArray) (h0 : 0 < s.size) (hy : s.extract 0 2 = y) (b : Bool) (hb : decide ((2 : Int) ≤ (s.size : Int)) = b) (h1 : b = true → (y.toList == [45, 62]) = false) (h1' : b = true → (y.toList == [61, 61]) = false) (n : Int) (HN : Hid (n = if sgn 0 s[0] = true then 1 else 0)) (w : World) :
    Calls Tryz.prog 94 #[.string s] w fun e w' => e = .returned (.int .i64 n) ∧ ∃ n, w' = w.drewN n := by
  cases b with
  | true =>
    have h2 := h1 rfl
    have h2' := h1' rfl
    have h22 : 2 ≤ s.size := by have := of_decide_eq_true hb; omega
    clear h1 h1' hb
    go_enter Tryz.func94, Tryz.ntmps94
    go_wp2
    go_loopw [4] (fun i wr => ∃ k : Nat, k ≤ 20 ∧ i = .int .i64 k ∧ Hid (sgn k s[0] = sgn 0 s[0]) ∧ ∃ m, wr = w.drewN m) (fun i _ => 20 - (intOf i).toNat)
    case atStart => exact ⟨0, by omega, rfl, Lib.hid rfl, 0, rfl⟩
    case round =>
      obtain ⟨k, hk, rfl, HK, m, rfl⟩ := hrel
      by_cases hlt : k < 20
      · obtain ⟨x, hx⟩ : ∃ x, sgB k = x := ⟨_, rfl⟩
        have hi := idx_sign k hlt
        rw [hx] at hi
        by_cases hh : x = s[0]
        · have HN' : Hid (n = 1) := Lib.hid (by rw [HN.out, ← HK.out, sgn_hit hlt (hx.trans hh), if_pos rfl])
          subst hh
          clear hx
          go_wp2
          go_quiet (fail)
          go_wp2
          go_ret
          exact ⟨M.ret_num HN'.out.symm, m + nq, World.drewN_drewN _ _ _⟩
        · have HK' : Hid (sgn (k + 1) s[0] = sgn 0 s[0]) := Lib.hid (by rw [← HK.out, sgn_miss hlt (by rw [hx]; exact hh)])
          have hne : x.toNat ≠ s[0].toNat := fun e => hh (UInt8.toNat_inj.1 e)
          have hq := neb hne
          have hq2 : (x.toNat == s[0].toNat) = false := by simpa using hne
          clear hx hh hne
          go_wp2
          go_quiet (fail)
          go_wp2
          go_roundw
          case rel => exact ⟨k + 1, by omega, by go_num, HK', m + nq, rfl⟩
          case measure => simp [intOf]; omega
      · obtain rfl : k = 20 := by omega
        have HN' : Hid (n = 0) := Lib.hid (by rw [HN.out, ← HK.out, sgn_end]; rfl)
        go_wp2
        go_ret
        exact ⟨M.ret_num HN'.out.symm, _, rfl⟩
  | false =>
    clear h1 h1'
    have h22 : (s.size : Int) < 2 := by have := of_decide_eq_false hb; omega
    clear hb
    go_enter Tryz.func94, Tryz.ntmps94
    go_wp2
    go_loopw [4] (fun i wr => ∃ k : Nat, k ≤ 20 ∧ i = .int .i64 k ∧ Hid (sgn k s[0] = sgn 0 s[0]) ∧ ∃ m, wr = w.drewN m) (fun i _ => 20 - (intOf i).toNat)
    case atStart => exact ⟨0, by omega, rfl, Lib.hid rfl, 0, rfl⟩
    case round =>
      obtain ⟨k, hk, rfl, HK, m, rfl⟩ := hrel
      by_cases hlt : k < 20
      · obtain ⟨x, hx⟩ : ∃ x, sgB k = x := ⟨_, rfl⟩
        have hi := idx_sign k hlt
        rw [hx] at hi
        by_cases hh : x = s[0]
        · have HN' : Hid (n = 1) := Lib.hid (by rw [HN.out, ← HK.out, sgn_hit hlt (hx.trans hh), if_pos rfl])
          subst hh
          clear hx
          go_wp2
          go_quiet (fail)
          go_wp2
          go_ret
          exact ⟨M.ret_num HN'.out.symm, m + nq, World.drewN_drewN _ _ _⟩
        · have HK' : Hid (sgn (k + 1) s[0] = sgn 0 s[0]) := Lib.hid (by rw [← HK.out, sgn_miss hlt (by rw [hx]; exact hh)])
          have hne : x.toNat ≠ s[0].toNat := fun e => hh (UInt8.toNat_inj.1 e)
          have hq := neb hne
          have hq2 : (x.toNat == s[0].toNat) = false := by simpa using hne
          clear hx hh hne
          go_wp2
          go_quiet (fail)
          go_wp2
          go_roundw
          case rel => exact ⟨k + 1, by omega, by go_num, HK', m + nq, rfl⟩
          case measure => simp [intOf]; omega
      · obtain rfl : k = 20 := by omega
        have HN' : Hid (n = 0) := Lib.hid (by rw [HN.out, ← HK.out, sgn_end]; rfl)
        go_wp2
        go_ret
        exact ⟨M.ret_num HN'.out.symm, _, rfl⟩
set_option maxRecDepth 100000 in
theorem two_l (s : ByteArray) : (Lib.hasPrefix s.data.toList [45, 62]) = (decide (2 ≤ s.size) && ((s.extract 0 2).toList == [45, 62])) := by
  have := Lib.hasPrefix_raw s ⟨#[45, 62]⟩
  rw [show (⟨#[45, 62]⟩ : ByteArray).toList = [45, 62] by rw [ByteArray.toList_eq]] at this
  exact this.symm
set_option maxRecDepth 100000 in
theorem two_r (s : ByteArray) : (Lib.hasPrefix s.data.toList [61, 61]) = (decide (2 ≤ s.size) && ((s.extract 0 2).toList == [61, 61])) := by
  have := Lib.hasPrefix_raw s ⟨#[61, 61]⟩
  rw [show (⟨#[61, 61]⟩ : ByteArray).toList = [61, 61] by rw [ByteArray.toList_eq]] at this
  exact this.symm
set_option maxRecDepth 100000 in
theorem rsign_any (s : ByteArray) (h0 : 0 < s.size) (w : World) :
    Calls Tryz.prog 94 #[.string s] w fun e w' => e = .returned (.int .i64 (sg s : Int)) ∧ ∃ n, w' = w.drewN n := by
  obtain ⟨y, hy⟩ : ∃ y, s.extract 0 2 = y := ⟨_, rfl⟩
  have hl := two_l s
  have hr := two_r s
  rw [hy] at hl hr
  by_cases h2 : 2 ≤ s.size
  · rw [decide_eq_true h2, Bool.true_and] at hl hr
    by_cases ht : two s = true
    · have e : sg s = 2 := by rw [sg, if_pos ht]
      rw [e]
      refine rsign_two s y h2 hy _ rfl ?_ w
      intro hf
      rw [two, hl, hf, Bool.false_or, hr] at ht
      exact ht
    · have ht' : two s = false := by simpa using ht
      rw [two, Bool.or_eq_false_iff, hl, hr] at ht'
      have e : ((sg s : Nat) : Int) = if sgn 0 s[0] = true then 1 else 0 := by
        rw [sg, if_neg ht, headD_at h0]
        show (((if sgn 0 s[0] = true then 1 else 0 : Nat)) : Int) = _
        split <;> rfl
      exact rsign_loop s y h0 hy true (decide_eq_true (by omega)) (fun _ => ht'.1) (fun _ => ht'.2) _ (Lib.hid e) w
  · rw [decide_eq_false h2, Bool.false_and] at hl hr
    have ht : ¬ two s = true := by rw [two, hl, hr]; simp
    have e : ((sg s : Nat) : Int) = if sgn 0 s[0] = true then 1 else 0 := by
      rw [sg, if_neg ht, headD_at h0]
      show (((if sgn 0 s[0] = true then 1 else 0 : Nat)) : Int) = _
      split <;> rfl
    exact rsign_loop s y h0 hy false (decide_eq_false (by omega)) (fun h => by cases h) (fun h => by cases h) _ (Lib.hid e) w
set_option maxRecDepth 100000 in
theorem rsign_is {s : ByteArray} {n : Nat} (h : sg s = n) (h0 : 0 < s.size) (w : World) :
    Calls Tryz.prog 94 #[.string s] w fun e w' => e = .returned (.int .i64 (n : Int)) ∧ Below w.heap.size w w' := by
  subst h
  exact (rsign_any s h0 w).mono fun e w' ⟨he, k, hw⟩ => ⟨he, by rw [hw]; exact below_drewN (Below.refl _ _) k⟩
end Go.Proofs.YtjakeidbajkdcaaGreatDoor.L
