/- The program's Take: of every text it returns what is read of it, or the error; what lay below is as it was. -/
import Derived.Test.YtekbfgjlkmldgaaDoorQRead
import Derived.Test.YtekbfgjlkmldgaaDoorQCases
namespace Go.Proofs.YtekbfgjlkmldgaaDoor.Q
open Go.RowKit
/-- What Take returns, of what is read. -/
def TkEnd (o : Option (List UInt8 × Nat)) (e : Ending) : Prop := e = .returned (.tuple #[.string ⟨(tT o).toArray⟩, .int .i64 (tN o : Int), .int .i64 (tE o)])
def TkPost (o : Option (List UInt8 × Nat)) (B : Nat) (w : World) (e : Ending) (w' : World) : Prop := TkEnd o e ∧ Below B w w'
theorem taken_long {B : Nat} {v : Value} {l : List UInt8} (n : Nat) (w : World) (hrow : Row B w v l) (h : 200 < l.length) (hl : l.length ≤ 140737488355328) :
    Calls Tryd.prog 57 #[v, .int .i64 (n : Int)] w fun e w' => TkEnd (some (l, n)) e ∧ w = w' := by
  obtain ⟨A, c, rfl⟩ := hrow.form
  have H : Hid (tT (some (l, n)) = [] ∧ tN (some (l, n)) = 0 ∧ tE (some (l, n)) = 7) := by
    refine ⟨?_, ?_, ?_⟩
    · rw [tT]; simp [h]
    · rw [tN]; simp [h]
    · rw [tE]; simp [h]
  unfold TkEnd
  rw [H.out.1, H.out.2.1, H.out.2.2]
  go_enter Tryd.func57, Tryd.ntmps57
  go_wp2
  go_ret3
  exact ⟨rfl, rfl⟩
theorem taken_good {B : Nat} {v : Value} {l : List UInt8} (n : Nat) (w : World) (hrow : Row B w v l) (h : l.length ≤ 200) :
    Calls Tryd.prog 57 #[v, .int .i64 (n : Int)] w fun e w' => TkEnd (some (l, n)) e ∧ w = w' := by
  have hcv := hrow.conv
  obtain ⟨A, c, rfl⟩ := hrow.form
  have H : Hid (tT (some (l, n)) = l ∧ tN (some (l, n)) = n ∧ tE (some (l, n)) = 0) := by
    have h' : ¬ 200 < l.length := by omega
    refine ⟨?_, ?_, ?_⟩
    · rw [tT]; simp [h']
    · rw [tN]; simp [h']
    · rw [tE]; simp [h']
  unfold TkEnd
  rw [H.out.1, H.out.2.1, H.out.2.2]
  go_enter Tryd.func57, Tryd.ntmps57
  go_wp2
  go_ret3
  exact ⟨rfl, rfl⟩
theorem taken_any {B : Nat} {v : Value} {l : List UInt8} (n : Int) (m : Nat) (hn : n = (m : Int)) (w : World) (hrow : Row B w v l) (hl : l.length ≤ 140737488355328) :
    Calls Tryd.prog 57 #[v, .int .i64 n] w fun e w' => TkEnd (some (l, m)) e ∧ w = w' := by
  subst hn
  by_cases h : l.length ≤ 200
  · exact taken_good m w hrow h
  · exact taken_long m w hrow (by omega) hl
set_option maxHeartbeats 1000000 in
theorem take_empty {B : Nat} (w : World) : Calls Tryd.prog 49 #[.string ⟨#[]⟩] w (TkPost none B w) := by
  go_enter Tryd.func49, Tryd.ntmps49
  go_wp2
  go_ret3
  exact ⟨rfl, Below.refl _ _⟩
set_option maxHeartbeats 1000000 in
theorem take_not {B : Nat} (s : ByteArray) (h0 : 0 < s.size) (hE : s.toList.isEmpty = false) (hq : ((s[0].toNat : Int) != 34) = true) (w : World) : Calls Tryd.prog 49 #[.string s] w (TkPost none B w) := by
  go_enter Tryd.func49, Tryd.ntmps49
  go_wp2
  go_ret3
  exact ⟨rfl, Below.refl _ _⟩
set_option maxHeartbeats 2000000 in
theorem take_loop {B : Nat} (s : ByteArray) (hs : s.size ≤ 140737488353000) (h0 : 0 < s.size) (hE : s.toList.isEmpty = false) (hq : ((s[0].toNat : Int) != 34) = false) (w : World) (hB : B ≤ w.heap.size) :
    Calls Tryd.prog 49 #[.string s] w (TkPost (tkAt s.data.toList 1 []) B w) := by
  obtain ⟨o, ho⟩ : ∃ o, tkAt s.data.toList 1 [] = o := ⟨_, rfl⟩
  have HO : Going s o 1 [] := ho
  rw [ho]
  clear ho
  go_enter Tryd.func49, Tryd.ntmps49
  go_wp2
  go_loopw [5, 6, 19] (fun v nx i wr => ∃ (k n : Nat) (acc : List UInt8), i = .int .i64 k ∧ nx = .int .i64 n ∧ k ≤ s.size ∧ k ≤ n ∧ n ≤ s.size ∧ acc.length ≤ n ∧ Row B wr v acc ∧ Going s o n acc ∧ Below B w wr) (fun _ _ i _ => s.size - (intOf i).toNat)
  case atStart => exact ⟨0, 1, [], rfl, rfl, Nat.zero_le _, by omega, by omega, by simp, Row.nil _ _, HO, Below.refl _ _⟩
  case round =>
    obtain ⟨k, n, acc, rfl, rfl, hk, hkn, hn, hacc, hrow, hg, hbw⟩ := hrel
    have hz := hbw.size
    by_cases hlt : k < s.size
    · by_cases hnx : k < n
      · go_wp2_with fail
        go_roundw
        case rel => exact ⟨k + 1, n, acc, by go_num, rfl, by omega, by omega, hn, hacc, hrow, hg, hbw⟩
        case measure => simp [intOf]; omega
      · obtain rfl : k = n := by omega
        have hd := Lib.hid (drop_at s k hlt)
        by_cases h34 : s[k].toNat = 34
        · have h34' := eqb h34
          have HR : Hid (o = some (acc, k + 1)) := by rw [← show tkAt s.data.toList k acc = o from hg]; exact at_quote hd.out h34
          clear h34
          go_wp2_with (go_at_call 57; refine (taken_any _ (k + 1) (by omega) _ hrow (by omega)).mono ?_; rintro e w1 ⟨he, rfl⟩; unfold TkEnd at he; subst he)
          go_ret3
          exact ⟨by rw [HR.out]; rfl, hbw⟩
        · have h34' := neb h34
          have hx : (s.extract k s.size).data.toList = s.data.toList.drop k := extract_drop s k
          have hxs : (s.extract k s.size).size = s.size - k := by rw [ByteArray.size_extract]; omega
          have hR := rd_any (s.extract k s.size) (by omega) (by omega)
          rw [hx] at hR
          have HR := Lib.hid hR
          have hr1 := rk_le (s.data.toList.drop k)
          rw [List.length_drop, size_len] at hr1
          have hr4 := rk_le4 (s.data.toList.drop k)
          clear hR hx hxs
          by_cases hrk : rk (s.data.toList.drop k) = 0
          · have HN : Hid (o = none) := by rw [← show tkAt s.data.toList k acc = o from hg]; exact at_bad hd.out h34 hrk
            obtain ⟨q, hq'⟩ : ∃ q, rk (s.data.toList.drop k) = q := ⟨_, rfl⟩
            rw [hq'] at HR hrk hr1 hr4
            subst hrk
            clear hq' h34
            go_wp2_with (go_at_call 58; refine (HR.out _).mono ?_; rintro e w1 ⟨rfl, m, rfl⟩)
            go_ret3
            exact ⟨by rw [HN.out]; rfl, below_drewN hbw m⟩
          · have HS : Going s o (k + rk (s.data.toList.drop k)) (acc ++ [rb (s.data.toList.drop k)]) := by
              unfold Going; rw [← at_step hd.out h34 hrk]; exact hg
            obtain ⟨q, hq'⟩ : ∃ q, rk (s.data.toList.drop k) = q := ⟨_, rfl⟩
            obtain ⟨b, hb'⟩ : ∃ b, rb (s.data.toList.drop k) = b := ⟨_, rfl⟩
            rw [hq'] at HR hrk hr1 hr4 HS
            rw [hb'] at HR HS
            clear hq' hb' h34
            have hrk' : ((q : Int) == 0) = false := by rw [beq_eq_false_iff_ne]; omega
            go_wp2_with (first
              | (go_at_call 58; refine (HR.out _).mono ?_; rintro e w1 ⟨rfl, m, rfl⟩)
              | (at_builtin; refine wpList_app ((hrow.drewN m).alloc _) [b] (heap_alloc_new _ _) (by simp; omega) (by simp; omega) rfl _ _ 1 rfl rfl rfl ?_; intro v1 w1 hr1' hb1))
            go_roundw
            case rel => exact ⟨k + 1, k + q, acc ++ [b], by go_num, by go_num, by omega, by omega, by omega, by simp; omega, hr1', HS, (((below_drewN hbw m).alloc (by simp; omega) _).trans hb1)⟩
            case measure => simp [intOf]; omega
    · have HN : Hid (o = none) := by rw [← show tkAt s.data.toList n acc = o from hg]; exact at_end (by rw [size_len]; omega)
      go_wp2_with fail
      go_ret3
      exact ⟨by rw [HN.out]; rfl, hbw⟩
theorem is_empty {s : ByteArray} (h : ¬ 0 < s.size) : s = ⟨#[]⟩ := by
  apply ByteArray.ext
  exact Array.eq_empty_of_size_eq_zero (by have : s.data.size = s.size := rfl; omega)
theorem not_empty {s : ByteArray} (h0 : 0 < s.size) : s.toList.isEmpty = false := by
  rw [ByteArray.toList_eq]
  cases hl : s.data.toList with
  | nil => have : s.size = 0 := by rw [← size_len, hl]; rfl
           omega
  | cons _ _ => rfl
theorem take_any {B : Nat} (s : ByteArray) (hs : s.size ≤ 140737488353000) (w : World) (hB : B ≤ w.heap.size) : Calls Tryd.prog 49 #[.string s] w (TkPost (tq s.data.toList) B w) := by
  by_cases h0 : 0 < s.size
  · have hd := drop_at s 0 h0
    rw [List.drop_zero] at hd
    by_cases h34 : s[0].toNat = 34
    · rw [show tq s.data.toList = tkAt s.data.toList 1 [] by rw [hd]; simp only [tq]; rw [if_pos h34]]
      exact take_loop s hs h0 (not_empty h0) (neq' h34) w hB
    · rw [show tq s.data.toList = none by rw [hd]; simp only [tq]; rw [if_neg h34]]
      exact take_not s h0 (not_empty h0) (nne' h34) w
  · obtain rfl := is_empty h0
    exact take_empty w
/-- What Parse returns: the text and the error. -/
def pT (l : List UInt8) : List UInt8 := if tE (tq l) = 0 ∧ ¬ tN (tq l) < l.length then tT (tq l) else []
def pE (l : List UInt8) : Int := if tE (tq l) = 0 then if tN (tq l) < l.length then 5 else 0 else tE (tq l)
section
variable {B : Nat} (s : ByteArray) (t : List UInt8) (n : Nat) (x : Int)
  (HT : Hid (∀ w, B ≤ w.heap.size → Calls Tryd.prog 49 #[.string s] w fun e w' => e = .returned (.tuple #[.string ⟨t.toArray⟩, .int .i64 (n : Int), .int .i64 x]) ∧ Below B w w')) (w : World) (hB : B ≤ w.heap.size)
include HT hB
end
end Go.Proofs.YtekbfgjlkmldgaaDoor.Q
