/- Joined by program: WParse, WParseAny, WRParse. -/
import Derived.Test.YtjakeidbajkdcaaGreatDoorG20
import Derived.Lib.OthersKept
import Derived.Laws.RangeAny
/- Parse: of a number's text it returns the number and no error, of any other text 0 and the text's error; what lay below is as it was. -/
namespace Go.Proofs.YtjakeidbajkdcaaGreatDoor.W
open Go.RowKit
/-- What is read, as the walk's end asks it. -/
def Read (s : ByteArray) (B : Nat) (w : World) (e : Ending) (w' : World) : Prop :=
  e = .returned (.tuple #[.int .i64 (pv s.data.toList), .int .i64 (pe s.data.toList)]) ∧ Below B w w'
theorem Read.no {s : ByteArray} {B : Nat} {w w' : World} (h : ∀ m, InR m → s.data.toList ≠ wtext m) (hb : Below B w w') : Read s B w (.returned (.tuple #[.int .i64 0, .int .i64 5])) w' :=
  ⟨by rw [(pv_no h).1, (pv_no h).2], hb⟩
theorem Read.yes {s : ByteArray} {B : Nat} {w w' : World} {n : Int} (hn : InR n) (h : s.data.toList = wtext n) (hb : Below B w w') : Read s B w (.returned (.tuple #[.int .i64 n, .int .i64 0])) w' :=
  ⟨by rw [h, (pv_yes hn).1, (pv_yes hn).2], hb⟩
theorem wrap_nil : (0 : Int) = wrap64 (dval [] : Int) := by rw [dval_nil]; simp only [wrap64]; omega
theorem wrap_nil_neg : (0 : Int) = wrap64 (-(dval [] : Int)) := by rw [dval_nil]; simp only [wrap64]; omega
set_option maxHeartbeats 1000000 in
theorem parse_plain {B : Nat} (s : ByteArray) (hs : s.size ≤ 140737488351232) (h0 : 0 < s.size) (hE : s.toList.isEmpty = false) (hT : ((s[0].toNat : Int) == 126) = false) (h126 : Hid (s.data.toList.head? ≠ some 126)) (w : World) (hp : Pow B w) (hB : B ≤ w.heap.size) :
    Calls Tryz.prog 157 #[.string s] w (Read s B w) := by
  go_enter Tryz.func157, Tryz.ntmps157
  go_wp2
  go_loopw [6] (fun n wr => ∃ k : Nat, k ≤ s.size ∧ n = .int .i64 (wrap64 (dval (s.data.toList.take k))) ∧ wr.heap[w.heap.size]? = some (.stringIter s k) ∧ Below B w wr) (fun _ wr => s.size - wr.iterPos w.heap.size)
  case atStart =>
    refine ⟨0, by omega, ?_, World.iter_heap w s 0, (Below.refl _ w).alloc hB _⟩
    rw [List.take_zero]
    exact congrArg (Value.int .i64) wrap_nil
  case round =>
    obtain ⟨k, hk, rfl, hit, hbw⟩ := hrel
    have hsz : w.heap.size < wr.heap.size := (Array.getElem?_eq_some_iff.1 hit).1
    by_cases hlt : k < s.size
    · by_cases ha : (s[k]'hlt).toNat < 128
      · have hnx : ∀ ty, (Instr.next (.pointer (some ⟨w.heap.size, 0, none⟩)) true ty).run Tryz.prog wr = _ := fun ty => Lib.run_next_ascii_at wr w.heap.size s k ty hit hlt ha
        by_cases hdig : 48 ≤ (s[k]'hlt).toNat ∧ (s[k]'hlt).toNat ≤ 57
        · obtain ⟨hd1, hd2⟩ := hdig
          have HV := Lib.hid (dval_take s k hlt hd1)
          go_wp2_with (first
            | (go_at_call 176; refine (add_any _ _ _).mono ?_; rintro e w' ⟨rfl, rfl⟩)
            | (go_at_call 177; refine (mul_any _ _ _).mono ?_; rintro e w' ⟨rfl, rfl⟩))
          go_roundw
          case rel =>
            refine ⟨k + 1, by omega, ?_, Lib.iterAt_heap _ _ _ _ _ hit, Lib.below_iterAt hbw (by omega) _ _⟩
            rw [HV.out]
            exact congrArg _ (step_plain _ _)
          case measure =>
            simp only [World.iterPos, Lib.iterAt_heap _ _ _ _ (k + 1) hit, hit]
            omega
        · have HB := Lib.hid (no_plain h126.out (bad_at s k hlt hdig))
          by_cases hlo : (s[k]'hlt).toNat < 48
          · go_wp2
            go_ret2
            exact Read.no HB.out (Lib.below_iterAt hbw (by omega) _ _)
          · have hhi : 57 < (s[k]'hlt).toNat := by omega
            go_wp2
            go_ret2
            exact Read.no HB.out (Lib.below_iterAt hbw (by omega) _ _)
      · have hnx : ∀ ty, (Instr.next (.pointer (some ⟨w.heap.size, 0, none⟩)) true ty).run Tryz.prog wr = _ := fun ty => Lib.run_next_any_at wr w.heap.size s k ty hit hlt
        have hr := (decode_high s k hlt (by omega)).1
        have HB := Lib.hid (no_plain h126.out (bad_at s k hlt (by omega)))
        go_wp2
        go_ret2
        exact Read.no HB.out (Lib.below_iterAt hbw (by omega) _ _)
    · have hnx : ∀ ty, (Instr.next (.pointer (some ⟨w.heap.size, 0, none⟩)) true ty).run Tryz.prog wr = _ := fun ty => Lib.run_next_end_at wr w.heap.size s k ty hit hlt
      have HT := Lib.hid (take_all s hlt)
      have HI := Lib.hid (wrap_in (dval (s.data.toList.take k)))
      have HC := Lib.hid (print_any (B := B) (wrap64 (dval (s.data.toList.take k))) HI.out.1 HI.out.2 wr (hp.on hbw) (by omega))
      by_cases hw : wtext (wrap64 (dval (s.data.toList.take k))) = s.data.toList
      · have HW := Lib.hid hw
        have hq : (!wtext (wrap64 (dval (s.data.toList.take k))) == s.toList) = false := by rw [ByteArray.toList_eq, hw]; simp
        clear hw
        go_wp2_with (go_at_call 64; refine HC.out.mono ?_; rintro e w' ⟨rfl, hb⟩)
        go_ret2
        exact Read.yes HI.out HW.out.symm (hbw.trans hb)
      · have HW := Lib.hid hw
        have hq : (!wtext (wrap64 (dval (s.data.toList.take k))) == s.toList) = true := by rw [ByteArray.toList_eq]; simpa using hw
        clear hw
        go_wp2_with (go_at_call 64; refine HC.out.mono ?_; rintro e w' ⟨rfl, hb⟩)
        go_ret2
        exact Read.no (end_plain h126.out (by have := HW.out; rwa [HT.out] at this)) (hbw.trans hb)
set_option maxHeartbeats 1000000 in
theorem parse_sign {B : Nat} (s : ByteArray) (hs : s.size ≤ 140737488351232) (h0 : 0 < s.size) (hE : s.toList.isEmpty = false) (hT : ((s[0].toNat : Int) == 126) = true) (h126 : Hid (s.data.toList.head? = some 126)) (t : ByteArray) (hx : s.extract 1 s.size = t) (HTL : Hid (t.data.toList = s.data.toList.tail)) (hts : t.size ≤ 140737488351232) (w : World) (hp : Pow B w) (hB : B ≤ w.heap.size) :
    Calls Tryz.prog 157 #[.string s] w (Read s B w) := by
  go_enter Tryz.func157, Tryz.ntmps157
  go_wp2
  go_loopw [6] (fun n wr => ∃ k : Nat, k ≤ t.size ∧ n = .int .i64 (wrap64 (-(dval (t.data.toList.take k) : Int))) ∧ wr.heap[w.heap.size]? = some (.stringIter t k) ∧ Below B w wr) (fun _ wr => t.size - wr.iterPos w.heap.size)
  case atStart =>
    refine ⟨0, by omega, ?_, World.iter_heap w t 0, (Below.refl _ w).alloc hB _⟩
    rw [List.take_zero]
    exact congrArg (Value.int .i64) wrap_nil_neg
  case round =>
    obtain ⟨k, hk, rfl, hit, hbw⟩ := hrel
    have hsz : w.heap.size < wr.heap.size := (Array.getElem?_eq_some_iff.1 hit).1
    by_cases hlt : k < t.size
    · by_cases ha : (t[k]'hlt).toNat < 128
      · have hnx : ∀ ty, (Instr.next (.pointer (some ⟨w.heap.size, 0, none⟩)) true ty).run Tryz.prog wr = _ := fun ty => Lib.run_next_ascii_at wr w.heap.size t k ty hit hlt ha
        by_cases hdig : 48 ≤ (t[k]'hlt).toNat ∧ (t[k]'hlt).toNat ≤ 57
        · obtain ⟨hd1, hd2⟩ := hdig
          have HV := Lib.hid (dval_take t k hlt hd1)
          go_wp2_with (first
            | (go_at_call 176; refine (add_any _ _ _).mono ?_; rintro e w' ⟨rfl, rfl⟩)
            | (go_at_call 177; refine (mul_any _ _ _).mono ?_; rintro e w' ⟨rfl, rfl⟩))
          go_roundw
          case rel =>
            refine ⟨k + 1, by omega, ?_, Lib.iterAt_heap _ _ _ _ _ hit, Lib.below_iterAt hbw (by omega) _ _⟩
            rw [HV.out]
            exact congrArg _ (step_sign _ _)
          case measure =>
            simp only [World.iterPos, Lib.iterAt_heap _ _ _ _ (k + 1) hit, hit]
            omega
        · have HB := Lib.hid (no_sign h126.out (by rw [← HTL.out]; exact bad_at t k hlt hdig))
          by_cases hlo : (t[k]'hlt).toNat < 48
          · go_wp2
            go_ret2
            exact Read.no HB.out (Lib.below_iterAt hbw (by omega) _ _)
          · have hhi : 57 < (t[k]'hlt).toNat := by omega
            go_wp2
            go_ret2
            exact Read.no HB.out (Lib.below_iterAt hbw (by omega) _ _)
      · have hnx : ∀ ty, (Instr.next (.pointer (some ⟨w.heap.size, 0, none⟩)) true ty).run Tryz.prog wr = _ := fun ty => Lib.run_next_any_at wr w.heap.size t k ty hit hlt
        have hr := (decode_high t k hlt (by omega)).1
        have HB := Lib.hid (no_sign h126.out (by rw [← HTL.out]; exact bad_at t k hlt (by omega)))
        go_wp2
        go_ret2
        exact Read.no HB.out (Lib.below_iterAt hbw (by omega) _ _)
    · have hnx : ∀ ty, (Instr.next (.pointer (some ⟨w.heap.size, 0, none⟩)) true ty).run Tryz.prog wr = _ := fun ty => Lib.run_next_end_at wr w.heap.size t k ty hit hlt
      have HT := Lib.hid (take_all t hlt)
      have HI := Lib.hid (wrap_in (-(dval (t.data.toList.take k) : Int)))
      have HC := Lib.hid (print_any (B := B) (wrap64 (-(dval (t.data.toList.take k) : Int))) HI.out.1 HI.out.2 wr (hp.on hbw) (by omega))
      by_cases hw : wtext (wrap64 (-(dval (t.data.toList.take k) : Int))) = s.data.toList
      · have HW := Lib.hid hw
        have hq : (!wtext (wrap64 (-(dval (t.data.toList.take k) : Int))) == s.toList) = false := by rw [ByteArray.toList_eq, hw]; simp
        clear hw
        go_wp2_with (go_at_call 64; refine HC.out.mono ?_; rintro e w' ⟨rfl, hb⟩)
        go_ret2
        exact Read.yes HI.out HW.out.symm (hbw.trans hb)
      · have HW := Lib.hid hw
        have hq : (!wtext (wrap64 (-(dval (t.data.toList.take k) : Int))) == s.toList) = true := by rw [ByteArray.toList_eq]; simpa using hw
        clear hw
        go_wp2_with (go_at_call 64; refine HC.out.mono ?_; rintro e w' ⟨rfl, hb⟩)
        go_ret2
        exact Read.no (end_sign h126.out (by have := HW.out; rwa [HT.out, HTL.out] at this)) (hbw.trans hb)
end Go.Proofs.YtjakeidbajkdcaaGreatDoor.W
/- Parse at every string: of a number's text the number and no error, of any other text 0 and the text's error. -/
namespace Go.Proofs.YtjakeidbajkdcaaGreatDoor.W
open Go.RowKit
theorem wtext_zero : wtext 0 = [48] := by rw [wtext, if_neg (by omega), show (0 : Int).natAbs = 0 by rfl, Lib.decDigits_one (by omega)]; rfl
theorem print0 {B : Nat} (w : World) (hp : Pow B w) (hB : B ≤ w.heap.size) :
    Calls Tryz.prog 64 #[.int .i64 0] w fun e w' => e = .returned (.string ⟨#[48]⟩) ∧ Below B w w' := by
  have h := print_any 0 (by omega) (by omega) w hp hB
  rw [wtext_zero] at h
  exact h
set_option maxHeartbeats 1000000 in
theorem parse_empty {B : Nat} (w : World) (hp : Pow B w) (hB : B ≤ w.heap.size) :
    Calls Tryz.prog 157 #[.string ⟨#[]⟩] w (Read ⟨#[]⟩ B w) := by
  go_enter Tryz.func157, Tryz.ntmps157
  go_wp2
  go_loopw [6] (fun n wr => n = .int .i64 0 ∧ wr.heap[w.heap.size]? = some (.stringIter ⟨#[]⟩ 0) ∧ Below B w wr) (fun _ _ => 0)
  case atStart => exact ⟨rfl, World.iter_heap w ⟨#[]⟩ 0, (Below.refl _ w).alloc hB _⟩
  case round =>
    obtain ⟨rfl, hit, hbw⟩ := hrel
    have hsz : w.heap.size < wr.heap.size := (Array.getElem?_eq_some_iff.1 hit).1
    have hnx : ∀ ty, (Instr.next (.pointer (some ⟨w.heap.size, 0, none⟩)) true ty).run Tryz.prog wr = _ := fun ty => Lib.run_next_end_at wr w.heap.size ⟨#[]⟩ 0 ty hit (by decide)
    go_wp2_with (go_at_call 64; refine (print0 wr (hp.on hbw) (by omega)).mono ?_; rintro e w' ⟨rfl, hb⟩)
    go_ret2
    exact Read.no no_empty (hbw.trans hb)
theorem tail_of (s : ByteArray) : (s.extract 1 s.size).data.toList = s.data.toList.tail := by
  rw [ByteArray.data_extract]
  cases h : s.data.toList with
  | nil => have e : s.data = #[] := by simpa using h
           simp [e, ByteArray.size]
  | cons c r => have e : s.data = (c :: r).toArray := by rw [← h]
                simp [e, ByteArray.size]
theorem parse_any {B : Nat} (s : ByteArray) (hs : s.size ≤ 140737488351232) (w : World) (hp : Pow B w) (hB : B ≤ w.heap.size) :
    Calls Tryz.prog 157 #[.string s] w (Read s B w) := by
  by_cases h0 : 0 < s.size
  · have hE : s.toList.isEmpty = false := by
      rw [ByteArray.toList_eq]
      cases hl : s.data.toList with
      | nil => have : s.size = 0 := by rw [ByteArray.size, ← Array.length_toList, hl]; rfl
               omega
      | cons _ _ => rfl
    have hh : s.data.toList.head? = some s[0] := by
      rw [List.head?_eq_getElem?]
      have : s.data.toList[0]? = some (s.data[0]'h0) := by simp
      exact this
    by_cases hT : s[0].toNat = 126
    · refine parse_sign s hs h0 hE (by simp [hT]) (Lib.hid ?_) _ rfl (Lib.hid (tail_of s)) ?_ w hp hB
      · rw [hh, show s[0] = (126 : UInt8) from UInt8.toNat_inj.1 (by rw [hT]; rfl)]
      · rw [ByteArray.size_extract]; omega
    · refine parse_plain s hs h0 hE (by simpa using (by omega : ¬ (s[0].toNat : Int) = 126)) (Lib.hid ?_) w hp hB
      rw [hh]
      intro e
      exact hT (by rw [Option.some.inj e]; rfl)
  · have e : s = ⟨#[]⟩ := by
      apply ByteArray.ext
      exact Array.eq_empty_of_size_eq_zero (by have : s.data.size = s.size := rfl; omega)
    subst e
    exact parse_empty w hp hB
end Go.Proofs.YtjakeidbajkdcaaGreatDoor.W
/- The document's own reading, way by way: of a number's text the number and no error, of any other text 0 and the text's error; the world is as it was. -/
namespace Go.Proofs.YtjakeidbajkdcaaGreatDoor.W
open Go.RowKit
/-- What stands at the head of a round: v is what the first k digits are worth. -/
def At (t : ByteArray) (k v : Nat) : Prop := AllDig (t.data.toList.take k) ∧ v = dval (t.data.toList.take k)
theorem At.all {t : ByteArray} {k v : Nat} (h : At t k v) (hk : ¬ k < t.size) : AllDig t.data.toList ∧ v = dval t.data.toList := by
  have := h; unfold At at this; rwa [take_all t hk] at this
end Go.Proofs.YtjakeidbajkdcaaGreatDoor.W
