/- Joined by program. -/
import Derived.Test.YtjakeidbajkdcaaGreatDoorH21
import Derived.Test.YtjakeidbajkdcaaGreatDoorH07
import Derived.Test.YtjakeidbajkdcaaGreatDoorH23
import Derived.Test.YtjakeidbajkdcaaGreatDoorH04
import Derived.Lib.OthersKept
import Derived.Laws.RangeAny
import Derived.Lib.Bytealg
import Derived.Outline
set_option maxHeartbeats 1000000
namespace Go.Proofs.YtjakeidbajkdcaaGreatDoor.W
open Go.RowKit
def Read (s : ByteArray) (B : Nat) (w : World) (e : Ending) (w' : World) : Prop :=
  e = .returned (.tuple #[.int .i64 (pv s.data.toList), .int .i64 (pe s.data.toList)]) /\ Below B w w'
theorem Read.no {s : ByteArray} {B : Nat} {w w' : World} (h : ∀ m, InR m -> s.data.toList ≠ wtext m) (hb : Below B w w') : Read s B w (.returned (.tuple #[.int .i64 0, .int .i64 5])) w' :=
  ⟨by rw [(pv_no h).1, (pv_no h).2], hb⟩
theorem Read.yes {s : ByteArray} {B : Nat} {w w' : World} {n : Int} (hn : InR n) (h : s.data.toList = wtext n) (hb : Below B w w') : Read s B w (.returned (.tuple #[.int .i64 n, .int .i64 0])) w' :=
  ⟨by rw [h, (pv_yes hn).1, (pv_yes hn).2], hb⟩
theorem wrap_nil : (0 : Int) = wrap64 (dval [] : Int) := by rw [dval_nil]; simp only [wrap64]; omega
theorem wrap_nil_neg : (0 : Int) = wrap64 (-(dval [] : Int)) := by rw [dval_nil]; simp only [wrap64]; omega
theorem parse_plain {B : Nat} (s : ByteArray) (hs : s.size <= 140737488351232) (h0 : 0 < s.size) (hE : s.toList.isEmpty = false) (hT : ((s[0].toNat : Int) == 126) = false) (h126 : Hid (s.data.toList.head? ≠ some 126)) (w : World) (hp : Pow B w) (hB : B <= w.heap.size) :
    Calls Tryz.prog 157 #[.string s] w (Read s B w) := by
  go_enter Tryz.func157, Tryz.ntmps157
  go_wp2
  go_loopw [6] (fun n wr => ∃ k : Nat, k <= s.size /\ n = .int .i64 (wrap64 (dval (s.data.toList.take k))) /\ wr.heap[w.heap.size]? = some (.stringIter s k) /\ Below B w wr) (fun _ wr => s.size - wr.iterPos w.heap.size)
  case atStart =>
    refine ⟨0, by omega, ?_, World.iter_heap w s 0, (Below.refl _ w).alloc hB _⟩
    rw [List.take_zero]
    exact congrArg (Value.int .i64) wrap_nil
  case round =>
    obtain ⟨k, hk, rfl, hit, hbw⟩ := hrel
    have hsz : w.heap.size < wr.heap.size := (Array.getElem?_eq_some_iff.1 hit).1
    by_cases hlt : k < s.size
    · by_cases ha : (s[k]'hlt).toNat < 128
      · have hnx : ∀ ty, (Instr.next (.pointer (some ⟨w.heap.size, 0, none⟩)) true ty).run Tryz.prog wr = _ := fun ty => Lib.run_next_ascii_at wr w.heap.size s k ty hit hlt ha
        by_cases hdig : 48 <= (s[k]'hlt).toNat /\ (s[k]'hlt).toNat <= 57
        · obtain ⟨hd1, hd2⟩ := hdig
          have HV := Lib.hid (dval_take s k hlt hd1)
          go_wp2_with (first | (go_at_call 176; refine (add_any _ _ _).mono ?_; rintro e w' ⟨rfl, rfl⟩) | (go_at_call 177; refine (mul_any _ _ _).mono ?_; rintro e w' ⟨rfl, rfl⟩))
          go_roundw
          case rel =>
            refine ⟨k + 1, by omega, ?_, Lib.iterAt_heap _ _ _ _ _ hit, Lib.below_iterAt hbw (by omega) _ _⟩
            rw [HV.out]
            exact congrArg _ (step_plain _ _)
          case measure =>
            simp only [World.iterPos, Lib.iterAt_heap _ _ _ _ (k + 1) hit, hit]
            omega
        · have HB := Lib.hid (no_plain h126.out (bad_at s k hlt hdig))
          by_cases hlo : (s[k]'hlt).toNat < 48
          · go_wp2
            go_ret2
            exact Read.no HB.out (Lib.below_iterAt hbw (by omega) _ _)
          · have hhi : 57 < (s[k]'hlt).toNat := by omega
            go_wp2
            go_ret2
            exact Read.no HB.out (Lib.below_iterAt hbw (by omega) _ _)
      · have hnx : ∀ ty, (Instr.next (.pointer (some ⟨w.heap.size, 0, none⟩)) true ty).run Tryz.prog wr = _ := fun ty => Lib.run_next_any_at wr w.heap.size s k ty hit hlt
        have hr := (decode_high s k hlt (by omega)).1
        have HB := Lib.hid (no_plain h126.out (bad_at s k hlt (by omega)))
        go_wp2
        go_ret2
        exact Read.no HB.out (Lib.below_iterAt hbw (by omega) _ _)
    · have hnx : ∀ ty, (Instr.next (.pointer (some ⟨w.heap.size, 0, none⟩)) true ty).run Tryz.prog wr = _ := fun ty => Lib.run_next_end_at wr w.heap.size s k ty hit hlt
      have HT := Lib.hid (take_all s hlt)
      have HI := Lib.hid (wrap_in (dval (s.data.toList.take k)))
      have HC := Lib.hid (print_any (B := B) (wrap64 (dval (s.data.toList.take k))) HI.out.1 HI.out.2 wr (hp.on hbw) (by omega))
      by_cases hw : wtext (wrap64 (dval (s.data.toList.take k))) = s.data.toList
      · have HW := Lib.hid hw
        have hq : (!wtext (wrap64 (dval (s.data.toList.take k))) == s.toList) = false := by rw [ByteArray.toList_eq, hw]; simp
        clear hw
        go_wp2_with (go_at_call 64; refine HC.out.mono ?_; rintro e w' ⟨rfl, hb⟩)
        go_ret2
        exact Read.yes HI.out HW.out.symm (hbw.trans hb)
      · have HW := Lib.hid hw
        have hq : (!wtext (wrap64 (dval (s.data.toList.take k))) == s.toList) = true := by rw [ByteArray.toList_eq]; simpa using hw
        clear hw
        go_wp2_with (go_at_call 64; refine HC.out.mono ?_; rintro e w' ⟨rfl, hb⟩)
        go_ret2
        exact Read.no (end_plain h126.out (by have := HW.out; rwa [HT.out] at this)) (hbw.trans hb)
theorem parse_sign {B : Nat} (s : ByteArray) (hs : s.size <= 140737488351232) (h0 : 0 < s.size) (hE : s.toList.isEmpty = false) (hT : ((s[0].toNat : Int) == 126) = true) (h126 : Hid (s.data.toList.head? = some 126)) (t : ByteArray) (hx : s.extract 1 s.size = t) (HTL : Hid (t.data.toList = s.data.toList.tail)) (hts : t.size <= 140737488351232) (w : World) (hp : Pow B w) (hB : B <= w.heap.size) :
    Calls Tryz.prog 157 #[.string s] w (Read s B w) := by
  go_enter Tryz.func157, Tryz.ntmps157
  go_wp2
  go_loopw [6] (fun n wr => ∃ k : Nat, k <= t.size /\ n = .int .i64 (wrap64 (-(dval (t.data.toList.take k) : Int))) /\ wr.heap[w.heap.size]? = some (.stringIter t k) /\ Below B w wr) (fun _ wr => t.size - wr.iterPos w.heap.size)
  case atStart =>
    refine ⟨0, by omega, ?_, World.iter_heap w t 0, (Below.refl _ w).alloc hB _⟩
    rw [List.take_zero]
    exact congrArg (Value.int .i64) wrap_nil_neg
  case round =>
    obtain ⟨k, hk, rfl, hit, hbw⟩ := hrel
    have hsz : w.heap.size < wr.heap.size := (Array.getElem?_eq_some_iff.1 hit).1
    by_cases hlt : k < t.size
    · by_cases ha : (t[k]'hlt).toNat < 128
      · have hnx : ∀ ty, (Instr.next (.pointer (some ⟨w.heap.size, 0, none⟩)) true ty).run Tryz.prog wr = _ := fun ty => Lib.run_next_ascii_at wr w.heap.size t k ty hit hlt ha
        by_cases hdig : 48 <= (t[k]'hlt).toNat /\ (t[k]'hlt).toNat <= 57
        · obtain ⟨hd1, hd2⟩ := hdig
          have HV := Lib.hid (dval_take t k hlt hd1)
          go_wp2_with (first | (go_at_call 176; refine (add_any _ _ _).mono ?_; rintro e w' ⟨rfl, rfl⟩) | (go_at_call 177; refine (mul_any _ _ _).mono ?_; rintro e w' ⟨rfl, rfl⟩))
          go_roundw
          case rel =>
            refine ⟨k + 1, by omega, ?_, Lib.iterAt_heap _ _ _ _ _ hit, Lib.below_iterAt hbw (by omega) _ _⟩
            rw [HV.out]
            exact congrArg _ (step_sign _ _)
          case measure =>
            simp only [World.iterPos, Lib.iterAt_heap _ _ _ _ (k + 1) hit, hit]
            omega
        · have HB := Lib.hid (no_sign h126.out (by rw [<- HTL.out]; exact bad_at t k hlt hdig))
          by_cases hlo : (t[k]'hlt).toNat < 48
          · go_wp2
            go_ret2
            exact Read.no HB.out (Lib.below_iterAt hbw (by omega) _ _)
          · have hhi : 57 < (t[k]'hlt).toNat := by omega
            go_wp2
            go_ret2
            exact Read.no HB.out (Lib.below_iterAt hbw (by omega) _ _)
      · have hnx : ∀ ty, (Instr.next (.pointer (some ⟨w.heap.size, 0, none⟩)) true ty).run Tryz.prog wr = _ := fun ty => Lib.run_next_any_at wr w.heap.size t k ty hit hlt
        have hr := (decode_high t k hlt (by omega)).1
        have HB := Lib.hid (no_sign h126.out (by rw [<- HTL.out]; exact bad_at t k hlt (by omega)))
        go_wp2
        go_ret2
        exact Read.no HB.out (Lib.below_iterAt hbw (by omega) _ _)
    · have hnx : ∀ ty, (Instr.next (.pointer (some ⟨w.heap.size, 0, none⟩)) true ty).run Tryz.prog wr = _ := fun ty => Lib.run_next_end_at wr w.heap.size t k ty hit hlt
      have HT := Lib.hid (take_all t hlt)
      have HI := Lib.hid (wrap_in (-(dval (t.data.toList.take k) : Int)))
      have HC := Lib.hid (print_any (B := B) (wrap64 (-(dval (t.data.toList.take k) : Int))) HI.out.1 HI.out.2 wr (hp.on hbw) (by omega))
      by_cases hw : wtext (wrap64 (-(dval (t.data.toList.take k) : Int))) = s.data.toList
      · have HW := Lib.hid hw
        have hq : (!wtext (wrap64 (-(dval (t.data.toList.take k) : Int))) == s.toList) = false := by rw [ByteArray.toList_eq, hw]; simp
        clear hw
        go_wp2_with (go_at_call 64; refine HC.out.mono ?_; rintro e w' ⟨rfl, hb⟩)
        go_ret2
        exact Read.yes HI.out HW.out.symm (hbw.trans hb)
      · have HW := Lib.hid hw
        have hq : (!wtext (wrap64 (-(dval (t.data.toList.take k) : Int))) == s.toList) = true := by rw [ByteArray.toList_eq]; simpa using hw
        clear hw
        go_wp2_with (go_at_call 64; refine HC.out.mono ?_; rintro e w' ⟨rfl, hb⟩)
        go_ret2
        exact Read.no (end_sign h126.out (by have := HW.out; rwa [HT.out, HTL.out] at this)) (hbw.trans hb)
open Go.RowKit
theorem wtext_zero : wtext 0 = [48] := by rw [wtext, if_neg (by omega), show (0 : Int).natAbs = 0 by rfl, Lib.decDigits_one (by omega)]; rfl
theorem print0 {B : Nat} (w : World) (hp : Pow B w) (hB : B <= w.heap.size) :
    Calls Tryz.prog 64 #[.int .i64 0] w fun e w' => e = .returned (.string ⟨#[48]⟩) /\ Below B w w' := by
  have h := print_any 0 (by omega) (by omega) w hp hB
  rw [wtext_zero] at h
  exact h
theorem parse_empty {B : Nat} (w : World) (hp : Pow B w) (hB : B <= w.heap.size) :
    Calls Tryz.prog 157 #[.string ⟨#[]⟩] w (Read ⟨#[]⟩ B w) := by
  go_enter Tryz.func157, Tryz.ntmps157
  go_wp2
  go_loopw [6] (fun n wr => n = .int .i64 0 /\ wr.heap[w.heap.size]? = some (.stringIter ⟨#[]⟩ 0) /\ Below B w wr) (fun _ _ => 0)
  case atStart => exact ⟨rfl, World.iter_heap w ⟨#[]⟩ 0, (Below.refl _ w).alloc hB _⟩
  case round =>
    obtain ⟨rfl, hit, hbw⟩ := hrel
    have hsz : w.heap.size < wr.heap.size := (Array.getElem?_eq_some_iff.1 hit).1
    have hnx : ∀ ty, (Instr.next (.pointer (some ⟨w.heap.size, 0, none⟩)) true ty).run Tryz.prog wr = _ := fun ty => Lib.run_next_end_at wr w.heap.size ⟨#[]⟩ 0 ty hit (by decide)
    go_wp2_with (go_at_call 64; refine (print0 wr (hp.on hbw) (by omega)).mono ?_; rintro e w' ⟨rfl, hb⟩)
    go_ret2
    exact Read.no no_empty (hbw.trans hb)
theorem tail_of (s : ByteArray) : (s.extract 1 s.size).data.toList = s.data.toList.tail := by
  rw [ByteArray.data_extract]
  cases h : s.data.toList with
  | nil => have e : s.data = #[] := by simpa using h
           simp [e, ByteArray.size]
  | cons c r => have e : s.data = (c :: r).toArray := by rw [<- h]
                simp [e, ByteArray.size]
theorem parse_any {B : Nat} (s : ByteArray) (hs : s.size <= 140737488351232) (w : World) (hp : Pow B w) (hB : B <= w.heap.size) :
    Calls Tryz.prog 157 #[.string s] w (Read s B w) := by
  by_cases h0 : 0 < s.size
  · have hE : s.toList.isEmpty = false := by
      rw [ByteArray.toList_eq]
      cases hl : s.data.toList with
      | nil => have : s.size = 0 := by rw [ByteArray.size, <- Array.length_toList, hl]; rfl
               omega
      | cons _ _ => rfl
    have hh : s.data.toList.head? = some s[0] := by
      rw [List.head?_eq_getElem?]
      have : s.data.toList[0]? = some (s.data[0]'h0) := by simp
      exact this
    by_cases hT : s[0].toNat = 126
    · refine parse_sign s hs h0 hE (by simp [hT]) (Lib.hid ?_) _ rfl (Lib.hid (tail_of s)) ?_ w hp hB
      · rw [hh, show s[0] = (126 : UInt8) from UInt8.toNat_inj.1 (by rw [hT]; rfl)]
      · rw [ByteArray.size_extract]; omega
    · refine parse_plain s hs h0 hE (by simpa using (by omega : ¬ (s[0].toNat : Int) = 126)) (Lib.hid ?_) w hp hB
      rw [hh]
      intro e
      exact hT (by rw [Option.some.inj e]; rfl)
  · have e : s = ⟨#[]⟩ := by
      apply ByteArray.ext
      exact Array.eq_empty_of_size_eq_zero (by have : s.data.size = s.size := rfl; omega)
    subst e
    exact parse_empty w hp hB
open Go.RowKit
def At (t : ByteArray) (k v : Nat) : Prop := AllDig (t.data.toList.take k) /\ v = dval (t.data.toList.take k)
theorem At.all {t : ByteArray} {k v : Nat} (h : At t k v) (hk : ¬ k < t.size) : AllDig t.data.toList /\ v = dval t.data.toList := by
  have := h; unfold At at this; rwa [take_all t hk] at this
end Go.Proofs.YtjakeidbajkdcaaGreatDoor.W
namespace Go.Proofs.YtjakeidbajkdcaaGreatDoor.L
structure R where
  k : Int
  t : ByteArray
  n : Int
  long : Nat
  e : Int
def bad (e : Int) : R := ⟨0, ⟨#[]⟩, 0, 0, e⟩
def dl (s : ByteArray) (k : Nat) : Nat := ((s.data.toList.drop k).takeWhile fun c => M.isD c.toNat).length
def signs : ByteArray := ⟨#[59, 58, 44, 46, 61, 60, 62, 43, 45, 42, 47, 94, 40, 41, 123, 125, 91, 93, 124, 38]⟩
def isSign (c : UInt8) : Bool := decide (0 <= Lib.indexByte signs.data.toList c)
def two (s : ByteArray) : Bool := Lib.hasPrefix s.data.toList [45, 62] || Lib.hasPrefix s.data.toList [61, 61]
def sg (s : ByteArray) : Nat := if two s = true then 2 else if isSign (s.data.toList.headD 0) = true then 1 else 0
def wordR (s : ByteArray) : R := if M.kwB s = true then ⟨1, s, 0, s.size, 0⟩ else if 20 < s.size then bad 7 else if M.begT (M.fst s) = true then ⟨3, s, 0, s.size, 0⟩ else ⟨2, s, 0, s.size, 0⟩
def varR (s : ByteArray) : R :=
  if M.wl (s.extract 1 s.size) = 0 ∨ M.begT (M.fst (s.extract 1 s.size)) = true then bad 5
  else if 20 < M.wl (s.extract 1 s.size) then bad 7 else ⟨6, s.extract 1 (1 + M.wl (s.extract 1 s.size)), 0, 1 + M.wl (s.extract 1 s.size), 0⟩
def numR (t : ByteArray) : R := if W.pe t.data.toList = 0 then ⟨4, ⟨#[]⟩, W.pv t.data.toList, t.size, 0⟩ else bad (W.pe t.data.toList)
def strR (s : ByteArray) : R := if Q.tE (Q.tq s.data.toList) = 0 then ⟨5, ⟨(Q.tT (Q.tq s.data.toList)).toArray⟩, 0, Q.tN (Q.tq s.data.toList), 0⟩ else bad (Q.tE (Q.tq s.data.toList))
def signR (s : ByteArray) : R := if sg s = 0 then bad 5 else ⟨7, s.extract 0 (sg s), 0, sg s, 0⟩
def tok (s : ByteArray) : R :=
  if 0 < M.wl s then wordR (s.extract 0 (M.wl s))
  else if M.fst s = 39 then varR s
  else if M.fst s = 126 ∨ M.isD (M.fst s) = true then numR (s.extract 0 (1 + dl s 1))
  else if M.fst s = 34 then strR s
  else signR s
theorem size_extract (s : ByteArray) (a b : Nat) : (s.extract a b).size = min b s.size - a := by simp
theorem data_extract (s : ByteArray) (a b : Nat) : (s.extract a b).data.toList = (s.data.toList.drop a).take (b - a) := by simp
theorem dl_le (s : ByteArray) (k : Nat) (h : k <= s.size) : k + dl s k <= s.size := by
  have h1 := (List.takeWhile_sublist (fun c : UInt8 => M.isD c.toNat) (l := s.data.toList.drop k)).length_le
  rw [List.length_drop, M.size_len] at h1
  rw [dl]; omega
theorem dl_go {s : ByteArray} {k : Nat} (h : k < s.size) (hg : M.isD s[k].toNat = true) : dl s k = dl s (k + 1) + 1 := by
  rw [dl, M.drop_at s k h, List.takeWhile_cons, if_pos hg, List.length_cons, dl]
theorem dl_stop {s : ByteArray} {k : Nat} (h : k < s.size) (hg : M.isD s[k].toNat = false) : dl s k = 0 := by
  rw [dl, M.drop_at s k h, List.takeWhile_cons, if_neg (by rw [hg]; decide)]; rfl
theorem dl_end {s : ByteArray} {k : Nat} (h : s.size <= k) : dl s k = 0 := by
  rw [dl, List.drop_eq_nil_of_le (by rw [M.size_len]; exact h)]; rfl
open Go.RowKit
def R.val (r : R) (pos : Int) : Value := .agg #[.int .i64 r.k, .string r.t, .int .i64 r.n, .int .i64 pos]
def FP (r : R) (B : Nat) (w : World) (e : Ending) (w' : World) : Prop :=
  e = .returned (.tuple #[r.val 0, .int .i64 r.long, .int .i64 r.e]) /\ Below B w w'
theorem is_of (kind : ByteArray) (c : UInt8) (b : Bool) (h : Hid (decide (0 <= Lib.indexByte kind.data.toList c) = b)) (w : World) :
    Calls Tryz.prog 116 #[.string kind, .int .u8 (c.toNat : Int)] w fun e w' => e = .returned (.bool b) /\ w = w' := by
  have hi := Tryz.strings_IndexByte kind (c.toNat : Int) w
  rw [Int.toNat_natCast, show c.toNat.toUInt8 = c by simp] at hi
  have HI := Lib.hid hi
  clear hi
  go_enter Tryz.func116, Tryz.ntmps116
  go_wp2_with (go_at_call 148; refine HI.out.mono ?_; rintro e w' ⟨rfl, rfl⟩)
  go_ret
  exact ⟨by have := h.out; subst this; rfl, rfl⟩
theorem remark_no (s : ByteArray) (h : Hid (Lib.indexByte s.data.toList 10 = -1)) (w : World) :
    Calls Tryz.prog 117 #[.string s] w fun e w' => e = .returned (.int .i64 s.size) /\ w = w' := by
  have hi := Tryz.strings_IndexByte s 10 w
  rw [show (10 : Int).toNat.toUInt8 = 10 from rfl, h.out] at hi
  have HI := Lib.hid hi
  clear hi
  go_enter Tryz.func117, Tryz.ntmps117
  go_wp2_with (go_at_call 148; refine HI.out.mono ?_; rintro e w' ⟨rfl, rfl⟩)
  go_ret
  exact ⟨rfl, rfl⟩
theorem remark_yes (s : ByteArray) (k : Nat) (h : Hid (Lib.indexByte s.data.toList 10 = k)) (w : World) :
    Calls Tryz.prog 117 #[.string s] w fun e w' => e = .returned (.int .i64 k) /\ w = w' := by
  have hi := Tryz.strings_IndexByte s 10 w
  rw [show (10 : Int).toNat.toUInt8 = 10 from rfl, h.out] at hi
  have HI := Lib.hid hi
  clear hi
  go_enter Tryz.func117, Tryz.ntmps117
  go_wp2_with (go_at_call 148; refine HI.out.mono ?_; rintro e w' ⟨rfl, rfl⟩)
  go_ret
  exact ⟨rfl, rfl⟩
theorem bcell {W w1 : World} (hb : Below W.heap.size W w1) : (∀ b o, b < W.heap.size -> w1.cell? ⟨b, o, none⟩ = W.cell? ⟨b, o, none⟩) /\ (∀ b o, b < W.heap.size -> w1.frozen? ⟨b, o, none⟩ = W.frozen? ⟨b, o, none⟩) :=
  ⟨fun b o h => hb.cell (p := ⟨b, o, none⟩) h, fun b o h => hb.frozen (p := ⟨b, o, none⟩) h⟩
theorem below4 {B : Nat} {w w' : World} {o : Obj} {b : Nat} (hB : B <= w.heap.size) (hb : Below b (w.alloc o) w') (h : b = w.heap.size + 1) (v0 v1 v2 v3 : Value) :
    Below B w ((((w'.setCell ⟨w.heap.size, 0, none⟩ v0).setCell ⟨w.heap.size, 1, none⟩ v1).setCell ⟨w.heap.size, 2, none⟩ v2).setCell ⟨w.heap.size, 3, none⟩ v3) :=
  ((((((Below.refl B w).alloc hB o).trans (hb.mono (by omega))).setCell (p := ⟨w.heap.size, 0, none⟩) hB _).setCell (p := ⟨w.heap.size, 1, none⟩) hB _).setCell (p := ⟨w.heap.size, 2, none⟩) hB _).setCell (p := ⟨w.heap.size, 3, none⟩) hB _
theorem refused_any {B : Nat} (x : Int) (w : World) (hB : B <= w.heap.size) : Calls Tryz.prog 156 #[.int .i64 x] w (FP (bad x) B w) := by
  go_enter Tryz.func156, Tryz.ntmps156
  go_wp2
  exact bodyPost_ret (v := .tuple #[.agg #[.int .i64 0, .string ⟨#[]⟩, .int .i64 0, .int .i64 0], .int .i64 0, .int .i64 x]) (by simp [results, Tryz.results156, go_sem]) rfl ⟨rfl, (Below.refl _ w).alloc hB _⟩
theorem clone_any (s : ByteArray) (hs : s.size <= 281474976710656) (w : World) : Calls Tryz.prog 38 #[.string s] w fun e w' => e = .returned (.string s) /\ Below w.heap.size w w' := by
  have hc := Tryz.stringslite_Clone s w hs
  go_enter Tryz.func38, Tryz.ntmps38
  go_wp2_with (go_at_call 70; refine hc.mono ?_; rintro e w' ⟨rfl, hb⟩)
  go_ret
  exact ⟨rfl, hb⟩
theorem taken_any {B : Nat} (kind : Int) (s : ByteArray) (long : Nat) (hs : s.size <= 281474976710656) (w : World) (hB : B <= w.heap.size) :
    Calls Tryz.prog 153 #[.int .i64 kind, .string s, .int .i64 (long : Int)] w (FP ⟨kind, s, 0, long, 0⟩ B w) := by
  have HC := Lib.hid (clone_any s hs)
  go_enter Tryz.func153, Tryz.ntmps153
  go_wp2_with (go_at_call 38; refine (HC.out _).mono ?_; rintro e w' ⟨rfl, hb⟩; obtain ⟨hc, hf⟩ := bcell hb)
  exact bodyPost_ret (v := .tuple #[.agg #[.int .i64 kind, .string s, .int .i64 0, .int .i64 0], .int .i64 (long : Int), .int .i64 0]) (by simp [results, Tryz.results153, go_sem, hc]) rfl ⟨rfl, below4 hB hb (by simp) _ _ _ _⟩
theorem word_isL {s : ByteArray} {n : Nat} (h : M.wl s = n) (hs : s.size <= 140737488351232) (w : World) :
    Calls Tryz.prog 118 #[.string s] w fun e w' => e = .returned (.int .i64 n) /\ w = w' := M.word_is h (Nat.le_trans hs (by decide)) w
open Go.RowKit
theorem taken_x (kind : Int) (s : ByteArray) (long : Int) (n : Nat) (hn : long = (n : Int)) (hs : s.size <= 281474976710656) (w : World) :
    Calls Tryz.prog 153 #[.int .i64 kind, .string s, .int .i64 long] w fun e w' => e = .returned (.tuple #[.agg #[.int .i64 kind, .string s, .int .i64 0, .int .i64 0], .int .i64 (n : Int), .int .i64 0]) /\ Below w.heap.size w w' := by
  subst hn; exact taken_any kind s n hs w (Nat.le_refl _)
theorem refused_x (x : Int) (w : World) :
    Calls Tryz.prog 156 #[.int .i64 x] w fun e w' => e = .returned (.tuple #[.agg #[.int .i64 0, .string ⟨#[]⟩, .int .i64 0, .int .i64 0], .int .i64 0, .int .i64 x]) /\ Below w.heap.size w w' :=
  refused_any x w (Nat.le_refl _)
theorem name_is {B : Nat} {s : ByteArray} {b : Bool} (h : M.nameB s = b) (hs : s.size <= 140737488351232) (w : World) (hK : Kws B w) :
    Calls Tryz.prog 154 #[.string s] w fun e w' => e = .returned (.bool b) /\ w = w' := by subst h; exact M.name_any s (Nat.le_trans hs (by decide)) w hK
theorem tag_is {s : ByteArray} {b : Bool} (h : M.tagB s = b) (hs : s.size <= 140737488351232) (w : World) :
    Calls Tryz.prog 155 #[.string s] w fun e w' => e = .returned (.bool b) /\ w = w' := by subst h; exact M.tag_any s (Nat.le_trans hs (by decide)) w
theorem word_1 {B : Nat} (s : ByteArray) (hs : s.size <= 140737488351232) (w : World) (hB : B <= w.heap.size) (hK : Kws B w) (h1 : Hid (M.kwB s = true)) :
    Calls Tryz.prog 119 #[.string s] w (FP ⟨1, s, 0, s.size, 0⟩ B w) := by
  go_enter Tryz.func119, Tryz.ntmps119
  go_wp2_with (first | (go_at_call 152; refine (M.keyword_is h1.out _ (hK.on ((Below.refl _ _).alloc hB _))).mono ?_; rintro e w' ⟨rfl, rfl⟩) | (go_at_call 153; refine (taken_x 1 s _ s.size rfl (by omega) _).mono ?_; rintro e w' ⟨rfl, hb⟩; obtain ⟨hc, hf⟩ := bcell hb))
  exact bodyPost_ret (v := .tuple #[.agg #[.int .i64 1, .string s, .int .i64 0, .int .i64 0], .int .i64 (s.size : Int), .int .i64 0]) (by simp [results, Tryz.results119, go_sem, hc]) rfl ⟨rfl, below4 hB hb (by simp) _ _ _ _⟩
theorem word_2 {B : Nat} (s : ByteArray) (hs : s.size <= 140737488351232) (w : World) (hB : B <= w.heap.size) (hK : Kws B w) (h1 : Hid (M.kwB s = false)) (h2 : Hid (M.nameB s = true)) :
    Calls Tryz.prog 119 #[.string s] w (FP ⟨2, s, 0, s.size, 0⟩ B w) := by
  go_enter Tryz.func119, Tryz.ntmps119
  go_wp2_with (first | (go_at_call 152; refine (M.keyword_is h1.out _ (hK.on ((Below.refl _ _).alloc hB _))).mono ?_; rintro e w' ⟨rfl, rfl⟩) | (go_at_call 154; refine (name_is h2.out hs _ (hK.on ((Below.refl _ _).alloc hB _))).mono ?_; rintro e w' ⟨rfl, rfl⟩) | (go_at_call 153; refine (taken_x 2 s _ s.size rfl (by omega) _).mono ?_; rintro e w' ⟨rfl, hb⟩; obtain ⟨hc, hf⟩ := bcell hb))
  exact bodyPost_ret (v := .tuple #[.agg #[.int .i64 2, .string s, .int .i64 0, .int .i64 0], .int .i64 (s.size : Int), .int .i64 0]) (by simp [results, Tryz.results119, go_sem, hc]) rfl ⟨rfl, below4 hB hb (by simp) _ _ _ _⟩
theorem word_3 {B : Nat} (s : ByteArray) (hs : s.size <= 140737488351232) (w : World) (hB : B <= w.heap.size) (hK : Kws B w) (h1 : Hid (M.kwB s = false)) (h2 : Hid (M.nameB s = false)) (h3 : Hid (M.tagB s = true)) :
    Calls Tryz.prog 119 #[.string s] w (FP ⟨3, s, 0, s.size, 0⟩ B w) := by
  go_enter Tryz.func119, Tryz.ntmps119
  go_wp2_with (first | (go_at_call 152; refine (M.keyword_is h1.out _ (hK.on ((Below.refl _ _).alloc hB _))).mono ?_; rintro e w' ⟨rfl, rfl⟩) | (go_at_call 154; refine (name_is h2.out hs _ (hK.on ((Below.refl _ _).alloc hB _))).mono ?_; rintro e w' ⟨rfl, rfl⟩) | (go_at_call 155; refine (tag_is h3.out hs _).mono ?_; rintro e w' ⟨rfl, rfl⟩) | (go_at_call 153; refine (taken_x 3 s _ s.size rfl (by omega) _).mono ?_; rintro e w' ⟨rfl, hb⟩; obtain ⟨hc, hf⟩ := bcell hb))
  exact bodyPost_ret (v := .tuple #[.agg #[.int .i64 3, .string s, .int .i64 0, .int .i64 0], .int .i64 (s.size : Int), .int .i64 0]) (by simp [results, Tryz.results119, go_sem, hc]) rfl ⟨rfl, below4 hB hb (by simp) _ _ _ _⟩
theorem word_4 {B : Nat} (s : ByteArray) (hs : s.size <= 140737488351232) (w : World) (hB : B <= w.heap.size) (hK : Kws B w) (h1 : Hid (M.kwB s = false)) (h2 : Hid (M.nameB s = false)) (h3 : Hid (M.tagB s = false)) :
    Calls Tryz.prog 119 #[.string s] w (FP (bad 7) B w) := by
  go_enter Tryz.func119, Tryz.ntmps119
  go_wp2_with (first | (go_at_call 152; refine (M.keyword_is h1.out _ (hK.on ((Below.refl _ _).alloc hB _))).mono ?_; rintro e w' ⟨rfl, rfl⟩) | (go_at_call 154; refine (name_is h2.out hs _ (hK.on ((Below.refl _ _).alloc hB _))).mono ?_; rintro e w' ⟨rfl, rfl⟩) | (go_at_call 155; refine (tag_is h3.out hs _).mono ?_; rintro e w' ⟨rfl, rfl⟩) | (go_at_call 156; refine (refused_x 7 _).mono ?_; rintro e w' ⟨rfl, hb⟩; obtain ⟨hc, hf⟩ := bcell hb))
  exact bodyPost_ret (v := .tuple #[.agg #[.int .i64 0, .string ⟨#[]⟩, .int .i64 0, .int .i64 0], .int .i64 0, .int .i64 7]) (by simp [results, Tryz.results119, go_sem, hc]) rfl ⟨rfl, below4 hB hb (by simp) _ _ _ _⟩
theorem word_any {B : Nat} (s : ByteArray) (hs : s.size <= 140737488351232) (h0 : 0 < s.size) (hw : M.wl s = s.size) (w : World) (hB : B <= w.heap.size) (hK : Kws B w) :
    Calls Tryz.prog 119 #[.string s] w (FP (wordR s) B w) := by
  by_cases h1 : M.kwB s = true
  · rw [wordR, if_pos h1]; exact word_1 s hs w hB hK (Lib.hid h1)
  · have h1' : M.kwB s = false := by simpa using h1
    have hbeg : (M.begW (M.fst s) || M.begT (M.fst s)) = true := by
      by_cases h : (M.begW (M.fst s) || M.begT (M.fst s)) = true
      · exact h
      · rw [M.wl, if_neg (fun x => h x.2)] at hw; omega
    by_cases h2 : 20 < s.size
    · have hv := M.whole_no20 (s := s) (by omega)
      rw [wordR, if_neg h1, if_pos h2]
      exact word_4 s hs w hB hK (Lib.hid h1') (Lib.hid (by rw [M.nameB, hv]; rfl)) (Lib.hid (by rw [M.tagB, hv]; rfl))
    · have hv : M.wholeB s = true := by simp only [M.wholeB, decide_eq_true_eq]; exact ⟨h0, by omega, hw⟩
      by_cases h3 : M.begT (M.fst s) = true
      · have hnw : M.begW (M.fst s) = false := by
          cases h : M.begW (M.fst s) with
          | false => rfl
          | true => rw [M.begT_not h] at h3; cases h3
        rw [wordR, if_neg h1, if_neg h2, if_pos h3]
        exact word_3 s hs w hB hK (Lib.hid h1') (Lib.hid (by rw [M.nameB, hv, hnw]; rfl)) (Lib.hid (by rw [M.tagB, hv, h3]; rfl))
      · have h3' : M.begT (M.fst s) = false := by simpa using h3
        have hw1 : M.begW (M.fst s) = true := by rw [h3', Bool.or_false] at hbeg; exact hbeg
        rw [wordR, if_neg h1, if_neg h2, if_neg h3]
        exact word_2 s hs w hB hK (Lib.hid h1') (Lib.hid (by rw [M.nameB, hv, hw1, h1']; rfl))
end Go.Proofs.YtjakeidbajkdcaaGreatDoor.L
