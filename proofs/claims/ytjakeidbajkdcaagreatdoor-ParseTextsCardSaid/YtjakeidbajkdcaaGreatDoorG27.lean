/- Joined by program. -/
import Derived.Test.YtjakeidbajkdcaaGreatDoorG23
import Derived.Lib.OthersKept
import Derived.Laws.RangeAny
set_option maxHeartbeats 1000000
namespace Go.Proofs.YtjakeidbajkdcaaGreatDoor.W
open Go.RowKit
def Read (s : ByteArray) (B : Nat) (w : World) (e : Ending) (w' : World) : Prop :=
 e = .returned (.tuple #[.int .i64 (pv s.data.toList), .int .i64 (pe s.data.toList)]) /\ Below B w w'
theorem Read.no {s : ByteArray} {B : Nat} {w w' : World} (h : ∀ m, InR m -> s.data.toList ≠ wtext m) (hb : Below B w w') : Read s B w (.returned (.tuple #[.int .i64 0, .int .i64 5])) w' :=
 ⟨by rw [(z00 h).1, (z00 h).2], hb⟩
theorem Read.yes {s : ByteArray} {B : Nat} {w w' : World} {n : Int} (hn : InR n) (h : s.data.toList = wtext n) (hb : Below B w w') : Read s B w (.returned (.tuple #[.int .i64 n, .int .i64 0])) w' :=
 ⟨by rw [h, (zt8 hn).1, (zt8 hn).2], hb⟩
theorem zq2 : (0 : Int) = wrap64 (dval [] : Int) := by rw [zeq]; simp only [wrap64]; omega
theorem zjj : (0 : Int) = wrap64 (-(dval [] : Int)) := by rw [zeq]; simp only [wrap64]; omega
theorem zjw {B : Nat} (s : ByteArray) (hs : s.size <= 140737488351232) (h0 : 0 < s.size) (hE : s.toList.isEmpty = false) (hT : ((s[0].toNat : Int) == 126) = false) (h126 : Hid (s.data.toList.head? ≠ some 126)) (w : World) (hp : Pow B w) (hB : B <= w.heap.size) :
  Calls Tryz.prog 157 #[.string s] w (Read s B w) := by
 go_enter Tryz.func157, Tryz.ntmps157
 go_wp2
 go_loopw [6] (fun n wr => ∃ k : Nat, k <= s.size /\ n = .int .i64 (wrap64 (dval (s.data.toList.take k))) /\ wr.heap[w.heap.size]? = some (.stringIter s k) /\ Below B w wr) (fun _ wr => s.size - wr.iterPos w.heap.size)
 case atStart =>
  refine ⟨0, by omega, ?_, World.iter_heap w s 0, (br _ w).alloc hB _⟩
  rw [List.take_zero]
  exact congrArg (Value.int .i64) zq2
 case round =>
  obtain ⟨k, hk, rfl, hit, hbw⟩ := hrel
  have hsz : w.heap.size < wr.heap.size := (age.1 hit).1
  by_cases hlt : k < s.size
  ·by_cases ha : (s[k]'hlt).toNat < 128
   ·have hnx : ∀ ty, (Instr.next (.pointer (some ⟨w.heap.size, 0, none⟩)) true ty).run Tryz.prog wr = _ := fun ty => Lib.run_next_ascii_at wr w.heap.size s k ty hit hlt ha
    by_cases hdig : 48 <= (s[k]'hlt).toNat /\ (s[k]'hlt).toNat <= 57
    ·obtain ⟨hd1, hd2⟩ := hdig
     have HV := jj (zi5 s k hlt hd1)
     go_wp2_with (first | (go_at_call 176; refine (zbp _ _ _).mono ?_; rintro e w' ⟨rfl, rfl⟩) | (go_at_call 177; refine (zoe _ _ _).mono ?_; rintro e w' ⟨rfl, rfl⟩))
     go_roundw
     case rel =>
      refine ⟨k + 1, by omega, ?_, Lib.iterAt_heap _ _ _ _ _ hit, Lib.below_iterAt hbw (by omega) _ _⟩
      rw [HV.out]
      exact congrArg _ (zl6 _ _)
     case measure =>
      simp only [World.iterPos, Lib.iterAt_heap _ _ _ _ (k + 1) hit, hit]
      omega
    ·have HB := jj (zfx h126.out (zfj s k hlt hdig))
     by_cases hlo : (s[k]'hlt).toNat < 48
     ·go_wp2
      go_ret2
      exact Read.no HB.out (Lib.below_iterAt hbw (by omega) _ _)
     ·have hhi : 57 < (s[k]'hlt).toNat := by omega
      go_wp2
      go_ret2
      exact Read.no HB.out (Lib.below_iterAt hbw (by omega) _ _)
   ·have hnx : ∀ ty, (Instr.next (.pointer (some ⟨w.heap.size, 0, none⟩)) true ty).run Tryz.prog wr = _ := fun ty => Lib.run_next_any_at wr w.heap.size s k ty hit hlt
    have hr := (decode_high s k hlt (by omega)).1
    have HB := jj (zfx h126.out (zfj s k hlt (by omega)))
    go_wp2
    go_ret2
    exact Read.no HB.out (Lib.below_iterAt hbw (by omega) _ _)
  ·have hnx : ∀ ty, (Instr.next (.pointer (some ⟨w.heap.size, 0, none⟩)) true ty).run Tryz.prog wr = _ := fun ty => Lib.run_next_end_at wr w.heap.size s k ty hit hlt
   have HT := jj (zid s hlt)
   have HI := jj (zpa (dval (s.data.toList.take k)))
   have HC := jj (zen (B := B) (wrap64 (dval (s.data.toList.take k))) HI.out.1 HI.out.2 wr (hp.on hbw) (by omega))
   by_cases hw : wtext (wrap64 (dval (s.data.toList.take k))) = s.data.toList
   ·have HW := jj hw
    have hq : (!wtext (wrap64 (dval (s.data.toList.take k))) == s.toList) = false := by rw [ByteArray.toList_eq, hw]; simp
    clear hw
    go_wp2_with (go_at_call 64; refine HC.out.mono ?_; rintro e w' ⟨rfl, hb⟩)
    go_ret2
    exact Read.yes HI.out HW.out.symm (hbw.trans hb)
   ·have HW := jj hw
    have hq : (!wtext (wrap64 (dval (s.data.toList.take k))) == s.toList) = true := by rw [ByteArray.toList_eq]; simpa using hw
    clear hw
    go_wp2_with (go_at_call 64; refine HC.out.mono ?_; rintro e w' ⟨rfl, hb⟩)
    go_ret2
    exact Read.no (znd h126.out (by have := HW.out; rwa [HT.out] at this)) (hbw.trans hb)
theorem zl3 {B : Nat} (s : ByteArray) (hs : s.size <= 140737488351232) (h0 : 0 < s.size) (hE : s.toList.isEmpty = false) (hT : ((s[0].toNat : Int) == 126) = true) (h126 : Hid (s.data.toList.head? = some 126)) (t : ByteArray) (hx : s.extract 1 s.size = t) (HTL : Hid (t.data.toList = s.data.toList.tail)) (hts : t.size <= 140737488351232) (w : World) (hp : Pow B w) (hB : B <= w.heap.size) :
  Calls Tryz.prog 157 #[.string s] w (Read s B w) := by
 go_enter Tryz.func157, Tryz.ntmps157
 go_wp2
 go_loopw [6] (fun n wr => ∃ k : Nat, k <= t.size /\ n = .int .i64 (wrap64 (-(dval (t.data.toList.take k) : Int))) /\ wr.heap[w.heap.size]? = some (.stringIter t k) /\ Below B w wr) (fun _ wr => t.size - wr.iterPos w.heap.size)
 case atStart =>
  refine ⟨0, by omega, ?_, World.iter_heap w t 0, (br _ w).alloc hB _⟩
  rw [List.take_zero]
  exact congrArg (Value.int .i64) zjj
 case round =>
  obtain ⟨k, hk, rfl, hit, hbw⟩ := hrel
  have hsz : w.heap.size < wr.heap.size := (age.1 hit).1
  by_cases hlt : k < t.size
  ·by_cases ha : (t[k]'hlt).toNat < 128
   ·have hnx : ∀ ty, (Instr.next (.pointer (some ⟨w.heap.size, 0, none⟩)) true ty).run Tryz.prog wr = _ := fun ty => Lib.run_next_ascii_at wr w.heap.size t k ty hit hlt ha
    by_cases hdig : 48 <= (t[k]'hlt).toNat /\ (t[k]'hlt).toNat <= 57
    ·obtain ⟨hd1, hd2⟩ := hdig
     have HV := jj (zi5 t k hlt hd1)
     go_wp2_with (first | (go_at_call 176; refine (zbp _ _ _).mono ?_; rintro e w' ⟨rfl, rfl⟩) | (go_at_call 177; refine (zoe _ _ _).mono ?_; rintro e w' ⟨rfl, rfl⟩))
     go_roundw
     case rel =>
      refine ⟨k + 1, by omega, ?_, Lib.iterAt_heap _ _ _ _ _ hit, Lib.below_iterAt hbw (by omega) _ _⟩
      rw [HV.out]
      exact congrArg _ (znx _ _)
     case measure =>
      simp only [World.iterPos, Lib.iterAt_heap _ _ _ _ (k + 1) hit, hit]
      omega
    ·have HB := jj (zhw h126.out (by rw [<- HTL.out]; exact zfj t k hlt hdig))
     by_cases hlo : (t[k]'hlt).toNat < 48
     ·go_wp2
      go_ret2
      exact Read.no HB.out (Lib.below_iterAt hbw (by omega) _ _)
     ·have hhi : 57 < (t[k]'hlt).toNat := by omega
      go_wp2
      go_ret2
      exact Read.no HB.out (Lib.below_iterAt hbw (by omega) _ _)
   ·have hnx : ∀ ty, (Instr.next (.pointer (some ⟨w.heap.size, 0, none⟩)) true ty).run Tryz.prog wr = _ := fun ty => Lib.run_next_any_at wr w.heap.size t k ty hit hlt
    have hr := (decode_high t k hlt (by omega)).1
    have HB := jj (zhw h126.out (by rw [<- HTL.out]; exact zfj t k hlt (by omega)))
    go_wp2
    go_ret2
    exact Read.no HB.out (Lib.below_iterAt hbw (by omega) _ _)
  ·have hnx : ∀ ty, (Instr.next (.pointer (some ⟨w.heap.size, 0, none⟩)) true ty).run Tryz.prog wr = _ := fun ty => Lib.run_next_end_at wr w.heap.size t k ty hit hlt
   have HT := jj (zid t hlt)
   have HI := jj (zpa (-(dval (t.data.toList.take k) : Int)))
   have HC := jj (zen (B := B) (wrap64 (-(dval (t.data.toList.take k) : Int))) HI.out.1 HI.out.2 wr (hp.on hbw) (by omega))
   by_cases hw : wtext (wrap64 (-(dval (t.data.toList.take k) : Int))) = s.data.toList
   ·have HW := jj hw
    have hq : (!wtext (wrap64 (-(dval (t.data.toList.take k) : Int))) == s.toList) = false := by rw [ByteArray.toList_eq, hw]; simp
    clear hw
    go_wp2_with (go_at_call 64; refine HC.out.mono ?_; rintro e w' ⟨rfl, hb⟩)
    go_ret2
    exact Read.yes HI.out HW.out.symm (hbw.trans hb)
   ·have HW := jj hw
    have hq : (!wtext (wrap64 (-(dval (t.data.toList.take k) : Int))) == s.toList) = true := by rw [ByteArray.toList_eq]; simpa using hw
    clear hw
    go_wp2_with (go_at_call 64; refine HC.out.mono ?_; rintro e w' ⟨rfl, hb⟩)
    go_ret2
    exact Read.no (zrm h126.out (by have := HW.out; rwa [HT.out, HTL.out] at this)) (hbw.trans hb)
open Go.RowKit
theorem zmj : wtext 0 = [48] := by rw [wtext, if_neg (by omega), show (0 : Int).natAbs = 0 by rfl, Lib.decDigits_one (by omega)]; rfl
theorem print0 {B : Nat} (w : World) (hp : Pow B w) (hB : B <= w.heap.size) :
  Calls Tryz.prog 64 #[.int .i64 0] w fun e w' => e = .returned (.string ⟨#[48]⟩) /\ Below B w w' := by
 have h := zen 0 (by omega) (by omega) w hp hB
 rw [zmj] at h
 exact h
theorem zj3 {B : Nat} (w : World) (hp : Pow B w) (hB : B <= w.heap.size) :
  Calls Tryz.prog 157 #[.string ⟨#[]⟩] w (Read ⟨#[]⟩ B w) := by
 go_enter Tryz.func157, Tryz.ntmps157
 go_wp2
 go_loopw [6] (fun n wr => n = .int .i64 0 /\ wr.heap[w.heap.size]? = some (.stringIter ⟨#[]⟩ 0) /\ Below B w wr) (fun _ _ => 0)
 case atStart => exact ⟨rfl, World.iter_heap w ⟨#[]⟩ 0, (br _ w).alloc hB _⟩
 case round =>
  obtain ⟨rfl, hit, hbw⟩ := hrel
  have hsz : w.heap.size < wr.heap.size := (age.1 hit).1
  have hnx : ∀ ty, (Instr.next (.pointer (some ⟨w.heap.size, 0, none⟩)) true ty).run Tryz.prog wr = _ := fun ty => Lib.run_next_end_at wr w.heap.size ⟨#[]⟩ 0 ty hit (by decide)
  go_wp2_with (go_at_call 64; refine (print0 wr (hp.on hbw) (by omega)).mono ?_; rintro e w' ⟨rfl, hb⟩)
  go_ret2
  exact Read.no zk6 (hbw.trans hb)
theorem znt (s : ByteArray) : (s.extract 1 s.size).data.toList = s.data.toList.tail := by
 rw [ByteArray.data_extract]
 cases h : s.data.toList with
 | nil =>
  have e : s.data = #[] := by simpa using h
  simp [e, ByteArray.size]
 | cons c r =>
  have e : s.data = (c :: r).toArray := by rw [<- h]
  simp [e, ByteArray.size]
theorem zd1 {B : Nat} (s : ByteArray) (hs : s.size <= 140737488351232) (w : World) (hp : Pow B w) (hB : B <= w.heap.size) :
  Calls Tryz.prog 157 #[.string s] w (Read s B w) := by
 by_cases h0 : 0 < s.size
 ·have hE : s.toList.isEmpty = false := by
   rw [ByteArray.toList_eq]
   cases hl : s.data.toList with
   | nil =>
    have : s.size = 0 := by rw [ByteArray.size, <- Array.length_toList, hl]; rfl
    omega
   | cons _ _ => rfl
  have hh : s.data.toList.head? = some s[0] := by
   rw [List.head?_eq_getElem?]
   have : s.data.toList[0]? = some (s.data[0]'h0) := by simp
   exact this
  by_cases hT : s[0].toNat = 126
  ·refine zl3 s hs h0 hE (by simp [hT]) (jj ?_) _ rfl (jj (znt s)) ?_ w hp hB
   ·rw [hh, show s[0] = (126 : UInt8) from UInt8.toNat_inj.1 (by rw [hT]; rfl)]
   ·rw [ByteArray.size_extract]; omega
  ·refine zjw s hs h0 hE (by simpa using (by omega : ¬ (s[0].toNat : Int) = 126)) (jj ?_) w hp hB
   rw [hh]
   intro e
   exact hT (by rw [Option.some.inj e]; rfl)
 ·have e : s = ⟨#[]⟩ := by
   apply ByteArray.ext
   exact Array.eq_empty_of_size_eq_zero (by have : s.data.size = s.size := rfl; omega)
  subst e
  exact zj3 w hp hB
open Go.RowKit
theorem zxu {B : Nat} (s : ByteArray) (hs : s.size <= 140737488351232) (h0 : 0 < s.size) (hT : ((s[0].toNat : Int) == 126) = false) (h19 : 19 < s.size) (HN : Hid (∀ m, InR m -> s.data.toList ≠ wtext m)) (w : World) :
  Calls Tryz.prog 92 #[.string s] w (Read s B w) := by
 go_enter Tryz.func92, Tryz.ntmps92
 go_wp2
 go_ret2
 exact Read.no HN.out (br _ _)
theorem zv1 {B : Nat} (s : ByteArray) (hs : s.size <= 140737488351232) (h0 : 0 < s.size) (hT : ((s[0].toNat : Int) == 126) = false) (h19 : s.size <= 19) (h1 : 1 < s.size) (hZ : ((s[0].toNat : Int) == 48) = true) (HN : Hid (∀ m, InR m -> s.data.toList ≠ wtext m)) (w : World) :
  Calls Tryz.prog 92 #[.string s] w (Read s B w) := by
 go_enter Tryz.func92, Tryz.ntmps92
 go_wp2
 go_ret2
 exact Read.no HN.out (br _ _)
theorem zs5 {B : Nat} (s : ByteArray) (hs : s.size <= 140737488351232) (h0 : 0 < s.size) (hT : ((s[0].toNat : Int) == 126) = true) (t : ByteArray) (hx : s.extract 1 s.size = t) (hn : t.size < 1) (HN : Hid (∀ m, InR m -> s.data.toList ≠ wtext m)) (w : World) :
  Calls Tryz.prog 92 #[.string s] w (Read s B w) := by
 go_enter Tryz.func92, Tryz.ntmps92
 go_wp2
 go_ret2
 exact Read.no HN.out (br _ _)
theorem zro {B : Nat} (s : ByteArray) (hs : s.size <= 140737488351232) (h0 : 0 < s.size) (hT : ((s[0].toNat : Int) == 126) = true) (t : ByteArray) (hx : s.extract 1 s.size = t) (h19 : 19 < t.size) (HN : Hid (∀ m, InR m -> s.data.toList ≠ wtext m)) (w : World) :
  Calls Tryz.prog 92 #[.string s] w (Read s B w) := by
 go_enter Tryz.func92, Tryz.ntmps92
 go_wp2
 go_ret2
 exact Read.no HN.out (br _ _)
theorem zs9 {B : Nat} (s : ByteArray) (hs : s.size <= 140737488351232) (h0 : 0 < s.size) (hT : ((s[0].toNat : Int) == 126) = true) (t : ByteArray) (hx : s.extract 1 s.size = t) (h19 : t.size <= 19) (h1 : 1 < t.size) (hZ : ((t[0].toNat : Int) == 48) = true) (HN : Hid (∀ m, InR m -> s.data.toList ≠ wtext m)) (w : World) :
  Calls Tryz.prog 92 #[.string s] w (Read s B w) := by
 go_enter Tryz.func92, Tryz.ntmps92
 go_wp2
 go_ret2
 exact Read.no HN.out (br _ _)
theorem zw5 {B : Nat} (s : ByteArray) (hs : s.size <= 140737488351232) (h0 : 0 < s.size) (hT : ((s[0].toNat : Int) == 126) = true) (t : ByteArray) (hx : s.extract 1 s.size = t) (hp : 0 < t.size) (h1 : t.size <= 1) (hZ : (t.toList == [48]) = true) (HN : Hid (∀ m, InR m -> s.data.toList ≠ wtext m)) (w : World) :
  Calls Tryz.prog 92 #[.string s] w (Read s B w) := by
 go_enter Tryz.func92, Tryz.ntmps92
 go_wp2
 go_ret2
 exact Read.no HN.out (br _ _)
theorem zsz {B : Nat} (w : World) : Calls Tryz.prog 92 #[.string ⟨#[]⟩] w (Read ⟨#[]⟩ B w) := by
 go_enter Tryz.func92, Tryz.ntmps92
 go_wp2
 go_ret2
 exact Read.no zk6 (br _ _)
theorem zna {l : List UInt8} (h : AllDig l) (hl : l.length <= 18) : dval l <= 999999999999999999 := by
 have h1 := zqf h
 have h2 : 10 ^ l.length <= 10 ^ 18 := Nat.pow_le_pow_right (by omega) hl
 omega
theorem zjr {l : List UInt8} (h : AllDig l) (hl : l.length <= 19) : dval l <= 9999999999999999999 := by
 have h1 := zqf h
 have h2 : 10 ^ l.length <= 10 ^ 19 := Nat.pow_le_pow_right (by omega) hl
 omega
theorem zf0 (v : Int) (h0 : 0 <= v) (h1 : v <= 9223372036854775808) : wrap64 (IntKind.u64.wrap (-v)) = -v := by
 simp only [wrap64, IntKind.wrap_u64]; omega
def At (t : ByteArray) (k v : Nat) : Prop := AllDig (t.data.toList.take k) /\ v = dval (t.data.toList.take k)
theorem At.start (t : ByteArray) : At t 0 0 := ⟨by intro c hc; simp at hc, by rw [List.take_zero, zeq]⟩
theorem At.bound {t : ByteArray} {k v : Nat} (h : At t k v) (hk : k <= 18) : v <= 999999999999999999 := by
 rw [h.2]; exact zna h.1 (by rw [List.length_take]; omega)
theorem At.bound19 {t : ByteArray} {k v : Nat} (h : At t k v) (hk : k <= 19) : v <= 9999999999999999999 := by
 rw [h.2]; exact zjr h.1 (by rw [List.length_take]; omega)
theorem At.step {t : ByteArray} {k v : Nat} (h : At t k v) (hk : k < t.size) (h1 : 48 <= (t[k]).toNat) (h2 : (t[k]).toNat <= 57) : At t (k + 1) (10 * v + (t[k].toNat - 48)) := by
 refine ⟨?_, ?_⟩
 ·rw [zao t k hk]; exact h.1.snoc h1 h2
 ·rw [zao t k hk, zcy, h.2]
theorem At.all {t : ByteArray} {k v : Nat} (h : At t k v) (hk : ¬ k < t.size) : AllDig t.data.toList /\ v = dval t.data.toList := by
 have := h; unfold At at this; rwa [zid t hk] at this
theorem z0x {B : Nat} (s : ByteArray) (hs : s.size <= 140737488351232) (h0 : 0 < s.size) (hT : ((s[0].toNat : Int) == 126) = false) (h1 : s.size <= 1) (HH : Hid (s.data.toList.head? ≠ some 126)) (HZ : Hid (s.data.toList.length <= 1 ∨ ∀ c, s.data.toList.head? = some c -> c.toNat ≠ 48)) (w : World) :
  Calls Tryz.prog 92 #[.string s] w (Read s B w) := by
 go_enter Tryz.func92, Tryz.ntmps92
 go_wp2
 go_loop [6, 7] (fun n i => ∃ k v : Nat, k <= s.size /\ i = .int .i64 k /\ n = .int .u64 v /\ Hid (At s k v)) (fun _ i => s.size - (intOf i).toNat)
 case atStart => exact ⟨0, 0, Nat.zero_le _, rfl, rfl, jj (At.start s)⟩
 case round =>
  obtain ⟨k, v, hk, rfl, rfl, HA⟩ := hrel
  by_cases hlt : k < s.size
  ·have hvb := HA.out.bound (by omega)
   by_cases hdig : 48 <= (s[k]'hlt).toNat /\ (s[k]'hlt).toNat <= 57
   ·obtain ⟨hd1, hd2⟩ := hdig
    have HS := jj (HA.out.step hlt hd1 hd2)
    go_wp2
    go_round
    case rel => exact ⟨k + 1, 10 * v + (s[k].toNat - 48), by omega, by go_num, by go_num, jj HS.out⟩
    case measure => simp [intOf]; omega
   ·have HB := jj (zfx HH.out (zfj s k hlt hdig))
    by_cases hlo : (s[k]'hlt).toNat < 48
    ·go_wp2
     go_ret2
     exact Read.no HB.out (br _ _)
    ·have hhi : 57 < (s[k]'hlt).toNat := by omega
     go_wp2
     go_ret2
     exact Read.no HB.out (br _ _)
  ·have hvb := HA.out.bound19 (by omega)
   have HE := jj (HA.out.all hlt)
   by_cases hbig : 9223372036854775807 < v
   ·have HN := jj (zjc HH.out (by rw [<- HE.out.2]; exact hbig))
    by_cases hmore : (9223372036854775808 : Int) < (v : Int)
    ·go_wp2
     go_ret2
     exact Read.no HN.out (br _ _)
    ·have heq : ((v : Int) == 9223372036854775808) = true := by simpa using (by omega : (v : Int) = 9223372036854775808)
     go_wp2
     go_ret2
     exact Read.no HN.out (br _ _)
   ·have hless : ¬ (9223372036854775808 : Int) < (v : Int) := by omega
    have hne : ((v : Int) == 9223372036854775808) = false := by simpa using (by omega : ¬ (v : Int) = 9223372036854775808)
    have hup : (v : Int) <= 9223372036854775807 := by omega
    have HY := jj (zi7 HE.out.1 (by intro e; have := size_len s; rw [e] at this; simp at this; omega) HZ.out)
    go_wp2
    go_ret2
    exact Read.yes (s := s) (n := (v : Int)) ⟨by omega, hup⟩ (by rw [HE.out.2]; exact HY.out) (br _ _)
theorem zu3 {B : Nat} (s : ByteArray) (hs : s.size <= 140737488351232) (h0 : 0 < s.size) (hT : ((s[0].toNat : Int) == 126) = false) (h19 : s.size <= 19) (h1 : 1 < s.size) (hZ : ((s[0].toNat : Int) == 48) = false) (HH : Hid (s.data.toList.head? ≠ some 126)) (HZ : Hid (s.data.toList.length <= 1 ∨ ∀ c, s.data.toList.head? = some c -> c.toNat ≠ 48)) (w : World) :
  Calls Tryz.prog 92 #[.string s] w (Read s B w) := by
 go_enter Tryz.func92, Tryz.ntmps92
 go_wp2
 go_loop [6, 7] (fun n i => ∃ k v : Nat, k <= s.size /\ i = .int .i64 k /\ n = .int .u64 v /\ Hid (At s k v)) (fun _ i => s.size - (intOf i).toNat)
 case atStart => exact ⟨0, 0, Nat.zero_le _, rfl, rfl, jj (At.start s)⟩
 case round =>
  obtain ⟨k, v, hk, rfl, rfl, HA⟩ := hrel
  by_cases hlt : k < s.size
  ·have hvb := HA.out.bound (by omega)
   by_cases hdig : 48 <= (s[k]'hlt).toNat /\ (s[k]'hlt).toNat <= 57
   ·obtain ⟨hd1, hd2⟩ := hdig
    have HS := jj (HA.out.step hlt hd1 hd2)
    go_wp2
    go_round
    case rel => exact ⟨k + 1, 10 * v + (s[k].toNat - 48), by omega, by go_num, by go_num, jj HS.out⟩
    case measure => simp [intOf]; omega
   ·have HB := jj (zfx HH.out (zfj s k hlt hdig))
    by_cases hlo : (s[k]'hlt).toNat < 48
    ·go_wp2
     go_ret2
     exact Read.no HB.out (br _ _)
    ·have hhi : 57 < (s[k]'hlt).toNat := by omega
     go_wp2
     go_ret2
     exact Read.no HB.out (br _ _)
  ·have hvb := HA.out.bound19 (by omega)
   have HE := jj (HA.out.all hlt)
   by_cases hbig : 9223372036854775807 < v
   ·have HN := jj (zjc HH.out (by rw [<- HE.out.2]; exact hbig))
    by_cases hmore : (9223372036854775808 : Int) < (v : Int)
    ·go_wp2
     go_ret2
     exact Read.no HN.out (br _ _)
    ·have heq : ((v : Int) == 9223372036854775808) = true := by simpa using (by omega : (v : Int) = 9223372036854775808)
     go_wp2
     go_ret2
     exact Read.no HN.out (br _ _)
   ·have hless : ¬ (9223372036854775808 : Int) < (v : Int) := by omega
    have hne : ((v : Int) == 9223372036854775808) = false := by simpa using (by omega : ¬ (v : Int) = 9223372036854775808)
    have hup : (v : Int) <= 9223372036854775807 := by omega
    have HY := jj (zi7 HE.out.1 (by intro e; have := size_len s; rw [e] at this; simp at this; omega) HZ.out)
    go_wp2
    go_ret2
    exact Read.yes (s := s) (n := (v : Int)) ⟨by omega, hup⟩ (by rw [HE.out.2]; exact HY.out) (br _ _)
theorem zpb {B : Nat} (s : ByteArray) (hs : s.size <= 140737488351232) (h0 : 0 < s.size) (hT : ((s[0].toNat : Int) == 126) = true) (t : ByteArray) (hx : s.extract 1 s.size = t) (hp : 0 < t.size) (h1 : t.size <= 1) (hZ : (t.toList == [48]) = false) (HH : Hid (s.data.toList.head? = some 126)) (HTL : Hid (t.data.toList = s.data.toList.tail)) (HZ : Hid (∀ c, s.data.toList.tail.head? = some c -> c.toNat ≠ 48)) (w : World) :
  Calls Tryz.prog 92 #[.string s] w (Read s B w) := by
 go_enter Tryz.func92, Tryz.ntmps92
 go_wp2
 go_loop [6, 7] (fun n i => ∃ k v : Nat, k <= t.size /\ i = .int .i64 k /\ n = .int .u64 v /\ Hid (At t k v)) (fun _ i => t.size - (intOf i).toNat)
 case atStart => exact ⟨0, 0, Nat.zero_le _, rfl, rfl, jj (At.start t)⟩
 case round =>
  obtain ⟨k, v, hk, rfl, rfl, HA⟩ := hrel
  by_cases hlt : k < t.size
  ·have hvb := HA.out.bound (by omega)
   by_cases hdig : 48 <= (t[k]'hlt).toNat /\ (t[k]'hlt).toNat <= 57
   ·obtain ⟨hd1, hd2⟩ := hdig
    have HS := jj (HA.out.step hlt hd1 hd2)
    go_wp2
    go_round
    case rel => exact ⟨k + 1, 10 * v + (t[k].toNat - 48), by omega, by go_num, by go_num, jj HS.out⟩
    case measure => simp [intOf]; omega
   ·have HB := jj (zhw HH.out (by rw [<- HTL.out]; exact zfj t k hlt hdig))
    by_cases hlo : (t[k]'hlt).toNat < 48
    ·go_wp2
     go_ret2
     exact Read.no HB.out (br _ _)
    ·have hhi : 57 < (t[k]'hlt).toNat := by omega
     go_wp2
     go_ret2
     exact Read.no HB.out (br _ _)
  ·have hvb := HA.out.bound19 (by omega)
   have HE := jj (HA.out.all hlt)
   by_cases hmore : (9223372036854775808 : Int) < (v : Int)
   ·have HN := jj (zll HH.out (by rw [<- HTL.out, <- HE.out.2]; omega))
    go_wp2
    go_ret2
    exact Read.no HN.out (br _ _)
   ·have HY := jj (zkz HH.out (by rw [<- HTL.out]; exact HE.out.1) (by rw [<- HTL.out]; intro e; have := size_len t; rw [e] at this; simp at this; omega) HZ.out)
    have HI : Hid (InR (-(v : Int))) := by unfold Hid InR; omega
    by_cases heq : (v : Int) = 9223372036854775808
    ·have hbk := zf0 (v : Int) (by omega) (by omega)
     have heq' : ((v : Int) == 9223372036854775808) = true := by simpa using heq
     clear heq
     go_wp2
     go_ret2
     exact Read.yes (s := s) (n := -(v : Int)) HI.out (by rw [HE.out.2, HTL.out]; exact HY.out) (br _ _)
    ·have heq' : ((v : Int) == 9223372036854775808) = false := by simpa using heq
     have hbk := zf0 (v : Int) (by omega) (by omega)
     clear heq
     go_wp2
     go_ret2
     exact Read.yes (s := s) (n := -(v : Int)) HI.out (by rw [HE.out.2, HTL.out]; exact HY.out) (br _ _)
theorem zrz {B : Nat} (s : ByteArray) (hs : s.size <= 140737488351232) (h0 : 0 < s.size) (hT : ((s[0].toNat : Int) == 126) = true) (t : ByteArray) (hx : s.extract 1 s.size = t) (h19 : t.size <= 19) (h1 : 1 < t.size) (hZ : ((t[0].toNat : Int) == 48) = false) (hZ1 : (t.toList == [48]) = false) (HH : Hid (s.data.toList.head? = some 126)) (HTL : Hid (t.data.toList = s.data.toList.tail)) (HZ : Hid (∀ c, s.data.toList.tail.head? = some c -> c.toNat ≠ 48)) (w : World) :
  Calls Tryz.prog 92 #[.string s] w (Read s B w) := by
 go_enter Tryz.func92, Tryz.ntmps92
 go_wp2
 go_loop [6, 7] (fun n i => ∃ k v : Nat, k <= t.size /\ i = .int .i64 k /\ n = .int .u64 v /\ Hid (At t k v)) (fun _ i => t.size - (intOf i).toNat)
 case atStart => exact ⟨0, 0, Nat.zero_le _, rfl, rfl, jj (At.start t)⟩
 case round =>
  obtain ⟨k, v, hk, rfl, rfl, HA⟩ := hrel
  by_cases hlt : k < t.size
  ·have hvb := HA.out.bound (by omega)
   by_cases hdig : 48 <= (t[k]'hlt).toNat /\ (t[k]'hlt).toNat <= 57
   ·obtain ⟨hd1, hd2⟩ := hdig
    have HS := jj (HA.out.step hlt hd1 hd2)
    go_wp2
    go_round
    case rel => exact ⟨k + 1, 10 * v + (t[k].toNat - 48), by omega, by go_num, by go_num, jj HS.out⟩
    case measure => simp [intOf]; omega
   ·have HB := jj (zhw HH.out (by rw [<- HTL.out]; exact zfj t k hlt hdig))
    by_cases hlo : (t[k]'hlt).toNat < 48
    ·go_wp2
     go_ret2
     exact Read.no HB.out (br _ _)
    ·have hhi : 57 < (t[k]'hlt).toNat := by omega
     go_wp2
     go_ret2
     exact Read.no HB.out (br _ _)
  ·have hvb := HA.out.bound19 (by omega)
   have HE := jj (HA.out.all hlt)
   by_cases hmore : (9223372036854775808 : Int) < (v : Int)
   ·have HN := jj (zll HH.out (by rw [<- HTL.out, <- HE.out.2]; omega))
    go_wp2
    go_ret2
    exact Read.no HN.out (br _ _)
   ·have HY := jj (zkz HH.out (by rw [<- HTL.out]; exact HE.out.1) (by rw [<- HTL.out]; intro e; have := size_len t; rw [e] at this; simp at this; omega) HZ.out)
    have HI : Hid (InR (-(v : Int))) := by unfold Hid InR; omega
    by_cases heq : (v : Int) = 9223372036854775808
    ·have hbk := zf0 (v : Int) (by omega) (by omega)
     have heq' : ((v : Int) == 9223372036854775808) = true := by simpa using heq
     clear heq
     go_wp2
     go_ret2
     exact Read.yes (s := s) (n := -(v : Int)) HI.out (by rw [HE.out.2, HTL.out]; exact HY.out) (br _ _)
    ·have heq' : ((v : Int) == 9223372036854775808) = false := by simpa using heq
     have hbk := zf0 (v : Int) (by omega) (by omega)
     clear heq
     go_wp2
     go_ret2
     exact Read.yes (s := s) (n := -(v : Int)) HI.out (by rw [HE.out.2, HTL.out]; exact HY.out) (br _ _)
open Go.RowKit
theorem z0v (t : ByteArray) (h : ¬ 0 < t.size) : t.data.toList = [] := by
 have := size_len t
 exact List.eq_nil_of_length_eq_zero (by omega)
theorem eq48 {c : UInt8} (h : c.toNat = 48) : c = 48 := UInt8.toNat_inj.1 (by rw [h]; rfl)
theorem zsb (t : ByteArray) (h0 : 0 < t.size) (h1 : t.size <= 1) : t.data.toList = [t[0]] := by
 have hh := zhu t h0
 have hl := size_len t
 cases hx : t.data.toList with
 | nil => rw [hx] at hl; simp at hl; omega
 | cons c r =>
  rw [hx] at hh hl
  have : r = [] := List.eq_nil_of_length_eq_zero (by simp at hl; omega)
  subst this
  simpa using hh
theorem zfe {B : Nat} (s : ByteArray) (hs : s.size <= 140737488351232) (w : World) : Calls Tryz.prog 92 #[.string s] w (Read s B w) := by
 by_cases h0 : 0 < s.size
 ·have hh := zhu s h0
  by_cases hT : s[0].toNat = 126
  ·have h126 : s.data.toList.head? = some 126 := by rw [hh, show s[0] = (126 : UInt8) from UInt8.toNat_inj.1 (by rw [hT]; rfl)]
   have hT' : ((s[0].toNat : Int) == 126) = true := by simp [hT]
   obtain ⟨t, hx⟩ : ∃ t, s.extract 1 s.size = t := ⟨_, rfl⟩
   have ht : t.data.toList = s.data.toList.tail := by rw [<- hx]; exact znt s
   have hlen := size_len t
   by_cases hp : 0 < t.size
   ·have hth := zhu t hp
    rw [ht] at hth
    by_cases h19 : t.size <= 19
    ·by_cases h48 : t[0].toNat = 48
     ·have HN : Hid (∀ m, InR m -> s.data.toList ≠ wtext m) := jj (ziz h126 ⟨_, hth, h48⟩)
      by_cases h1 : t.size <= 1
      ·exact zw5 s hs h0 hT' t hx hp h1 (by rw [ByteArray.toList_eq, zsb t hp h1, eq48 h48]; rfl) HN w
      ·exact zs9 s hs h0 hT' t hx h19 (by omega) (by simp [h48]) HN w
     ·have hz : ∀ c, s.data.toList.tail.head? = some c -> c.toNat ≠ 48 := fun c hc => by rw [hth] at hc; rw [<- Option.some.inj hc]; exact h48
      have hne : (t.toList == [48]) = false := by
       rw [ByteArray.toList_eq]
       have hth' := zhu t hp
       cases hl : t.data.toList with
       | nil => rfl
       | cons c r =>
        rw [hl] at hth'
        have hc : c ≠ 48 := by intro e; exact h48 (by rw [<- Option.some.inj hth', e]; rfl)
        simp [hc]
      by_cases h1 : t.size <= 1
      ·exact zpb s hs h0 hT' t hx hp h1 hne (jj h126) (jj ht) (jj hz) w
      ·exact zrz s hs h0 hT' t hx h19 (by omega) (by simpa using (by omega : ¬ (t[0].toNat : Int) = 48)) hne (jj h126) (jj ht) (jj hz) w
    ·exact zro s hs h0 hT' t hx (by omega) (jj (zjm h126 (by rw [<- ht, hlen]; omega))) w
   ·exact zs5 s hs h0 hT' t hx (by omega) (jj (zif h126 (by rw [<- ht]; exact z0v t hp))) w
  ·have h126 : s.data.toList.head? ≠ some 126 := by rw [hh]; intro e; exact hT (by rw [Option.some.inj e]; rfl)
   have hT' : ((s[0].toNat : Int) == 126) = false := by simpa using (by omega : ¬ (s[0].toNat : Int) = 126)
   have hlen := size_len s
   by_cases h1 : s.size <= 1
   ·exact z0x s hs h0 hT' h1 (jj h126) (jj (Or.inl (by omega))) w
   ·by_cases h19 : s.size <= 19
    ·by_cases h48 : s[0].toNat = 48
     ·exact zv1 s hs h0 hT' h19 (by omega) (by simp [h48]) (jj (zhk h126 (by omega) ⟨_, hh, h48⟩)) w
     ·exact zu3 s hs h0 hT' h19 (by omega) (by simpa using (by omega : ¬ (s[0].toNat : Int) = 48)) (jj h126) (jj (Or.inr fun c hc => by rw [hh] at hc; rw [<- Option.some.inj hc]; exact h48)) w
    ·exact zxu s hs h0 hT' (by omega) (jj (zhb h126 (by omega))) w
 ·have e : s = ⟨#[]⟩ := by
   apply ByteArray.ext
   exact Array.eq_empty_of_size_eq_zero (by have : s.data.size = s.size := rfl; omega)
  subst e
  exact zsz w
end Go.Proofs.YtjakeidbajkdcaaGreatDoor.W
