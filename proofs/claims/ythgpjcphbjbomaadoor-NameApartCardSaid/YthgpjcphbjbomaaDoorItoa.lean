/- strconv.Itoa of a number below 100, and the document's own digits: both are the number's numeral; strings.Clone; what lay below is as it was. -/
import Derived.Test.YthgpjcphbjbomaaDoorShelf
import Derived.Test.YthgpjcphbjbomaaDoorTexts
import Derived.Lib.ItoaNum
import Derived.Lib.ItoaWalk
import Derived.Lib.ConvBytes
import Derived.LoopTactic
namespace Go.Proofs.YthgpjcphbjbomaaDoor
open Go.RowKit
theorem itoa_any (n : Nat) (hn : n < 100) (w : World) : Calls Tryd.prog 33 #[.int .i64 n] w fun e w' => e = .returned (.string ⟨(Lib.decDigits n).toArray⟩) ∧ w = w' :=
  (Tryd.strconv_Itoa_small n hn w).mono fun _ _ ⟨he, hw⟩ => ⟨he, hw.symm⟩
theorem clone_any (s : ByteArray) (hs : s.size ≤ 281474976710656) (w : World) : Calls Tryd.prog 32 #[.string s] w fun e w' => e = .returned (.string s) ∧ Below w.heap.size w w' := by
  go_enter Tryd.func32, Tryd.ntmps32
  go_wp2_with (go_at_call 35; refine (Tryd.stringslite_Clone s _ hs).mono ?_; rintro e w' ⟨rfl, hb⟩)
  go_ret
  exact ⟨rfl, hb⟩
theorem ret_str {s t : ByteArray} (h : s = t) : Ending.returned (.string s) = Ending.returned (.string t) := by rw [h]
theorem dig_nat (d : Nat) (h : d < 10) : (UInt8.ofNat (48 + d)).toNat = 48 + d := by
  rw [UInt8.toNat_ofNat']; omega
theorem dec_small {u : Nat} (h : u < 10) : Lib.decDigits u = [UInt8.ofNat (48 + u)] := by rw [Lib.decDigits, dif_pos h]
theorem dec_big {u : Nat} (h : ¬ u < 10) : Lib.decDigits u = Lib.decDigits (u / 10) ++ [UInt8.ofNat (48 + u % 10)] := by rw [Lib.decDigits, dif_neg h]
/-- A digit. -/
def dgt (d : Nat) : UInt8 := UInt8.ofNat (48 + d)
/-- A slice of one byte, made into a string. -/
theorem conv_one (wr : World) (d : Nat) (hd : d < 10) (z : Int) (hz : z = ((48 + d : Nat) : Int)) :
    (convert 43 9 (.slice (some ⟨wr.heap.size, 0, none⟩) 1 1)).run Tryd.prog (wr.alloc (.cells #[.int .u8 z] 5)) = .ok (.string ⟨#[dgt d]⟩) (wr.alloc (.cells #[.int .u8 z] 5)) := by
  subst hz
  exact run_convert_bytes_back (P := Tryd.prog) _ 43 9 5 ⟨wr.heap.size, 0, none⟩ 1 [dgt d] Tryd.underlying43 Tryd.underlying5 Tryd.underlying9 (fun j hj => by
    obtain rfl : j = 0 := by simpa using hj
    have h : (wr.alloc (.cells #[.int .u8 ((48 + d : Nat) : Int)] 5)).cell? ⟨wr.heap.size, 0, none⟩ = some (.int .u8 ((48 + d : Nat) : Int)) := by
      rw [World.cell?_alloc_new]; rfl
    rw [Addr.add_lit]
    show (wr.alloc _).cell? ⟨wr.heap.size, 0, none⟩ = some (.int .u8 ((dgt d).toNat : Int))
    rw [h, dgt, dig_nat d hd])
theorem cons_str (c : UInt8) (l : List UInt8) : ((⟨#[c]⟩ : ByteArray) ++ (⟨l.toArray⟩ : ByteArray)) = ⟨(c :: l).toArray⟩ := by
  apply ByteArray.ext
  rw [ByteArray.data_append]
  apply Array.toList_inj.1
  simp
/-- What the loop keeps: the digits still to come, ahead of those that stand. -/
def ToCome (N u : Nat) (acc : List UInt8) : Prop := (0 < u → Lib.decDigits N = Lib.decDigits u ++ acc) ∧ (u = 0 → Lib.decDigits N = acc)
theorem ToCome.start (N : Nat) (h : 0 < N) : ToCome N N [] := ⟨fun _ => by simp, fun e => by omega⟩
theorem ToCome.step {N u : Nat} {acc : List UInt8} (h : ToCome N u acc) (hu : u ≠ 0) : ToCome N (u / 10) (dgt (u % 10) :: acc) := by
  have e := h.1 (by omega)
  by_cases h9 : u < 10
  · refine ⟨fun x => by omega, fun _ => ?_⟩
    rw [e, dec_small h9, dgt, show u % 10 = u by omega]; rfl
  · refine ⟨fun _ => ?_, fun x => by omega⟩
    rw [e, dec_big h9, List.append_assoc]; rfl
theorem decDigits_le (u : Nat) (hu : u < 18446744073709551616) : 1 ≤ (Lib.decDigits u).length ∧ (Lib.decDigits u).length ≤ 20 := by
  rw [Lib.decDigits_length]
  have h := Lib.nDigits_pos u
  refine ⟨h, ?_⟩
  by_cases h0 : u = 0
  · subst h0; rw [Lib.nDigits_small (by omega)]; omega
  · have := Lib.numDigits_eq u (by omega) hu
    split at this <;> omega
theorem ToCome.len {N u : Nat} {acc : List UInt8} (h : ToCome N u acc) (hN : N < 18446744073709551616) : acc.length ≤ 20 := by
  have hl := (decDigits_le N hN).2
  by_cases h0 : u = 0
  · rw [h.2 h0] at hl; exact hl
  · rw [h.1 (by omega), List.length_append] at hl; omega
set_option maxHeartbeats 1000000 in
theorem ritoa_any (N : Nat) (hN : 0 < N) (h1 : N < 1000000) (w : World) :
    Calls Tryd.prog 34 #[.int .i64 N] w fun e w' => e = .returned (.string ⟨(Lib.decDigits N).toArray⟩) ∧ Below w.heap.size w w' := by
  have hz : ((N : Int) == 0) = false := by simpa using (by omega : ¬ N = 0)
  go_enter Tryd.func34, Tryd.ntmps34
  go_wp2
  go_loopw [3, 4, 5] (fun s x _ wr => ∃ (u : Nat) (acc : List UInt8), x = .int .i64 u ∧ s = .string ⟨acc.toArray⟩ ∧ u ≤ N ∧ ToCome N u acc ∧ Below w.heap.size w wr) (fun _ x _ _ => (intOf x).natAbs)
  case atStart => exact ⟨N, [], rfl, rfl, Nat.le_refl _, ToCome.start N hN, Below.refl _ _⟩
  case round =>
    obtain ⟨u, acc, rfl, rfl, hu, hL, hbw⟩ := hrel
    have HL := Lib.hid hL
    clear hL
    have hwB := hbw.size
    by_cases h0 : u = 0
    · subst h0
      go_wp2
      go_ret
      exact ⟨ret_str (by rw [HL.out.2 rfl]), hbw⟩
    · have hz : ((u : Int) != 0) = true := by simpa using h0
      have hla := HL.out.len (by omega)
      have hcv := conv_one wr (u % 10) (by omega) (48 + (u : Int) % 10) (by omega)
      go_wp2
      go_roundw
      case rel => exact ⟨u / 10, dgt (u % 10) :: acc, rfl, congrArg Value.string (cons_str _ _), by omega, HL.out.step h0, hbw.alloc (by omega) _⟩
      case measure => simp [intOf]; omega
end Go.Proofs.YthgpjcphbjbomaaDoor
