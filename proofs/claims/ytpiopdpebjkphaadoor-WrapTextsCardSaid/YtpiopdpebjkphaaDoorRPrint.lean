/- The document's own printing: of every number of 64 bits it returns the number's text; what lay below is as it was. -/
import Derived.Test.YtpiopdpebjkphaaDoorText
import Derived.Lib.ConvBytes
namespace Go.Proofs.YtpiopdpebjkphaaDoor
open Go.RowKit
/-- A digit. -/
def dgt (d : Nat) : UInt8 := UInt8.ofNat (48 + d)
/-- A slice of one byte, made into a string. -/
theorem conv_one (wr : World) (d : Nat) (hd : d < 10) (z : Int) (hz : z = ((48 + d : Nat) : Int)) :
    (convert 36 9 (.slice (some ⟨wr.heap.size, 0, none⟩) 1 1)).run Tryd.prog (wr.alloc (.cells #[.int .u8 z] 5)) = .ok (.string ⟨#[dgt d]⟩) (wr.alloc (.cells #[.int .u8 z] 5)) := by
  subst hz
  exact run_convert_bytes_back (P := Tryd.prog) _ 36 9 5 ⟨wr.heap.size, 0, none⟩ 1 [dgt d] Tryd.underlying36 Tryd.underlying5 Tryd.underlying9 (fun j hj => by
    obtain rfl : j = 0 := by simpa using hj
    have h : (wr.alloc (.cells #[.int .u8 ((48 + d : Nat) : Int)] 5)).cell? ⟨wr.heap.size, 0, none⟩ = some (.int .u8 ((48 + d : Nat) : Int)) := by
      rw [World.cell?_alloc_new]; rfl
    rw [Addr.add_lit]
    show (wr.alloc _).cell? ⟨wr.heap.size, 0, none⟩ = some (.int .u8 ((dgt d).toNat : Int))
    rw [h, dgt, dig_nat d hd])
theorem cons_str (c : UInt8) (l : List UInt8) : ((⟨#[c]⟩ : ByteArray) ++ (⟨l.toArray⟩ : ByteArray)) = ⟨(c :: l).toArray⟩ := by
  apply ByteArray.ext
  rw [ByteArray.data_append]
  apply Array.toList_inj.1
  simp
/-- What the loop keeps: the digits still to come, ahead of those that stand. -/
def Left (N u : Nat) (acc : List UInt8) : Prop := (0 < u → Lib.decDigits N = Lib.decDigits u ++ acc) ∧ (u = 0 → Lib.decDigits N = acc)
theorem Left.start (N : Nat) (h : 0 < N) : Left N N [] := ⟨fun _ => by simp, fun e => by omega⟩
theorem Left.step {N u : Nat} {acc : List UInt8} (h : Left N u acc) (hu : u ≠ 0) : Left N (u / 10) (dgt (u % 10) :: acc) := by
  have e := h.1 (by omega)
  by_cases h9 : u < 10
  · refine ⟨fun x => by omega, fun _ => ?_⟩
    rw [e, dec_small h9, dgt, show u % 10 = u by omega]; rfl
  · refine ⟨fun _ => ?_, fun x => by omega⟩
    rw [e, dec_big h9, List.append_assoc]; rfl
theorem Left.len {N u : Nat} {acc : List UInt8} (h : Left N u acc) (hN : N < 18446744073709551616) : acc.length ≤ 20 := by
  have hl := (decDigits_le N hN).2
  by_cases h0 : u = 0
  · rw [h.2 h0] at hl; exact hl
  · rw [h.1 (by omega), List.length_append] at hl; omega
set_option maxHeartbeats 1000000 in
theorem rprint_pos {B : Nat} (N : Nat) (hN : 0 < N) (h1 : N ≤ 9223372036854775807) (hz : ((N : Int) == 0) = false) (w : World) (hB : B ≤ w.heap.size) :
    Calls Tryd.prog 17 #[.int .i64 N] w fun e w' => e = .returned (.string ⟨(Lib.decDigits N).toArray⟩) ∧ Below B w w' := by
  go_enter Tryd.func17, Tryd.ntmps17
  go_wp2
  go_loopw [3, 4] (fun s x wr => ∃ (u : Nat) (acc : List UInt8), x = .int .i64 u ∧ s = .string ⟨acc.toArray⟩ ∧ u ≤ N ∧ Left N u acc ∧ Below B w wr) (fun _ x _ => (intOf x).natAbs)
  case atStart => exact ⟨N, [], rfl, rfl, Nat.le_refl _, Left.start N hN, Below.refl _ _⟩
  case round =>
    obtain ⟨u, acc, rfl, rfl, hu, hL, hbw⟩ := hrel
    have HL := Lib.hid hL
    clear hL
    have hwB := hbw.size
    by_cases h0 : u = 0
    · subst h0
      go_wp2
      go_ret
      exact ⟨ret_str (by rw [HL.out.2 rfl]), hbw⟩
    · have hz : ((u : Int) != 0) = true := by simpa using h0
      have hla := HL.out.len (by omega)
      have hcv := conv_one wr (u % 10) (by omega) (48 + (u : Int) % 10) (by omega)
      go_wp2
      go_roundw
      case rel => exact ⟨u / 10, dgt (u % 10) :: acc, rfl, congrArg Value.string (cons_str _ _), by omega, HL.out.step h0, hbw.alloc (by omega) _⟩
      case measure => simp [intOf]; omega
theorem tmod_neg10 (u : Nat) : (-(u : Int)).tmod 10 = -((u % 10 : Nat) : Int) := by
  rw [Int.neg_tmod, Int.tmod_eq_emod_of_nonneg (by omega)]; rfl
theorem tdiv_neg10 (u : Nat) : (-(u : Int)).tdiv 10 = -((u / 10 : Nat) : Int) := by
  rw [Int.neg_tdiv, Int.tdiv_eq_ediv_of_nonneg (by omega)]; rfl
set_option maxHeartbeats 1000000 in
theorem rprint_neg {B : Nat} (N : Nat) (hN : 0 < N) (h1 : N ≤ 9223372036854775808) (hz : (-(N : Int) == 0) = false) (w : World) (hB : B ≤ w.heap.size) :
    Calls Tryd.prog 17 #[.int .i64 (-(N : Int))] w fun e w' => e = .returned (.string ⟨(126 :: Lib.decDigits N).toArray⟩) ∧ Below B w w' := by
  go_enter Tryd.func17, Tryd.ntmps17
  go_wp2
  go_loopw [3, 4] (fun s x wr => ∃ (u : Nat) (acc : List UInt8), x = .int .i64 (-(u : Int)) ∧ s = .string ⟨acc.toArray⟩ ∧ u ≤ N ∧ Left N u acc ∧ Below B w wr) (fun _ x _ => (intOf x).natAbs)
  case atStart => exact ⟨N, [], rfl, rfl, Nat.le_refl _, Left.start N hN, Below.refl _ _⟩
  case round =>
    obtain ⟨u, acc, rfl, rfl, hu, hL, hbw⟩ := hrel
    have HL := Lib.hid hL
    clear hL
    have hwB := hbw.size
    have hla := HL.out.len (by omega)
    by_cases h0 : u = 0
    · subst h0
      go_wp2
      go_ret
      exact ⟨ret_str (by rw [HL.out.2 rfl]; exact cons_str _ _), hbw⟩
    · have hz : (-(u : Int) != 0) = true := by simpa using h0
      have hd := tdiv_neg10 u
      by_cases hr : u % 10 = 0
      · have hm : (-(u : Int)).tmod 10 = 0 := by rw [tmod_neg10, hr]; rfl
        have hcv := conv_one wr (u % 10) (by omega) 48 (by omega)
        clear hr
        go_wp2
        go_roundw
        case rel => exact ⟨u / 10, dgt (u % 10) :: acc, rfl, congrArg Value.string (cons_str _ _), by omega, HL.out.step h0, hbw.alloc (by omega) _⟩
        case measure => simp [intOf]; omega
      · have hm := tmod_neg10 u
        have hcv := conv_one wr (u % 10) (by omega) (48 + (u : Int) % 10) (by omega)
        have hr' : -((u % 10 : Nat) : Int) < 0 := by omega
        go_wp2
        go_roundw
        case rel => exact ⟨u / 10, dgt (u % 10) :: acc, rfl, congrArg Value.string (cons_str _ _), by omega, HL.out.step h0, hbw.alloc (by omega) _⟩
        case measure => simp [intOf]; omega
theorem rprint_any {B : Nat} (n : Int) (hn : InR n) (w : World) (hB : B ≤ w.heap.size) :
    Calls Tryd.prog 17 #[.int .i64 n] w fun e w' => e = .returned (.string ⟨(wtext n).toArray⟩) ∧ Below B w w' := by
  obtain ⟨n0, n1⟩ := hn
  by_cases h : n < 0
  · obtain ⟨u, rfl⟩ : ∃ u : Nat, n = -(u : Int) := ⟨n.natAbs, by omega⟩
    rw [wtext_neg h, show (-(u : Int)).natAbs = u by omega]
    exact rprint_neg u (by omega) (by omega) (by simpa using (by omega : ¬ -(u : Int) = 0)) w hB
  · obtain ⟨u, rfl⟩ : ∃ u : Nat, n = u := ⟨n.natAbs, by omega⟩
    rw [wtext_pos h, show ((u : Int)).natAbs = u by omega]
    by_cases h0 : u = 0
    · subst h0
      rw [Lib.decDigits_one (by omega)]
      go_enter Tryd.func17, Tryd.ntmps17
      go_wp2
      go_ret
      exact ⟨rfl, Below.refl _ _⟩
    · exact rprint_pos u (by omega) (by omega) (by simpa using h0) w hB
end Go.Proofs.YtpiopdpebjkphaaDoor
