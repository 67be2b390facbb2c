/- Joined by program: QRPrint. -/
import Derived.Test.YtjakeidbajkdcaaGreatDoorG23
import Derived.Test.YtjakeidbajkdcaaGreatDoorG04
/- The document's own writing, and Cut: of every text of at most 10000 bytes ref.Print returns the writing; Cut returns the first 1000 bytes; what lay below is as it was. -/
namespace Go.Proofs.YtjakeidbajkdcaaGreatDoor.Q
open Go.RowKit
set_option maxRecDepth 100000 in
/-- A slice of new bytes, made into a string. -/
theorem conv_new (w : World) (l : List UInt8) {n : Nat} (hn : n = l.length) : (convert 120 9 (.slice (some ⟨w.heap.size, 0, none⟩) n n)).run Tryz.prog (w.alloc (.cells (bv l).toArray 5)) = .ok (.string ⟨l.toArray⟩) (w.alloc (.cells (bv l).toArray 5)) := by
  subst hn
  refine run_convert_bytes_back (P := Tryz.prog) _ 120 9 5 ⟨w.heap.size, 0, none⟩ l.length l Tryz.underlying120 Tryz.underlying5 Tryz.underlying9 (fun j hj => ?_)
  rw [Addr.add_lit, cell_of_row _ _ (0 + j) (bv l).toArray 5 (0, 0) (heap_alloc_new w _), Nat.zero_add]
  simp [bv, hj]
section
variable {B : Nat} (s : ByteArray) (hs : s.size ≤ 10000) (w : World) (hB : B ≤ w.heap.size)
include hs hB
set_option maxRecDepth 100000 in
set_option maxHeartbeats 4000000 in
theorem rprint_any : Calls Tryz.prog 72 #[.string s] w fun e w' => e = .returned (.string ⟨(qtext s.data.toList).toArray⟩) ∧ Below B w w' := by
  go_enter Tryz.func72, Tryz.ntmps72
  go_wp2
  go_loopw [3, 4] (fun v i wr => ∃ (k : Nat) (l : List UInt8), k ≤ s.size ∧ i = .int .i64 k ∧ v = .string ⟨l.toArray⟩ ∧ Hid (l = 34 :: wrt (s.data.toList.take k)) ∧ Below B w wr) (fun _ i _ => s.size - (intOf i).toNat)
  case atStart => exact ⟨0, [34], Nat.zero_le _, rfl, rfl, rfl, Below.refl _ _⟩
  case round =>
    obtain ⟨k, l, hk, rfl, rfl, hl, hbw⟩ := hrel
    have hz := hbw.size
    have hlen : l.length ≤ 40001 := by
      have h1 := wrt_len (s.data.toList.take k)
      have h2 : (s.data.toList.take k).length ≤ k := List.length_take_le _ _
      rw [hl.out, List.length_cons]; omega
    by_cases hlt : k < s.size
    · have HT : Hid (∀ d, wr1 s[k] = d → l ++ d = 34 :: wrt (s.data.toList.take (k + 1))) := fun d hd => by rw [hl.out, wr_take s k hlt, hd]
      by_cases h34 : s[k].toNat = 34
      · have HE := Lib.hid (HT.out [92, 34] (by rw [wr1, if_pos h34]))
        have e34 := eqb h34
        clear h34
        go_wp2_with fail
        go_roundw
        case rel => exact ⟨k + 1, l ++ [92, 34], by omega, by go_num, congrArg Value.string (str_app _ _), HE, hbw⟩
        case measure => simp [intOf]; omega
      have e34 := neb h34
      by_cases h92 : s[k].toNat = 92
      · have HE := Lib.hid (HT.out [92, 92] (by rw [wr1, if_neg h34, if_pos h92]))
        have e92 := eqb h92
        clear h92 h34
        go_wp2_with fail
        go_roundw
        case rel => exact ⟨k + 1, l ++ [92, 92], by omega, by go_num, congrArg Value.string (str_app _ _), HE, hbw⟩
        case measure => simp [intOf]; omega
      have e92 := neb h92
      by_cases h10 : s[k].toNat = 10
      · have HE := Lib.hid (HT.out [92, 110] (by rw [wr1, if_neg h34, if_neg h92, if_pos h10]))
        have e10 := eqb h10
        clear h92 h34 h10
        go_wp2_with fail
        go_roundw
        case rel => exact ⟨k + 1, l ++ [92, 110], by omega, by go_num, congrArg Value.string (str_app _ _), HE, hbw⟩
        case measure => simp [intOf]; omega
      have e10 := neb h10
      by_cases h9 : s[k].toNat = 9
      · have HE := Lib.hid (HT.out [92, 116] (by rw [wr1, if_neg h34, if_neg h92, if_neg h10, if_pos h9]))
        have e9 := eqb h9
        clear h92 h34 h10 h9
        go_wp2_with fail
        go_roundw
        case rel => exact ⟨k + 1, l ++ [92, 116], by omega, by go_num, congrArg Value.string (str_app _ _), HE, hbw⟩
        case measure => simp [intOf]; omega
      have e9 := neb h9
      by_cases hb : bare s[k]
      · have HE := Lib.hid (HT.out [s[k]] (by rw [wr1, if_neg h34, if_neg h92, if_neg h10, if_neg h9, if_pos hb]))
        have b1 : (32 : Int) ≤ s[k].toNat := by have := hb.1; omega
        have b2 : (s[k].toNat : Int) ≤ 126 := by have := hb.2.1; omega
        have hcv : (convert 120 9 (.slice (some ⟨wr.heap.size, 0, none⟩) 1 1)).run Tryz.prog (wr.alloc (.cells #[.int .u8 (s[k].toNat : Int)] 5)) = .ok (.string ⟨#[s[k]]⟩) (wr.alloc (.cells #[.int .u8 (s[k].toNat : Int)] 5)) := conv_new wr [s[k]] rfl
        clear h92 h34 h10 h9 hb
        go_wp2_with fail
        go_roundw
        case rel => exact ⟨k + 1, l ++ [s[k]], by omega, by go_num, congrArg Value.string (str_app _ _), HE, hbw.alloc (by omega) _⟩
        case measure => simp [intOf]; omega
      · have HE := Lib.hid (HT.out [92, 120, hexd (s[k].toNat / 16), hexd (s[k].toNat % 16)] (by rw [wr1, if_neg h34, if_neg h92, if_neg h10, if_neg h9, if_neg hb]))
        have hb' : ¬ (32 ≤ s[k].toNat ∧ s[k].toNat ≤ 126) := fun h => hb ⟨h.1, h.2, h34, h92⟩
        have hlt' := s[k].toNat_lt
        have i1 : ∀ W : World, (Instr.index 9 (.string digs) (.int .u8 ((s[k].toNat : Int) / 16))).run Tryz.prog W = .ok (.int .u8 ((hexd (s[k].toNat / 16)).toNat : Int)) W := idx_hex .u8 (.inl rfl) (s[k].toNat / 16) (by omega)
        have i2 : ∀ W : World, (Instr.index 9 (.string digs) (.int .u8 ((s[k].toNat : Int) % 16))).run Tryz.prog W = .ok (.int .u8 ((hexd (s[k].toNat % 16)).toNat : Int)) W := idx_hex .u8 (.inl rfl) (s[k].toNat % 16) (by omega)
        have hcv : (convert 120 9 (.slice (some ⟨wr.heap.size, 0, none⟩) 2 2)).run Tryz.prog (wr.alloc (.cells #[.int .u8 ((hexd (s[k].toNat / 16)).toNat : Int), .int .u8 ((hexd (s[k].toNat % 16)).toNat : Int)] 5)).drew = .ok (.string ⟨#[hexd (s[k].toNat / 16), hexd (s[k].toNat % 16)]⟩) (wr.alloc (.cells #[.int .u8 ((hexd (s[k].toNat / 16)).toNat : Int), .int .u8 ((hexd (s[k].toNat % 16)).toNat : Int)] 5)).drew :=
          conv_new wr.drew [hexd (s[k].toNat / 16), hexd (s[k].toNat % 16)] rfl
        by_cases h32 : 32 ≤ s[k].toNat
        · have b1 : (32 : Int) ≤ s[k].toNat := by omega
          have b2 : ¬ (s[k].toNat : Int) ≤ 126 := by omega
          clear h92 h34 h10 h9 hb hb'
          go_wp2_with fail
          go_region
          all_goals
            go_wp2
            go_roundw
            case rel => exact ⟨k + 1, l ++ [92, 120, hexd (s[k].toNat / 16), hexd (s[k].toNat % 16)], by omega, by go_num, congrArg Value.string (str_app _ _), HE, (hbw.alloc (by omega) _).drew⟩
            case measure => simp [intOf]; omega
        · have b1 : ¬ (32 : Int) ≤ s[k].toNat := by omega
          clear h92 h34 h10 h9 hb hb'
          go_wp2_with fail
          go_region
          all_goals
            go_wp2
            go_roundw
            case rel => exact ⟨k + 1, l ++ [92, 120, hexd (s[k].toNat / 16), hexd (s[k].toNat % 16)], by omega, by go_num, congrArg Value.string (str_app _ _), HE, (hbw.alloc (by omega) _).drew⟩
            case measure => simp [intOf]; omega
    · obtain rfl : k = s.size := by omega
      have HE : Hid (l = 34 :: wrt s.data.toList) := by
        have := hl.out
        rw [List.take_of_length_le (by rw [size_len]; exact Nat.le_refl _)] at this
        exact this
      go_wp2_with fail
      go_ret
      exact ⟨ret_str (by rw [HE.out]; exact str_app _ _), hbw⟩
end
end Go.Proofs.YtjakeidbajkdcaaGreatDoor.Q
