/- Parse at every string: of a number's text the number and no error, of any other text 0 and the text's error. -/
import Derived.Test.YtekbfgjlkmldgaaDoorWParse
namespace Go.Proofs.YtekbfgjlkmldgaaDoor.W
open Go.RowKit
theorem wtext_zero : wtext 0 = [48] := by rw [wtext, if_neg (by omega), show (0 : Int).natAbs = 0 by rfl, Lib.decDigits_one (by omega)]; rfl
theorem print0 {B : Nat} (w : World) (hp : Pow B w) (hB : B ≤ w.heap.size) :
    Calls Tryd.prog 56 #[.int .i64 0] w fun e w' => e = .returned (.string ⟨#[48]⟩) ∧ Below B w w' := by
  have h := print_any 0 (by omega) (by omega) w hp hB
  rw [wtext_zero] at h
  exact h
set_option maxHeartbeats 1000000 in
theorem parse_empty {B : Nat} (w : World) (hp : Pow B w) (hB : B ≤ w.heap.size) :
    Calls Tryd.prog 48 #[.string ⟨#[]⟩] w (Read ⟨#[]⟩ B w) := by
  go_enter Tryd.func48, Tryd.ntmps48
  go_wp2
  go_loopw [6] (fun n wr => n = .int .i64 0 ∧ wr.heap[w.heap.size]? = some (.stringIter ⟨#[]⟩ 0) ∧ Below B w wr) (fun _ _ => 0)
  case atStart => exact ⟨rfl, World.iter_heap w ⟨#[]⟩ 0, (Below.refl _ w).alloc hB _⟩
  case round =>
    obtain ⟨rfl, hit, hbw⟩ := hrel
    have hsz : w.heap.size < wr.heap.size := (Array.getElem?_eq_some_iff.1 hit).1
    have hnx : ∀ ty, (Instr.next (.pointer (some ⟨w.heap.size, 0, none⟩)) true ty).run Tryd.prog wr = _ := fun ty => Lib.run_next_end_at wr w.heap.size ⟨#[]⟩ 0 ty hit (by decide)
    go_wp2_with (go_at_call 56; refine (print0 wr (hp.on hbw) (by omega)).mono ?_; rintro e w' ⟨rfl, hb⟩)
    go_ret2
    exact Read.no no_empty (hbw.trans hb)
theorem tail_of (s : ByteArray) : (s.extract 1 s.size).data.toList = s.data.toList.tail := by
  rw [ByteArray.data_extract]
  cases h : s.data.toList with
  | nil => have e : s.data = #[] := by simpa using h
           simp [e, ByteArray.size]
  | cons c r => have e : s.data = (c :: r).toArray := by rw [← h]
                simp [e, ByteArray.size]
theorem parse_any {B : Nat} (s : ByteArray) (hs : s.size ≤ 140737488351232) (w : World) (hp : Pow B w) (hB : B ≤ w.heap.size) :
    Calls Tryd.prog 48 #[.string s] w (Read s B w) := by
  by_cases h0 : 0 < s.size
  · have hE : s.toList.isEmpty = false := by
      rw [ByteArray.toList_eq]
      cases hl : s.data.toList with
      | nil => have : s.size = 0 := by rw [ByteArray.size, ← Array.length_toList, hl]; rfl
               omega
      | cons _ _ => rfl
    have hh : s.data.toList.head? = some s[0] := by
      rw [List.head?_eq_getElem?]
      have : s.data.toList[0]? = some (s.data[0]'h0) := by simp
      exact this
    by_cases hT : s[0].toNat = 126
    · refine parse_sign s hs h0 hE (by simp [hT]) (Lib.hid ?_) _ rfl (Lib.hid (tail_of s)) ?_ w hp hB
      · rw [hh, show s[0] = (126 : UInt8) from UInt8.toNat_inj.1 (by rw [hT]; rfl)]
      · rw [ByteArray.size_extract]; omega
    · refine parse_plain s hs h0 hE (by simpa using (by omega : ¬ (s[0].toNat : Int) = 126)) (Lib.hid ?_) w hp hB
      rw [hh]
      intro e
      exact hT (by rw [Option.some.inj e]; rfl)
  · have e : s = ⟨#[]⟩ := by
      apply ByteArray.ext
      exact Array.eq_empty_of_size_eq_zero (by have : s.data.size = s.size := rfl; omega)
    subst e
    exact parse_empty w hp hB
end Go.Proofs.YtekbfgjlkmldgaaDoor.W
