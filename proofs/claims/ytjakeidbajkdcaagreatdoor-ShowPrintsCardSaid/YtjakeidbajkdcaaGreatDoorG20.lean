/- Joined by program: WPrint, WDigits, WText, WText2, WRPrint. -/
import Derived.Test.YtjakeidbajkdcaaGreatDoorG18
import Derived.Test.YtjakeidbajkdcaaGreatDoorG19
import Derived.Lib.Strings
import Derived.WalkSpells
import Derived.Lib.ConvBytes
/- Print: a number's digits, with ~ ahead if it is below 0; and the chapter's examples. -/
namespace Go.Proofs.YtjakeidbajkdcaaGreatDoor.W
open Go.RowKit
/-- The text of a number. -/
def wtext (n : Int) : List UInt8 := if n < 0 then 126 :: Lib.decDigits n.natAbs else Lib.decDigits n.natAbs
theorem print_pos {B : Nat} (n : Int) (h0 : ¬ n < 0) (h1 : n ≤ 9223372036854775807) (w : World) (hp : Pow B w) (hB : B ≤ w.heap.size) :
    Calls Tryz.prog 64 #[.int .i64 n] w fun e w' => e = .returned (.string ⟨(wtext n).toArray⟩) ∧ Below B w w' := by
  have e : wtext n = Lib.itoa n := by
    obtain ⟨u, rfl⟩ : ∃ u : Nat, n = u := ⟨n.toNat, by omega⟩
    rw [Lib.itoa_nonneg, wtext, if_neg h0]; rfl
  rw [e]; clear e
  have hc := fmt_any n (by omega) h1 w hp hB
  go_enter Tryz.func64, Tryz.ntmps64
  go_wp2_with (go_at_call 109; refine hc.mono ?_; rintro e w' ⟨rfl, hb⟩)
  go_ret
  exact ⟨rfl, hb⟩
theorem decDigits_le (u : Nat) (hu : u < 18446744073709551616) : 1 ≤ (Lib.decDigits u).length ∧ (Lib.decDigits u).length ≤ 20 := by
  rw [Lib.decDigits_length]
  have h := Lib.nDigits_pos u
  refine ⟨h, ?_⟩
  by_cases h0 : u = 0
  · subst h0; rw [Lib.nDigits_small (by omega)]; omega
  · have := Lib.numDigits_eq u (by omega) hu
    split at this <;> omega
theorem ret_str {s t : ByteArray} (h : s = t) : Ending.returned (.string s) = Ending.returned (.string t) := by rw [h]
theorem tilde_cut (l : List UInt8) (c : UInt8) : ((⟨#[126]⟩ : ByteArray) ++ (⟨(c :: l).toArray⟩ : ByteArray).extract 1 (l.length + 1)) = ⟨(126 :: l).toArray⟩ := by
  apply ByteArray.ext
  rw [ByteArray.data_append, ByteArray.data_extract]
  apply Array.toList_inj.1
  simp
theorem print_neg {B : Nat} (n : Int) (h0 : n < 0) (h1 : -9223372036854775808 ≤ n) (w : World) (hp : Pow B w) (hB : B ≤ w.heap.size) :
    Calls Tryz.prog 64 #[.int .i64 n] w fun e w' => e = .returned (.string ⟨(wtext n).toArray⟩) ∧ Below B w w' := by
  have e : Lib.itoa n = 45 :: Lib.decDigits n.natAbs := by
    obtain ⟨u, rfl⟩ : ∃ u : Nat, n = -(u : Int) := ⟨n.natAbs, by omega⟩
    rw [Lib.itoa_neg _ (by omega)]; simp
  have hc := fmt_any n h1 (by omega) w hp hB
  rw [e] at hc; clear e
  have hl := decDigits_le n.natAbs (by omega)
  obtain ⟨hl0, hl1⟩ := hl
  go_enter Tryz.func64, Tryz.ntmps64
  go_wp2_with (go_at_call 109; refine hc.mono ?_; rintro e w' ⟨rfl, hb⟩)
  go_ret
  exact ⟨ret_str (by rw [wtext, if_pos h0]; exact tilde_cut _ _), hb⟩
theorem print_any {B : Nat} (n : Int) (h0 : -9223372036854775808 ≤ n) (h1 : n ≤ 9223372036854775807) (w : World) (hp : Pow B w) (hB : B ≤ w.heap.size) :
    Calls Tryz.prog 64 #[.int .i64 n] w fun e w' => e = .returned (.string ⟨(wtext n).toArray⟩) ∧ Below B w w' := by
  by_cases h : n < 0
  · exact print_neg n h h0 w hp hB
  · exact print_pos n h h1 w hp hB
end Go.Proofs.YtjakeidbajkdcaaGreatDoor.W
/- Plain mathematics of decimal digits: what a row of digits is worth, that a number's digits are worth the number, and which rows are a number's digits. -/
namespace Go.Proofs.YtjakeidbajkdcaaGreatDoor.W

/-- What a row of digits is worth. -/
def dval (l : List UInt8) : Nat := l.foldl (fun n c => 10 * n + (c.toNat - 48)) 0
theorem dval_snoc (l : List UInt8) (c : UInt8) : dval (l ++ [c]) = 10 * dval l + (c.toNat - 48) := by simp [dval]
theorem dval_nil : dval [] = 0 := rfl
/-- All are digits. -/
def AllDig (l : List UInt8) : Prop := ∀ c ∈ l, 48 ≤ c.toNat ∧ c.toNat ≤ 57
theorem AllDig.snoc {l : List UInt8} {c : UInt8} (h : AllDig l) (h1 : 48 ≤ c.toNat) (h2 : c.toNat ≤ 57) : AllDig (l ++ [c]) := by
  intro x hx
  rcases List.mem_append.1 hx with hx | hx
  · exact h x hx
  · rw [List.mem_singleton.1 hx]; exact ⟨h1, h2⟩
theorem dig_nat (d : Nat) (h : d < 10) : (UInt8.ofNat (48 + d)).toNat = 48 + d := by
  rw [UInt8.toNat_ofNat']; omega
theorem dec_small {u : Nat} (h : u < 10) : Lib.decDigits u = [UInt8.ofNat (48 + u)] := by rw [Lib.decDigits, dif_pos h]
theorem dec_big {u : Nat} (h : ¬ u < 10) : Lib.decDigits u = Lib.decDigits (u / 10) ++ [UInt8.ofNat (48 + u % 10)] := by rw [Lib.decDigits, dif_neg h]
theorem dec_dig (u : Nat) : AllDig (Lib.decDigits u) := by
  induction u using Nat.strongRecOn with
  | ind u ih =>
    by_cases h : u < 10
    · rw [dec_small h]
      intro c hc
      rw [List.mem_singleton.1 hc, dig_nat u h]; omega
    · rw [dec_big h]
      have := dig_nat (u % 10) (by omega)
      exact (ih (u / 10) (by omega)).snoc (by omega) (by omega)
theorem dec_val (u : Nat) : dval (Lib.decDigits u) = u := by
  induction u using Nat.strongRecOn with
  | ind u ih =>
    by_cases h : u < 10
    · have e := dval_snoc [] (UInt8.ofNat (48 + u))
      rw [List.nil_append] at e
      rw [dec_small h, e, dval_nil, dig_nat u h]; omega
    · rw [dec_big h, dval_snoc, ih (u / 10) (by omega), dig_nat (u % 10) (by omega)]; omega
theorem dec_ne (u : Nat) : Lib.decDigits u ≠ [] := by
  intro h
  have := Lib.nDigits_pos u
  rw [← Lib.decDigits_length, h] at this
  simp at this
end Go.Proofs.YtjakeidbajkdcaaGreatDoor.W
/- Plain mathematics of a number's text: which texts are a number's, and what is read of any text: the number and no error, or 0 and the error. -/
namespace Go.Proofs.YtjakeidbajkdcaaGreatDoor.W
open Go.RowKit
/-- A number of 64 bits. -/
def InR (m : Int) : Prop := -9223372036854775808 ≤ m ∧ m ≤ 9223372036854775807
instance (m : Int) : Decidable (InR m) := by unfold InR; infer_instance
theorem wrap_in (x : Int) : InR (wrap64 x) := by unfold InR; simp only [wrap64]; omega
theorem wrap_of {x : Int} (h : InR x) : wrap64 x = x := by unfold InR at h; simp only [wrap64]; omega
/-- What a text is worth, if it is a number's. -/
def tval (l : List UInt8) : Int := if l.head? = some 126 then -(dval l.tail : Int) else dval l
theorem dec_head_dig (u : Nat) : (Lib.decDigits u).head? ≠ some 126 := by
  intro h
  have := dec_dig u 126 (List.mem_of_mem_head? h)
  simp at this
theorem wtext_neg {n : Int} (h : n < 0) : wtext n = 126 :: Lib.decDigits n.natAbs := by rw [wtext, if_pos h]
theorem wtext_pos {n : Int} (h : ¬ n < 0) : wtext n = Lib.decDigits n.natAbs := by rw [wtext, if_neg h]
theorem tval_wtext (n : Int) : tval (wtext n) = n := by
  by_cases h : n < 0
  · rw [wtext_neg h, tval, if_pos (by simp), List.tail_cons, dec_val]; omega
  · rw [wtext_pos h, tval, if_neg (dec_head_dig _), dec_val]; omega
/-- What is read of a text: the number, or 0; no error, or the text's. -/
def pv (l : List UInt8) : Int := if InR (tval l) ∧ wtext (tval l) = l then tval l else 0
def pe (l : List UInt8) : Int := if InR (tval l) ∧ wtext (tval l) = l then 0 else 5
theorem pv_yes {m : Int} (h : InR m) : pv (wtext m) = m ∧ pe (wtext m) = 0 := by
  unfold pv pe
  rw [tval_wtext, if_pos ⟨h, rfl⟩, if_pos ⟨h, rfl⟩]; exact ⟨rfl, rfl⟩
theorem pv_no {l : List UInt8} (h : ∀ m, InR m → l ≠ wtext m) : pv l = 0 ∧ pe l = 5 := by
  have : ¬ (InR (tval l) ∧ wtext (tval l) = l) := fun ⟨h1, h2⟩ => h _ h1 h2.symm
  unfold pv pe
  rw [if_neg this, if_neg this]; exact ⟨rfl, rfl⟩
/-- Without a sign. -/
theorem plain_text {l : List UInt8} (hs : l.head? ≠ some 126) {m : Int} (e : l = wtext m) : ¬ m < 0 ∧ l = Lib.decDigits m.natAbs := by
  by_cases h : m < 0
  · exact absurd (by rw [e, wtext_neg h]; rfl) hs
  · exact ⟨h, by rw [e, wtext_pos h]⟩
theorem no_plain {l : List UInt8} (hs : l.head? ≠ some 126) (hb : ¬ AllDig l) : ∀ m, InR m → l ≠ wtext m := by
  intro m _ e
  obtain ⟨_, e'⟩ := plain_text hs e
  exact hb (by rw [e']; exact dec_dig _)
theorem end_plain {l : List UInt8} (hs : l.head? ≠ some 126) (hw : wtext (wrap64 (dval l)) ≠ l) : ∀ m, InR m → l ≠ wtext m := by
  intro m hm e
  obtain ⟨h, e'⟩ := plain_text hs e
  have hv : (dval l : Int) = m := by rw [e', dec_val]; omega
  exact hw (by rw [hv, wrap_of hm, ← e])
/-- With a sign. -/
theorem sign_text {l : List UInt8} (hs : l.head? = some 126) {m : Int} (e : l = wtext m) : m < 0 ∧ l.tail = Lib.decDigits m.natAbs := by
  by_cases h : m < 0
  · exact ⟨h, by rw [e, wtext_neg h, List.tail_cons]⟩
  · rw [e, wtext_pos h] at hs
    exact absurd hs (dec_head_dig _)
theorem no_sign {l : List UInt8} (hs : l.head? = some 126) (hb : ¬ AllDig l.tail) : ∀ m, InR m → l ≠ wtext m := by
  intro m _ e
  obtain ⟨_, e'⟩ := sign_text hs e
  exact hb (by rw [e']; exact dec_dig _)
theorem end_sign {l : List UInt8} (hs : l.head? = some 126) (hw : wtext (wrap64 (-(dval l.tail : Int))) ≠ l) : ∀ m, InR m → l ≠ wtext m := by
  intro m hm e
  obtain ⟨h, e'⟩ := sign_text hs e
  have hv : (-(dval l.tail : Int)) = m := by rw [e', dec_val]; omega
  exact hw (by rw [hv, wrap_of hm, ← e])
theorem no_empty : ∀ m, InR m → [] ≠ wtext m := by
  intro m _ e
  by_cases h : m < 0
  · rw [wtext_neg h] at e; cases e
  · rw [wtext_pos h] at e; exact dec_ne _ e.symm
/-- A round of the reading, as it wraps. -/
theorem step_plain (v c : Int) : wrap64 (wrap64 (wrap64 v * 10) + c) = wrap64 (10 * v + c) := by simp only [wrap64]; omega
theorem step_sign (v c : Int) : wrap64 (wrap64 (wrap64 (-v) * 10) + -c) = wrap64 (-(10 * v + c)) := by simp only [wrap64]; omega
theorem take_snoc (s : ByteArray) (k : Nat) (h : k < s.size) : s.data.toList.take (k + 1) = s.data.toList.take k ++ [s[k]] := by
  rw [List.take_succ_eq_append_getElem (by simpa using h)]; rfl
theorem dval_take (s : ByteArray) (k : Nat) (h : k < s.size) (h48 : 48 ≤ (s[k]).toNat) : (dval (s.data.toList.take (k + 1)) : Int) = 10 * (dval (s.data.toList.take k) : Int) + ((s[k].toNat : Int) - 48) := by
  rw [take_snoc s k h, dval_snoc]; omega
theorem take_all (s : ByteArray) {k : Nat} (h : ¬ k < s.size) : s.data.toList.take k = s.data.toList := List.take_of_length_le (by simp; exact Nat.le_of_not_lt h)
theorem bad_at (s : ByteArray) (k : Nat) (h : k < s.size) (hb : ¬ (48 ≤ (s[k]).toNat ∧ (s[k]).toNat ≤ 57)) : ¬ AllDig s.data.toList := fun ha =>
  hb (ha _ (by show s.data[k]'h ∈ s.data.toList; exact Array.mem_toList_iff.2 (Array.getElem_mem h)))
end Go.Proofs.YtjakeidbajkdcaaGreatDoor.W
/- More plain mathematics of a number's text: what makes a text no number's, and what makes it one. -/
namespace Go.Proofs.YtjakeidbajkdcaaGreatDoor.W
open Go.RowKit
theorem dec_len : ∀ (k u : Nat), 1 ≤ k → u < 10 ^ k → (Lib.decDigits u).length ≤ k
  | 0, _, h, _ => by omega
  | k + 1, u, _, h => by
    by_cases h9 : u < 10
    · rw [dec_small h9, List.length_singleton]; omega
    · have hk : 1 ≤ k := by
        rcases Nat.eq_zero_or_pos k with e | e
        · subst e; simp at h; omega
        · exact e
      rw [dec_big h9, List.length_append, List.length_singleton]
      have := dec_len k (u / 10) hk (by rw [Nat.pow_succ] at h; omega)
      omega
theorem dec_len19 (u : Nat) (h : u ≤ 9223372036854775808) : (Lib.decDigits u).length ≤ 19 := dec_len 19 u (by omega) (by omega)
theorem size_len (s : ByteArray) : s.data.toList.length = s.size := by rw [Array.length_toList]; rfl
end Go.Proofs.YtjakeidbajkdcaaGreatDoor.W
/- The document's own printing: of every number of 64 bits it returns the number's text; what lay below is as it was. -/
namespace Go.Proofs.YtjakeidbajkdcaaGreatDoor.W
open Go.RowKit
set_option maxRecDepth 100000 in
/-- A digit. -/
def dgt (d : Nat) : UInt8 := UInt8.ofNat (48 + d)
set_option maxRecDepth 100000 in
/-- A slice of one byte, made into a string. -/
theorem conv_one (wr : World) (d : Nat) (hd : d < 10) (z : Int) (hz : z = ((48 + d : Nat) : Int)) :
    (convert 120 9 (.slice (some ⟨wr.heap.size, 0, none⟩) 1 1)).run Tryz.prog (wr.alloc (.cells #[.int .u8 z] 5)) = .ok (.string ⟨#[dgt d]⟩) (wr.alloc (.cells #[.int .u8 z] 5)) := by
  subst hz
  exact run_convert_bytes_back (P := Tryz.prog) _ 120 9 5 ⟨wr.heap.size, 0, none⟩ 1 [dgt d] Tryz.underlying120 Tryz.underlying5 Tryz.underlying9 (fun j hj => by
    obtain rfl : j = 0 := by simpa using hj
    have h : (wr.alloc (.cells #[.int .u8 ((48 + d : Nat) : Int)] 5)).cell? ⟨wr.heap.size, 0, none⟩ = some (.int .u8 ((48 + d : Nat) : Int)) := by
      rw [World.cell?_alloc_new]; rfl
    rw [Addr.add_lit]
    show (wr.alloc _).cell? ⟨wr.heap.size, 0, none⟩ = some (.int .u8 ((dgt d).toNat : Int))
    rw [h, dgt, dig_nat d hd])
set_option maxRecDepth 100000 in
theorem cons_str (c : UInt8) (l : List UInt8) : ((⟨#[c]⟩ : ByteArray) ++ (⟨l.toArray⟩ : ByteArray)) = ⟨(c :: l).toArray⟩ := by
  apply ByteArray.ext
  rw [ByteArray.data_append]
  apply Array.toList_inj.1
  simp
set_option maxRecDepth 100000 in
/-- What the loop keeps: the digits still to come, ahead of those that stand. -/
def Left (N u : Nat) (acc : List UInt8) : Prop := (0 < u → Lib.decDigits N = Lib.decDigits u ++ acc) ∧ (u = 0 → Lib.decDigits N = acc)
set_option maxRecDepth 100000 in
theorem Left.start (N : Nat) (h : 0 < N) : Left N N [] := ⟨fun _ => by simp, fun e => by omega⟩
set_option maxRecDepth 100000 in
theorem Left.step {N u : Nat} {acc : List UInt8} (h : Left N u acc) (hu : u ≠ 0) : Left N (u / 10) (dgt (u % 10) :: acc) := by
  have e := h.1 (by omega)
  by_cases h9 : u < 10
  · refine ⟨fun x => by omega, fun _ => ?_⟩
    rw [e, dec_small h9, dgt, show u % 10 = u by omega]; rfl
  · refine ⟨fun _ => ?_, fun x => by omega⟩
    rw [e, dec_big h9, List.append_assoc]; rfl
set_option maxRecDepth 100000 in
theorem Left.len {N u : Nat} {acc : List UInt8} (h : Left N u acc) (hN : N < 18446744073709551616) : acc.length ≤ 20 := by
  have hl := (decDigits_le N hN).2
  by_cases h0 : u = 0
  · rw [h.2 h0] at hl; exact hl
  · rw [h.1 (by omega), List.length_append] at hl; omega
set_option maxRecDepth 100000 in
set_option maxHeartbeats 1000000 in
theorem rprint_pos {B : Nat} (N : Nat) (hN : 0 < N) (h1 : N ≤ 9223372036854775807) (hz : ((N : Int) == 0) = false) (w : World) (hB : B ≤ w.heap.size) :
    Calls Tryz.prog 71 #[.int .i64 N] w fun e w' => e = .returned (.string ⟨(Lib.decDigits N).toArray⟩) ∧ Below B w w' := by
  go_enter Tryz.func71, Tryz.ntmps71
  go_wp2
  go_loopw [3, 4] (fun s x wr => ∃ (u : Nat) (acc : List UInt8), x = .int .i64 u ∧ s = .string ⟨acc.toArray⟩ ∧ u ≤ N ∧ Left N u acc ∧ Below B w wr) (fun _ x _ => (intOf x).natAbs)
  case atStart => exact ⟨N, [], rfl, rfl, Nat.le_refl _, Left.start N hN, Below.refl _ _⟩
  case round =>
    obtain ⟨u, acc, rfl, rfl, hu, hL, hbw⟩ := hrel
    have HL := Lib.hid hL
    clear hL
    have hwB := hbw.size
    by_cases h0 : u = 0
    · subst h0
      go_wp2
      go_ret
      exact ⟨ret_str (by rw [HL.out.2 rfl]), hbw⟩
    · have hz : ((u : Int) != 0) = true := by simpa using h0
      have hla := HL.out.len (by omega)
      have hcv := conv_one wr (u % 10) (by omega) (48 + (u : Int) % 10) (by omega)
      go_wp2
      go_roundw
      case rel => exact ⟨u / 10, dgt (u % 10) :: acc, rfl, congrArg Value.string (cons_str _ _), by omega, HL.out.step h0, hbw.alloc (by omega) _⟩
      case measure => simp [intOf]; omega
set_option maxRecDepth 100000 in
theorem tmod_neg10 (u : Nat) : (-(u : Int)).tmod 10 = -((u % 10 : Nat) : Int) := by
  rw [Int.neg_tmod, Int.tmod_eq_emod_of_nonneg (by omega)]; rfl
set_option maxRecDepth 100000 in
theorem tdiv_neg10 (u : Nat) : (-(u : Int)).tdiv 10 = -((u / 10 : Nat) : Int) := by
  rw [Int.neg_tdiv, Int.tdiv_eq_ediv_of_nonneg (by omega)]; rfl
set_option maxRecDepth 100000 in
set_option maxHeartbeats 1000000 in
theorem rprint_neg {B : Nat} (N : Nat) (hN : 0 < N) (h1 : N ≤ 9223372036854775808) (hz : (-(N : Int) == 0) = false) (w : World) (hB : B ≤ w.heap.size) :
    Calls Tryz.prog 71 #[.int .i64 (-(N : Int))] w fun e w' => e = .returned (.string ⟨(126 :: Lib.decDigits N).toArray⟩) ∧ Below B w w' := by
  go_enter Tryz.func71, Tryz.ntmps71
  go_wp2
  go_loopw [3, 4] (fun s x wr => ∃ (u : Nat) (acc : List UInt8), x = .int .i64 (-(u : Int)) ∧ s = .string ⟨acc.toArray⟩ ∧ u ≤ N ∧ Left N u acc ∧ Below B w wr) (fun _ x _ => (intOf x).natAbs)
  case atStart => exact ⟨N, [], rfl, rfl, Nat.le_refl _, Left.start N hN, Below.refl _ _⟩
  case round =>
    obtain ⟨u, acc, rfl, rfl, hu, hL, hbw⟩ := hrel
    have HL := Lib.hid hL
    clear hL
    have hwB := hbw.size
    have hla := HL.out.len (by omega)
    by_cases h0 : u = 0
    · subst h0
      go_wp2
      go_ret
      exact ⟨ret_str (by rw [HL.out.2 rfl]; exact cons_str _ _), hbw⟩
    · have hz : (-(u : Int) != 0) = true := by simpa using h0
      have hd := tdiv_neg10 u
      by_cases hr : u % 10 = 0
      · have hm : (-(u : Int)).tmod 10 = 0 := by rw [tmod_neg10, hr]; rfl
        have hcv := conv_one wr (u % 10) (by omega) 48 (by omega)
        clear hr
        go_wp2
        go_roundw
        case rel => exact ⟨u / 10, dgt (u % 10) :: acc, rfl, congrArg Value.string (cons_str _ _), by omega, HL.out.step h0, hbw.alloc (by omega) _⟩
        case measure => simp [intOf]; omega
      · have hm := tmod_neg10 u
        have hcv := conv_one wr (u % 10) (by omega) (48 + (u : Int) % 10) (by omega)
        have hr' : -((u % 10 : Nat) : Int) < 0 := by omega
        go_wp2
        go_roundw
        case rel => exact ⟨u / 10, dgt (u % 10) :: acc, rfl, congrArg Value.string (cons_str _ _), by omega, HL.out.step h0, hbw.alloc (by omega) _⟩
        case measure => simp [intOf]; omega
set_option maxRecDepth 100000 in
theorem rprint_any {B : Nat} (n : Int) (hn : InR n) (w : World) (hB : B ≤ w.heap.size) :
    Calls Tryz.prog 71 #[.int .i64 n] w fun e w' => e = .returned (.string ⟨(wtext n).toArray⟩) ∧ Below B w w' := by
  obtain ⟨n0, n1⟩ := hn
  by_cases h : n < 0
  · obtain ⟨u, rfl⟩ : ∃ u : Nat, n = -(u : Int) := ⟨n.natAbs, by omega⟩
    rw [wtext_neg h, show (-(u : Int)).natAbs = u by omega]
    exact rprint_neg u (by omega) (by omega) (by simpa using (by omega : ¬ -(u : Int) = 0)) w hB
  · obtain ⟨u, rfl⟩ : ∃ u : Nat, n = u := ⟨n.natAbs, by omega⟩
    rw [wtext_pos h, show ((u : Int)).natAbs = u by omega]
    by_cases h0 : u = 0
    · subst h0
      rw [Lib.decDigits_one (by omega)]
      go_enter Tryz.func71, Tryz.ntmps71
      go_wp2
      go_ret
      exact ⟨rfl, Below.refl _ _⟩
    · exact rprint_pos u (by omega) (by omega) (by simpa using h0) w hB
end Go.Proofs.YtjakeidbajkdcaaGreatDoor.W
