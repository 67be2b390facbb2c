/- Joined by program. -/
import Derived.Test.YtjakeidbajkdcaaGreatDoorH19
import Derived.Test.YtjakeidbajkdcaaGreatDoorH20
import Derived.Lib.Strings
import Derived.WalkSpells
namespace Go.Proofs.YtjakeidbajkdcaaGreatDoor.W
open Go.RowKit
def wtext (n : Int) : List UInt8 := if n < 0 then 126 :: Lib.decDigits n.natAbs else Lib.decDigits n.natAbs
theorem print_pos {B : Nat} (n : Int) (h0 : ¬ n < 0) (h1 : n <= 9223372036854775807) (w : World) (hp : Pow B w) (hB : B <= w.heap.size) :
    Calls Tryz.prog 64 #[.int .i64 n] w fun e w' => e = .returned (.string ⟨(wtext n).toArray⟩) /\ Below B w w' := by
  have e : wtext n = Lib.itoa n := by
    obtain ⟨u, rfl⟩ : ∃ u : Nat, n = u := ⟨n.toNat, by omega⟩
    rw [Lib.itoa_nonneg, wtext, if_neg h0]; rfl
  rw [e]; clear e
  have hc := fmt_any n (by omega) h1 w hp hB
  go_enter Tryz.func64, Tryz.ntmps64
  go_wp2_with (go_at_call 109; refine hc.mono ?_; rintro e w' ⟨rfl, hb⟩)
  go_ret
  exact ⟨rfl, hb⟩
theorem decDigits_le (u : Nat) (hu : u < 18446744073709551616) : 1 <= (Lib.decDigits u).length /\ (Lib.decDigits u).length <= 20 := by
  rw [Lib.decDigits_length]
  have h := Lib.nDigits_pos u
  refine ⟨h, ?_⟩
  by_cases h0 : u = 0
  · subst h0; rw [Lib.nDigits_small (by omega)]; omega
  · have := Lib.numDigits_eq u (by omega) hu
    split at this <;> omega
theorem ret_str {s t : ByteArray} (h : s = t) : Ending.returned (.string s) = Ending.returned (.string t) := by rw [h]
theorem tilde_cut (l : List UInt8) (c : UInt8) : ((⟨#[126]⟩ : ByteArray) ++ (⟨(c :: l).toArray⟩ : ByteArray).extract 1 (l.length + 1)) = ⟨(126 :: l).toArray⟩ := by
  apply ByteArray.ext
  rw [ByteArray.data_append, ByteArray.data_extract]
  apply Array.toList_inj.1
  simp
theorem print_neg {B : Nat} (n : Int) (h0 : n < 0) (h1 : -9223372036854775808 <= n) (w : World) (hp : Pow B w) (hB : B <= w.heap.size) :
    Calls Tryz.prog 64 #[.int .i64 n] w fun e w' => e = .returned (.string ⟨(wtext n).toArray⟩) /\ Below B w w' := by
  have e : Lib.itoa n = 45 :: Lib.decDigits n.natAbs := by
    obtain ⟨u, rfl⟩ : ∃ u : Nat, n = -(u : Int) := ⟨n.natAbs, by omega⟩
    rw [Lib.itoa_neg _ (by omega)]; simp
  have hc := fmt_any n h1 (by omega) w hp hB
  rw [e] at hc; clear e
  have hl := decDigits_le n.natAbs (by omega)
  obtain ⟨hl0, hl1⟩ := hl
  go_enter Tryz.func64, Tryz.ntmps64
  go_wp2_with (go_at_call 109; refine hc.mono ?_; rintro e w' ⟨rfl, hb⟩)
  go_ret
  exact ⟨ret_str (by rw [wtext, if_pos h0]; exact tilde_cut _ _), hb⟩
theorem print_any {B : Nat} (n : Int) (h0 : -9223372036854775808 <= n) (h1 : n <= 9223372036854775807) (w : World) (hp : Pow B w) (hB : B <= w.heap.size) :
    Calls Tryz.prog 64 #[.int .i64 n] w fun e w' => e = .returned (.string ⟨(wtext n).toArray⟩) /\ Below B w w' := by
  by_cases h : n < 0
  · exact print_neg n h h0 w hp hB
  · exact print_pos n h h1 w hp hB
def dval (l : List UInt8) : Nat := l.foldl (fun n c => 10 * n + (c.toNat - 48)) 0
theorem dval_snoc (l : List UInt8) (c : UInt8) : dval (l ++ [c]) = 10 * dval l + (c.toNat - 48) := by simp [dval]
theorem dval_nil : dval [] = 0 := rfl
def AllDig (l : List UInt8) : Prop := ∀ c ∈ l, 48 <= c.toNat /\ c.toNat <= 57
theorem AllDig.snoc {l : List UInt8} {c : UInt8} (h : AllDig l) (h1 : 48 <= c.toNat) (h2 : c.toNat <= 57) : AllDig (l ++ [c]) := by
  intro x hx
  rcases List.mem_append.1 hx with hx | hx
  · exact h x hx
  · rw [List.mem_singleton.1 hx]; exact ⟨h1, h2⟩
theorem dig_nat (d : Nat) (h : d < 10) : (UInt8.ofNat (48 + d)).toNat = 48 + d := by
  rw [UInt8.toNat_ofNat']; omega
theorem dec_small {u : Nat} (h : u < 10) : Lib.decDigits u = [UInt8.ofNat (48 + u)] := by rw [Lib.decDigits, dif_pos h]
theorem dec_big {u : Nat} (h : ¬ u < 10) : Lib.decDigits u = Lib.decDigits (u / 10) ++ [UInt8.ofNat (48 + u % 10)] := by rw [Lib.decDigits, dif_neg h]
theorem dec_dig (u : Nat) : AllDig (Lib.decDigits u) := by
  induction u using Nat.strongRecOn with
  | ind u ih =>
    by_cases h : u < 10
    · rw [dec_small h]
      intro c hc
      rw [List.mem_singleton.1 hc, dig_nat u h]; omega
    · rw [dec_big h]
      have := dig_nat (u % 10) (by omega)
      exact (ih (u / 10) (by omega)).snoc (by omega) (by omega)
theorem dec_val (u : Nat) : dval (Lib.decDigits u) = u := by
  induction u using Nat.strongRecOn with
  | ind u ih =>
    by_cases h : u < 10
    · have e := dval_snoc [] (UInt8.ofNat (48 + u))
      rw [List.nil_append] at e
      rw [dec_small h, e, dval_nil, dig_nat u h]; omega
    · rw [dec_big h, dval_snoc, ih (u / 10) (by omega), dig_nat (u % 10) (by omega)]; omega
theorem dec_ne (u : Nat) : Lib.decDigits u ≠ [] := by
  intro h
  have := Lib.nDigits_pos u
  rw [<- Lib.decDigits_length, h] at this
  simp at this
open Go.RowKit
def InR (m : Int) : Prop := -9223372036854775808 <= m /\ m <= 9223372036854775807
instance (m : Int) : Decidable (InR m) := by unfold InR; infer_instance
theorem wrap_in (x : Int) : InR (wrap64 x) := by unfold InR; simp only [wrap64]; omega
theorem wrap_of {x : Int} (h : InR x) : wrap64 x = x := by unfold InR at h; simp only [wrap64]; omega
def tval (l : List UInt8) : Int := if l.head? = some 126 then -(dval l.tail : Int) else dval l
theorem dec_head_dig (u : Nat) : (Lib.decDigits u).head? ≠ some 126 := by
  intro h
  have := dec_dig u 126 (List.mem_of_mem_head? h)
  simp at this
theorem wtext_neg {n : Int} (h : n < 0) : wtext n = 126 :: Lib.decDigits n.natAbs := by rw [wtext, if_pos h]
theorem wtext_pos {n : Int} (h : ¬ n < 0) : wtext n = Lib.decDigits n.natAbs := by rw [wtext, if_neg h]
theorem tval_wtext (n : Int) : tval (wtext n) = n := by
  by_cases h : n < 0
  · rw [wtext_neg h, tval, if_pos (by simp), List.tail_cons, dec_val]; omega
  · rw [wtext_pos h, tval, if_neg (dec_head_dig _), dec_val]; omega
def pv (l : List UInt8) : Int := if InR (tval l) /\ wtext (tval l) = l then tval l else 0
def pe (l : List UInt8) : Int := if InR (tval l) /\ wtext (tval l) = l then 0 else 5
theorem pv_yes {m : Int} (h : InR m) : pv (wtext m) = m /\ pe (wtext m) = 0 := by
  unfold pv pe
  rw [tval_wtext, if_pos ⟨h, rfl⟩, if_pos ⟨h, rfl⟩]; exact ⟨rfl, rfl⟩
theorem pv_no {l : List UInt8} (h : ∀ m, InR m -> l ≠ wtext m) : pv l = 0 /\ pe l = 5 := by
  have : ¬ (InR (tval l) /\ wtext (tval l) = l) := fun ⟨h1, h2⟩ => h _ h1 h2.symm
  unfold pv pe
  rw [if_neg this, if_neg this]; exact ⟨rfl, rfl⟩
theorem plain_text {l : List UInt8} (hs : l.head? ≠ some 126) {m : Int} (e : l = wtext m) : ¬ m < 0 /\ l = Lib.decDigits m.natAbs := by
  by_cases h : m < 0
  · exact absurd (by rw [e, wtext_neg h]; rfl) hs
  · exact ⟨h, by rw [e, wtext_pos h]⟩
theorem no_plain {l : List UInt8} (hs : l.head? ≠ some 126) (hb : ¬ AllDig l) : ∀ m, InR m -> l ≠ wtext m := by
  intro m _ e
  obtain ⟨_, e'⟩ := plain_text hs e
  exact hb (by rw [e']; exact dec_dig _)
theorem end_plain {l : List UInt8} (hs : l.head? ≠ some 126) (hw : wtext (wrap64 (dval l)) ≠ l) : ∀ m, InR m -> l ≠ wtext m := by
  intro m hm e
  obtain ⟨h, e'⟩ := plain_text hs e
  have hv : (dval l : Int) = m := by rw [e', dec_val]; omega
  exact hw (by rw [hv, wrap_of hm, <- e])
theorem sign_text {l : List UInt8} (hs : l.head? = some 126) {m : Int} (e : l = wtext m) : m < 0 /\ l.tail = Lib.decDigits m.natAbs := by
  by_cases h : m < 0
  · exact ⟨h, by rw [e, wtext_neg h, List.tail_cons]⟩
  · rw [e, wtext_pos h] at hs
    exact absurd hs (dec_head_dig _)
theorem no_sign {l : List UInt8} (hs : l.head? = some 126) (hb : ¬ AllDig l.tail) : ∀ m, InR m -> l ≠ wtext m := by
  intro m _ e
  obtain ⟨_, e'⟩ := sign_text hs e
  exact hb (by rw [e']; exact dec_dig _)
theorem end_sign {l : List UInt8} (hs : l.head? = some 126) (hw : wtext (wrap64 (-(dval l.tail : Int))) ≠ l) : ∀ m, InR m -> l ≠ wtext m := by
  intro m hm e
  obtain ⟨h, e'⟩ := sign_text hs e
  have hv : (-(dval l.tail : Int)) = m := by rw [e', dec_val]; omega
  exact hw (by rw [hv, wrap_of hm, <- e])
theorem no_empty : ∀ m, InR m -> [] ≠ wtext m := by
  intro m _ e
  by_cases h : m < 0
  · rw [wtext_neg h] at e; cases e
  · rw [wtext_pos h] at e; exact dec_ne _ e.symm
theorem step_plain (v c : Int) : wrap64 (wrap64 (wrap64 v * 10) + c) = wrap64 (10 * v + c) := by simp only [wrap64]; omega
theorem step_sign (v c : Int) : wrap64 (wrap64 (wrap64 (-v) * 10) + -c) = wrap64 (-(10 * v + c)) := by simp only [wrap64]; omega
theorem take_snoc (s : ByteArray) (k : Nat) (h : k < s.size) : s.data.toList.take (k + 1) = s.data.toList.take k ++ [s[k]] := by
  rw [List.take_succ_eq_append_getElem (by simpa using h)]; rfl
theorem dval_take (s : ByteArray) (k : Nat) (h : k < s.size) (h48 : 48 <= (s[k]).toNat) : (dval (s.data.toList.take (k + 1)) : Int) = 10 * (dval (s.data.toList.take k) : Int) + ((s[k].toNat : Int) - 48) := by
  rw [take_snoc s k h, dval_snoc]; omega
theorem take_all (s : ByteArray) {k : Nat} (h : ¬ k < s.size) : s.data.toList.take k = s.data.toList := List.take_of_length_le (by simp; exact Nat.le_of_not_lt h)
theorem bad_at (s : ByteArray) (k : Nat) (h : k < s.size) (hb : ¬ (48 <= (s[k]).toNat /\ (s[k]).toNat <= 57)) : ¬ AllDig s.data.toList := fun ha =>
  hb (ha _ (by show s.data[k]'h ∈ s.data.toList; exact Array.mem_toList_iff.2 (Array.getElem_mem h)))
open Go.RowKit
theorem dec_len : ∀ (k u : Nat), 1 <= k -> u < 10 ^ k -> (Lib.decDigits u).length <= k
  | 0, _, h, _ => by omega
  | k + 1, u, _, h => by
    by_cases h9 : u < 10
    · rw [dec_small h9, List.length_singleton]; omega
    · have hk : 1 <= k := by
        rcases Nat.eq_zero_or_pos k with e | e
        · subst e; simp at h; omega
        · exact e
      rw [dec_big h9, List.length_append, List.length_singleton]
      have := dec_len k (u / 10) hk (by rw [Nat.pow_succ] at h; omega)
      omega
theorem dec_len19 (u : Nat) (h : u <= 9223372036854775808) : (Lib.decDigits u).length <= 19 := dec_len 19 u (by omega) (by omega)
theorem size_len (s : ByteArray) : s.data.toList.length = s.size := by rw [Array.length_toList]; rfl
end Go.Proofs.YtjakeidbajkdcaaGreatDoor.W
