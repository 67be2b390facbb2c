/- Joined by program. -/
import Derived.Test.YtjakeidbajkdcaaGreatDoorG21
import Derived.Test.YtjakeidbajkdcaaGreatDoorG22
import Derived.Test.YtjakeidbajkdcaaGreatDoorG07
import Derived.Test.YtjakeidbajkdcaaGreatDoorG20
import Derived.Test.YtjakeidbajkdcaaGreatDoorG04
import Derived.Lib.Strings
import Derived.WalkSpells
import Derived.Lib.Bytealg
import Derived.Outline
set_option maxHeartbeats 1000000
namespace Go.Proofs.YtjakeidbajkdcaaGreatDoor.W
open Go.RowKit
def wtext (n : Int) : List UInt8 := if n < 0 then 126 :: Lib.decDigits n.natAbs else Lib.decDigits n.natAbs
theorem zp9 {B : Nat} (n : Int) (h0 : ¬ n < 0) (h1 : n <= 9223372036854775807) (w : World) (hp : Pow B w) (hB : B <= w.heap.size) :
  Calls Tryz.prog 64 #[.int .i64 n] w fun e w' => e = .returned (.string ⟨(wtext n).toArray⟩) /\ Below B w w' := by
 have e : wtext n = Lib.itoa n := by
  obtain ⟨u, rfl⟩ : ∃ u : Nat, n = u := ⟨n.toNat, by omega⟩
  rw [Lib.itoa_nonneg, wtext, if_neg h0]; rfl
 rw [e]; clear e
 have hc := zpp n (by omega) h1 w hp hB
 go_enter Tryz.func64, Tryz.ntmps64
 go_wp2_with (go_at_call 109; refine hc.mono ?_; rintro e w' ⟨rfl, hb⟩)
 go_ret
 exact ⟨rfl, hb⟩
theorem ziy (u : Nat) (hu : u < 18446744073709551616) : 1 <= (Lib.decDigits u).length /\ (Lib.decDigits u).length <= 20 := by
 rw [Lib.decDigits_length]
 have h := Lib.nDigits_pos u
 refine ⟨h, ?_⟩
 by_cases h0 : u = 0
 ·subst h0; rw [Lib.nDigits_small (by omega)]; omega
 ·have := Lib.numDigits_eq u (by omega) hu
  split at this <;> omega
theorem zot {s t : ByteArray} (h : s = t) : Ending.returned (.string s) = Ending.returned (.string t) := by rw [h]
theorem zqe (l : List UInt8) (c : UInt8) : ((⟨#[126]⟩ : ByteArray) ++ (⟨(c :: l).toArray⟩ : ByteArray).extract 1 (l.length + 1)) = ⟨(126 :: l).toArray⟩ := by
 apply ByteArray.ext
 rw [ByteArray.data_append, ByteArray.data_extract]
 apply Array.toList_inj.1
 simp
theorem zph {B : Nat} (n : Int) (h0 : n < 0) (h1 : -9223372036854775808 <= n) (w : World) (hp : Pow B w) (hB : B <= w.heap.size) :
  Calls Tryz.prog 64 #[.int .i64 n] w fun e w' => e = .returned (.string ⟨(wtext n).toArray⟩) /\ Below B w w' := by
 have e : Lib.itoa n = 45 :: Lib.decDigits n.natAbs := by
  obtain ⟨u, rfl⟩ : ∃ u : Nat, n = -(u : Int) := ⟨n.natAbs, by omega⟩
  rw [Lib.itoa_neg _ (by omega)]; simp
 have hc := zpp n h1 (by omega) w hp hB
 rw [e] at hc; clear e
 have hl := ziy n.natAbs (by omega)
 obtain ⟨hl0, hl1⟩ := hl
 go_enter Tryz.func64, Tryz.ntmps64
 go_wp2_with (go_at_call 109; refine hc.mono ?_; rintro e w' ⟨rfl, hb⟩)
 go_ret
 exact ⟨zot (by rw [wtext, if_pos h0]; exact zqe _ _), hb⟩
theorem zen {B : Nat} (n : Int) (h0 : -9223372036854775808 <= n) (h1 : n <= 9223372036854775807) (w : World) (hp : Pow B w) (hB : B <= w.heap.size) :
  Calls Tryz.prog 64 #[.int .i64 n] w fun e w' => e = .returned (.string ⟨(wtext n).toArray⟩) /\ Below B w w' := by
 by_cases h : n < 0
 ·exact zph n h h0 w hp hB
 ·exact zp9 n h h1 w hp hB
theorem snocRec {p : List UInt8 -> Prop} (nil : p []) (append_singleton : ∀ l c, p l -> p (l ++ [c])) (l : List UInt8) : p l := by
 have h : ∀ r : List UInt8, p r.reverse := by
  intro r
  induction r with
  | nil => exact nil
  | cons c r ih => rw [List.reverse_cons]; exact append_singleton _ _ ih
 have := h l.reverse
 rwa [List.reverse_reverse] at this
def dval (l : List UInt8) : Nat := l.foldl (fun n c => 10 * n + (c.toNat - 48)) 0
theorem zcy (l : List UInt8) (c : UInt8) : dval (l ++ [c]) = 10 * dval l + (c.toNat - 48) := by simp [dval]
theorem zeq : dval [] = 0 := rfl
def AllDig (l : List UInt8) : Prop := ∀ c ∈ l, 48 <= c.toNat /\ c.toNat <= 57
theorem AllDig.snoc {l : List UInt8} {c : UInt8} (h : AllDig l) (h1 : 48 <= c.toNat) (h2 : c.toNat <= 57) : AllDig (l ++ [c]) := by
 intro x hx
 rcases List.mem_append.1 hx with hx | hx
 ·exact h x hx
 ·rw [List.mem_singleton.1 hx]; exact ⟨h1, h2⟩
theorem zff (d : Nat) (h : d < 10) : (UInt8.ofNat (48 + d)).toNat = 48 + d := by
 rw [UInt8.toNat_ofNat']; omega
theorem zc7 {u : Nat} (h : u < 10) : Lib.decDigits u = [UInt8.ofNat (48 + u)] := by rw [Lib.decDigits, dif_pos h]
theorem zgn {u : Nat} (h : ¬ u < 10) : Lib.decDigits u = Lib.decDigits (u / 10) ++ [UInt8.ofNat (48 + u % 10)] := by rw [Lib.decDigits, dif_neg h]
theorem zj9 (u : Nat) : AllDig (Lib.decDigits u) := by
 induction u using Nat.strongRecOn with
 | ind u ih =>
  by_cases h : u < 10
  ·rw [zc7 h]
   intro c hc
   rw [List.mem_singleton.1 hc, zff u h]; omega
  ·rw [zgn h]
   have := zff (u % 10) (by omega)
   exact (ih (u / 10) (by omega)).snoc (by omega) (by omega)
theorem zfh (u : Nat) : dval (Lib.decDigits u) = u := by
 induction u using Nat.strongRecOn with
 | ind u ih =>
  by_cases h : u < 10
  ·have e := zcy [] (UInt8.ofNat (48 + u))
   rw [List.nil_append] at e
   rw [zc7 h, e, zeq, zff u h]; omega
  ·rw [zgn h, zcy, ih (u / 10) (by omega), zff (u % 10) (by omega)]; omega
theorem zol (u : Nat) : Lib.decDigits u ≠ [] := by
 intro h
 have := Lib.nDigits_pos u
 rw [<- Lib.decDigits_length, h] at this
 simp at this
theorem zlg (u : Nat) (h : 1 <= u) : ∀ c, (Lib.decDigits u).head? = some c -> c.toNat ≠ 48 := by
 induction u using Nat.strongRecOn with
 | ind u ih =>
  by_cases h9 : u < 10
  ·rw [zc7 h9]
   intro c hc
   simp only [List.head?_cons, Option.some.injEq] at hc
   rw [<- hc, zff u h9]; omega
  ·rw [zgn h9]
   intro c hc
   have := ih (u / 10) (by omega) (by omega)
   obtain ⟨x, r, e⟩ := List.exists_cons_of_ne_nil (zol (u / 10))
   rw [e] at hc this
   exact this c (by simpa using hc)
theorem zk3 {l : List UInt8} (hl : ∀ c, l.head? = some c -> c.toNat ≠ 48) (hd : AllDig l) (hn : l ≠ []) : 1 <= dval l := by
 induction l using snocRec with
 | nil => exact absurd rfl hn
 | append_singleton l c ih =>
  rw [zcy]
  by_cases h : l = []
  ·subst h
   have h1 := hl c (by simp)
   have h2 := hd c (by simp)
   omega
  ·have h1 := ih (fun x hx => hl x (by obtain ⟨y, r, e⟩ := List.exists_cons_of_ne_nil h; rw [e] at hx ⊢; simpa using hx)) (fun x hx => hd x (List.mem_append_left _ hx)) h
   omega
theorem zug {l : List UInt8} (hd : AllDig l) (hn : l ≠ []) (hz : l.length <= 1 ∨ ∀ c, l.head? = some c -> c.toNat ≠ 48) : l = Lib.decDigits (dval l) := by
 induction l using snocRec with
 | nil => exact absurd rfl hn
 | append_singleton l c ih =>
  have hc := hd c (by simp)
  have hcc : UInt8.ofNat (48 + (c.toNat - 48)) = c := by
   apply UInt8.toNat_inj.1
   rw [zff _ (by omega)]; omega
  rw [zcy]
  by_cases h : l = []
  ·subst h
   rw [zeq, zc7 (by omega)]
   simp only [List.nil_append, Nat.mul_zero, Nat.zero_add, hcc]
  ·have hlen : 1 <= l.length := by cases l with | nil => exact absurd rfl h | cons x r => simp
   have hz' : ∀ x, l.head? = some x -> x.toNat ≠ 48 := by
    rcases hz with hz | hz
    ·simp at hz; exact absurd hz h
    ·intro x hx
     exact hz x (by obtain ⟨y, r, e⟩ := List.exists_cons_of_ne_nil h; rw [e] at hx ⊢; simpa using hx)
   have hd' : AllDig l := fun x hx => hd x (List.mem_append_left _ hx)
   have h1 := zk3 hz' hd' h
   rw [zgn (by omega), show (10 * dval l + (c.toNat - 48)) / 10 = dval l by omega, show (10 * dval l + (c.toNat - 48)) % 10 = c.toNat - 48 by omega, hcc, <- ih hd' h (Or.inr hz')]
theorem zqf {l : List UInt8} (hd : AllDig l) : dval l < 10 ^ l.length := by
 induction l using snocRec with
 | nil => simp [dval]
 | append_singleton l c ih =>
  have := ih (fun x hx => hd x (List.mem_append_left _ hx))
  have hc := hd c (by simp)
  rw [zcy, List.length_append, List.length_singleton, Nat.pow_succ]
  omega
open Go.RowKit
def InR (m : Int) : Prop := -9223372036854775808 <= m /\ m <= 9223372036854775807
instance (m : Int) : Decidable (InR m) := by unfold InR; infer_instance
theorem zpa (x : Int) : InR (wrap64 x) := by unfold InR; simp only [wrap64]; omega
theorem znv {x : Int} (h : InR x) : wrap64 x = x := by unfold InR at h; simp only [wrap64]; omega
def tval (l : List UInt8) : Int := if l.head? = some 126 then -(dval l.tail : Int) else dval l
theorem zfo (u : Nat) : (Lib.decDigits u).head? ≠ some 126 := by
 intro h
 have := zj9 u 126 (List.mem_of_mem_head? h)
 simp at this
theorem zd2 {n : Int} (h : n < 0) : wtext n = 126 :: Lib.decDigits n.natAbs := by rw [wtext, if_pos h]
theorem zdy {n : Int} (h : ¬ n < 0) : wtext n = Lib.decDigits n.natAbs := by rw [wtext, if_neg h]
theorem zmp (n : Int) : tval (wtext n) = n := by
 by_cases h : n < 0
 ·rw [zd2 h, tval, if_pos (by simp), List.tail_cons, zfh]; omega
 ·rw [zdy h, tval, if_neg (zfo _), zfh]; omega
def pv (l : List UInt8) : Int := if InR (tval l) /\ wtext (tval l) = l then tval l else 0
def pe (l : List UInt8) : Int := if InR (tval l) /\ wtext (tval l) = l then 0 else 5
theorem zt8 {m : Int} (h : InR m) : pv (wtext m) = m /\ pe (wtext m) = 0 := by
 unfold pv pe
 rw [zmp, if_pos ⟨h, rfl⟩, if_pos ⟨h, rfl⟩]; exact ⟨rfl, rfl⟩
theorem z00 {l : List UInt8} (h : ∀ m, InR m -> l ≠ wtext m) : pv l = 0 /\ pe l = 5 := by
 have : ¬ (InR (tval l) /\ wtext (tval l) = l) := fun ⟨h1, h2⟩ => h _ h1 h2.symm
 unfold pv pe
 rw [if_neg this, if_neg this]; exact ⟨rfl, rfl⟩
theorem zda {l : List UInt8} (hs : l.head? ≠ some 126) {m : Int} (e : l = wtext m) : ¬ m < 0 /\ l = Lib.decDigits m.natAbs := by
 by_cases h : m < 0
 ·exact absurd (by rw [e, zd2 h]; rfl) hs
 ·exact ⟨h, by rw [e, zdy h]⟩
theorem zfx {l : List UInt8} (hs : l.head? ≠ some 126) (hb : ¬ AllDig l) : ∀ m, InR m -> l ≠ wtext m := by
 intro m _ e
 obtain ⟨_, e'⟩ := zda hs e
 exact hb (by rw [e']; exact zj9 _)
theorem znd {l : List UInt8} (hs : l.head? ≠ some 126) (hw : wtext (wrap64 (dval l)) ≠ l) : ∀ m, InR m -> l ≠ wtext m := by
 intro m hm e
 obtain ⟨h, e'⟩ := zda hs e
 have hv : (dval l : Int) = m := by rw [e', zfh]; omega
 exact hw (by rw [hv, znv hm, <- e])
theorem zc8 {l : List UInt8} (hs : l.head? = some 126) {m : Int} (e : l = wtext m) : m < 0 /\ l.tail = Lib.decDigits m.natAbs := by
 by_cases h : m < 0
 ·exact ⟨h, by rw [e, zd2 h, List.tail_cons]⟩
 ·rw [e, zdy h] at hs
  exact absurd hs (zfo _)
theorem zhw {l : List UInt8} (hs : l.head? = some 126) (hb : ¬ AllDig l.tail) : ∀ m, InR m -> l ≠ wtext m := by
 intro m _ e
 obtain ⟨_, e'⟩ := zc8 hs e
 exact hb (by rw [e']; exact zj9 _)
theorem zrm {l : List UInt8} (hs : l.head? = some 126) (hw : wtext (wrap64 (-(dval l.tail : Int))) ≠ l) : ∀ m, InR m -> l ≠ wtext m := by
 intro m hm e
 obtain ⟨h, e'⟩ := zc8 hs e
 have hv : (-(dval l.tail : Int)) = m := by rw [e', zfh]; omega
 exact hw (by rw [hv, znv hm, <- e])
theorem zk6 : ∀ m, InR m -> [] ≠ wtext m := by
 intro m _ e
 by_cases h : m < 0
 ·rw [zd2 h] at e; cases e
 ·rw [zdy h] at e; exact zol _ e.symm
theorem zl6 (v c : Int) : wrap64 (wrap64 (wrap64 v * 10) + c) = wrap64 (10 * v + c) := by simp only [wrap64]; omega
theorem znx (v c : Int) : wrap64 (wrap64 (wrap64 (-v) * 10) + -c) = wrap64 (-(10 * v + c)) := by simp only [wrap64]; omega
theorem zao (s : ByteArray) (k : Nat) (h : k < s.size) : s.data.toList.take (k + 1) = s.data.toList.take k ++ [s[k]] := by
 rw [List.take_succ_eq_append_getElem (by simpa using h)]; rfl
theorem zi5 (s : ByteArray) (k : Nat) (h : k < s.size) (h48 : 48 <= (s[k]).toNat) : (dval (s.data.toList.take (k + 1)) : Int) = 10 * (dval (s.data.toList.take k) : Int) + ((s[k].toNat : Int) - 48) := by
 rw [zao s k h, zcy]; omega
theorem zid (s : ByteArray) {k : Nat} (h : ¬ k < s.size) : s.data.toList.take k = s.data.toList := List.take_of_length_le (by simp; exact Nat.le_of_not_lt h)
theorem zfj (s : ByteArray) (k : Nat) (h : k < s.size) (hb : ¬ (48 <= (s[k]).toNat /\ (s[k]).toNat <= 57)) : ¬ AllDig s.data.toList := fun ha =>
 hb (ha _ (by show s.data[k]'h ∈ s.data.toList; exact Array.mem_toList_iff.2 (Array.getElem_mem h)))
open Go.RowKit
theorem zm7 : ∀ (k u : Nat), 1 <= k -> u < 10 ^ k -> (Lib.decDigits u).length <= k
 | 0, _, h, _ => by omega
 | k + 1, u, _, h => by
  by_cases h9 : u < 10
  ·rw [zc7 h9, List.length_singleton]; omega
  ·have hk : 1 <= k := by
    rcases Nat.eq_zero_or_pos k with e | e
    ·subst e; simp at h; omega
    ·exact e
   rw [zgn h9, List.length_append, List.length_singleton]
   have := zm7 k (u / 10) hk (by rw [Nat.pow_succ] at h; omega)
   omega
theorem ziq (u : Nat) (h : u <= 9223372036854775808) : (Lib.decDigits u).length <= 19 := zm7 19 u (by omega) (by omega)
theorem zhb {l : List UInt8} (hs : l.head? ≠ some 126) (h : 19 < l.length) : ∀ m, InR m -> l ≠ wtext m := by
 intro m hm e
 obtain ⟨_, e'⟩ := zda hs e
 have := ziq m.natAbs (by unfold InR at hm; omega)
 rw [<- e'] at this; omega
theorem zhk {l : List UInt8} (hs : l.head? ≠ some 126) (h1 : 1 < l.length) (h48 : ∃ c, l.head? = some c /\ c.toNat = 48) : ∀ m, InR m -> l ≠ wtext m := by
 intro m _ e
 obtain ⟨_, e'⟩ := zda hs e
 obtain ⟨c, hc, h48⟩ := h48
 by_cases h0 : m.natAbs = 0
 ·rw [e', h0, zc7 (by omega), List.length_singleton] at h1; omega
 ·exact zlg m.natAbs (by omega) c (by rw [<- e']; exact hc) h48
theorem zjc {l : List UInt8} (hs : l.head? ≠ some 126) (h : 9223372036854775807 < dval l) : ∀ m, InR m -> l ≠ wtext m := by
 intro m hm e
 obtain ⟨_, e'⟩ := zda hs e
 rw [e', zfh] at h
 unfold InR at hm; omega
theorem zi7 {l : List UInt8} (hd : AllDig l) (hn : l ≠ []) (hz : l.length <= 1 ∨ ∀ c, l.head? = some c -> c.toNat ≠ 48) : l = wtext (dval l : Int) := by
 rw [zdy (by omega), Int.natAbs_natCast, <- zug hd hn hz]
theorem zjm {l : List UInt8} (hs : l.head? = some 126) (h : 19 < l.tail.length) : ∀ m, InR m -> l ≠ wtext m := by
 intro m hm e
 obtain ⟨_, e'⟩ := zc8 hs e
 have := ziq m.natAbs (by unfold InR at hm; omega)
 rw [<- e'] at this; omega
theorem zif {l : List UInt8} (hs : l.head? = some 126) (h : l.tail = []) : ∀ m, InR m -> l ≠ wtext m := by
 intro m _ e
 obtain ⟨_, e'⟩ := zc8 hs e
 exact zol m.natAbs (by rw [<- e']; exact h)
theorem ziz {l : List UInt8} (hs : l.head? = some 126) (h48 : ∃ c, l.tail.head? = some c /\ c.toNat = 48) : ∀ m, InR m -> l ≠ wtext m := by
 intro m _ e
 obtain ⟨h, e'⟩ := zc8 hs e
 obtain ⟨c, hc, h48⟩ := h48
 exact zlg m.natAbs (by omega) c (by rw [<- e']; exact hc) h48
theorem zll {l : List UInt8} (hs : l.head? = some 126) (h : 9223372036854775808 < dval l.tail) : ∀ m, InR m -> l ≠ wtext m := by
 intro m hm e
 obtain ⟨_, e'⟩ := zc8 hs e
 rw [e', zfh] at h
 unfold InR at hm; omega
theorem zkz {l : List UInt8} (hs : l.head? = some 126) (hd : AllDig l.tail) (hn : l.tail ≠ []) (hz : ∀ c, l.tail.head? = some c -> c.toNat ≠ 48) : l = wtext (-(dval l.tail : Int)) := by
 have h1 := zk3 hz hd hn
 rw [zd2 (by omega), show (-(dval l.tail : Int)).natAbs = dval l.tail by omega, <- zug hd hn (Or.inr hz)]
 cases l with
 | nil => simp at hs
 | cons c r => rw [List.head?_cons, Option.some.injEq] at hs; rw [hs, List.tail_cons]
theorem zhu (s : ByteArray) (h : 0 < s.size) : s.data.toList.head? = some s[0] := by
 rw [List.head?_eq_getElem?]
 have : s.data.toList[0]? = some (s.data[0]'h) := by simp
 exact this
theorem size_len (s : ByteArray) : s.data.toList.length = s.size := by rw [Array.length_toList]; rfl
end Go.Proofs.YtjakeidbajkdcaaGreatDoor.W
namespace Go.Proofs.YtjakeidbajkdcaaGreatDoor.L
structure R where
 k : Int
 t : ByteArray
 n : Int
 long : Nat
 e : Int
def bad (e : Int) : R := ⟨0, ⟨#[]⟩, 0, 0, e⟩
def dl (s : ByteArray) (k : Nat) : Nat := ((s.data.toList.drop k).takeWhile fun c => M.isD c.toNat).length
def signs : ByteArray := ⟨#[59, 58, 44, 46, 61, 60, 62, 43, 45, 42, 47, 94, 40, 41, 123, 125, 91, 93, 124, 38]⟩
def isSign (c : UInt8) : Bool := decide (0 <= Lib.indexByte signs.data.toList c)
def two (s : ByteArray) : Bool := Lib.hasPrefix s.data.toList [45, 62] || Lib.hasPrefix s.data.toList [61, 61]
def sg (s : ByteArray) : Nat := if two s = true then 2 else if isSign (s.data.toList.headD 0) = true then 1 else 0
def wordR (s : ByteArray) : R := if M.kwB s = true then ⟨1, s, 0, s.size, 0⟩ else if 20 < s.size then bad 7 else if M.begT (M.fst s) = true then ⟨3, s, 0, s.size, 0⟩ else ⟨2, s, 0, s.size, 0⟩
def varR (s : ByteArray) : R :=
 if M.wl (s.extract 1 s.size) = 0 ∨ M.begT (M.fst (s.extract 1 s.size)) = true then bad 5
 else if 20 < M.wl (s.extract 1 s.size) then bad 7 else ⟨6, s.extract 1 (1 + M.wl (s.extract 1 s.size)), 0, 1 + M.wl (s.extract 1 s.size), 0⟩
def numR (t : ByteArray) : R := if W.pe t.data.toList = 0 then ⟨4, ⟨#[]⟩, W.pv t.data.toList, t.size, 0⟩ else bad (W.pe t.data.toList)
def strR (s : ByteArray) : R := if Q.tE (Q.tq s.data.toList) = 0 then ⟨5, ⟨(Q.tT (Q.tq s.data.toList)).toArray⟩, 0, Q.tN (Q.tq s.data.toList), 0⟩ else bad (Q.tE (Q.tq s.data.toList))
def signR (s : ByteArray) : R := if sg s = 0 then bad 5 else ⟨7, s.extract 0 (sg s), 0, sg s, 0⟩
def tok (s : ByteArray) : R :=
 if 0 < M.wl s then wordR (s.extract 0 (M.wl s))
 else if M.fst s = 39 then varR s
 else if M.fst s = 126 ∨ M.isD (M.fst s) = true then numR (s.extract 0 (1 + dl s 1))
 else if M.fst s = 34 then strR s
 else signR s
theorem size_extract (s : ByteArray) (a b : Nat) : (s.extract a b).size = min b s.size - a := by simp
theorem data_extract (s : ByteArray) (a b : Nat) : (s.extract a b).data.toList = (s.data.toList.drop a).take (b - a) := by simp
theorem zwj (s : ByteArray) (k : Nat) (h : k <= s.size) : k + dl s k <= s.size := by
 have h1 := (List.takeWhile_sublist (fun c : UInt8 => M.isD c.toNat) (l := s.data.toList.drop k)).length_le
 rw [List.length_drop, M.size_len] at h1
 rw [dl]; omega
theorem zmc {s : ByteArray} {k : Nat} (h : k < s.size) (hg : M.isD s[k].toNat = true) : dl s k = dl s (k + 1) + 1 := by
 rw [dl, M.zal s k h, List.takeWhile_cons, if_pos hg, List.length_cons, dl]
theorem zc6 {s : ByteArray} {k : Nat} (h : k < s.size) (hg : M.isD s[k].toNat = false) : dl s k = 0 := by
 rw [dl, M.zal s k h, List.takeWhile_cons, if_neg (by rw [hg]; decide)]; rfl
theorem zha {s : ByteArray} {k : Nat} (h : s.size <= k) : dl s k = 0 := by
 rw [dl, List.drop_eq_nil_of_le (by rw [M.size_len]; exact h)]; rfl
theorem zr2 {s : ByteArray} (h : M.kwB s = true) : s.size <= 20 := by
 unfold M.kwB M.inB at h
 obtain ⟨t, ht, he⟩ := List.any_eq_true.1 h
 have e : s.size = t.size := by
  have := eq_of_beq he
  rw [ByteArray.toList_eq, ByteArray.toList_eq] at this
  rw [<- M.size_len, <- M.size_len, this]
 have hall : (kwl.all fun t => decide (t.size <= 20)) = true := by decide
 have := List.all_eq_true.1 hall t ht
 rw [e]; simpa using this
open Go.RowKit
def R.val (r : R) (pos : Int) : Value := .agg #[.int .i64 r.k, .string r.t, .int .i64 r.n, .int .i64 pos]
def FP (r : R) (B : Nat) (w : World) (e : Ending) (w' : World) : Prop :=
 e = .returned (.tuple #[r.val 0, .int .i64 r.long, .int .i64 r.e]) /\ Below B w w'
theorem zl4 (kind : ByteArray) (c : UInt8) (b : Bool) (h : Hid (decide (0 <= Lib.indexByte kind.data.toList c) = b)) (w : World) :
  Calls Tryz.prog 116 #[.string kind, .int .u8 (c.toNat : Int)] w fun e w' => e = .returned (.bool b) /\ w = w' := by
 have hi := Tryz.strings_IndexByte kind (c.toNat : Int) w
 rw [Int.toNat_natCast, show c.toNat.toUInt8 = c by simp] at hi
 have HI := jj hi
 clear hi
 go_enter Tryz.func116, Tryz.ntmps116
 go_wp2_with (go_at_call 148; refine HI.out.mono ?_; rintro e w' ⟨rfl, rfl⟩)
 go_ret
 exact ⟨by have := h.out; subst this; rfl, rfl⟩
theorem zov (s : ByteArray) (h : Hid (Lib.indexByte s.data.toList 10 = -1)) (w : World) :
  Calls Tryz.prog 117 #[.string s] w fun e w' => e = .returned (.int .i64 s.size) /\ w = w' := by
 have hi := Tryz.strings_IndexByte s 10 w
 rw [show (10 : Int).toNat.toUInt8 = 10 from rfl, h.out] at hi
 have HI := jj hi
 clear hi
 go_enter Tryz.func117, Tryz.ntmps117
 go_wp2_with (go_at_call 148; refine HI.out.mono ?_; rintro e w' ⟨rfl, rfl⟩)
 go_ret
 exact ⟨rfl, rfl⟩
theorem zml (s : ByteArray) (k : Nat) (h : Hid (Lib.indexByte s.data.toList 10 = k)) (w : World) :
  Calls Tryz.prog 117 #[.string s] w fun e w' => e = .returned (.int .i64 k) /\ w = w' := by
 have hi := Tryz.strings_IndexByte s 10 w
 rw [show (10 : Int).toNat.toUInt8 = 10 from rfl, h.out] at hi
 have HI := jj hi
 clear hi
 go_enter Tryz.func117, Tryz.ntmps117
 go_wp2_with (go_at_call 148; refine HI.out.mono ?_; rintro e w' ⟨rfl, rfl⟩)
 go_ret
 exact ⟨rfl, rfl⟩
theorem bcell {W w1 : World} (hb : Below W.heap.size W w1) : (∀ b o, b < W.heap.size -> w1.cell? ⟨b, o, none⟩ = W.cell? ⟨b, o, none⟩) /\ (∀ b o, b < W.heap.size -> w1.frozen? ⟨b, o, none⟩ = W.frozen? ⟨b, o, none⟩) :=
 ⟨fun b o h => hb.cell (p := ⟨b, o, none⟩) h, fun b o h => hb.frozen (p := ⟨b, o, none⟩) h⟩
theorem below4 {B : Nat} {w w' : World} {o : Obj} {b : Nat} (hB : B <= w.heap.size) (hb : Below b (w.alloc o) w') (h : b = w.heap.size + 1) (v0 v1 v2 v3 : Value) :
  Below B w ((((w'.setCell ⟨w.heap.size, 0, none⟩ v0).setCell ⟨w.heap.size, 1, none⟩ v1).setCell ⟨w.heap.size, 2, none⟩ v2).setCell ⟨w.heap.size, 3, none⟩ v3) :=
 ((((((br B w).alloc hB o).trans (hb.mono (by omega))).setCell (p := ⟨w.heap.size, 0, none⟩) hB _).setCell (p := ⟨w.heap.size, 1, none⟩) hB _).setCell (p := ⟨w.heap.size, 2, none⟩) hB _).setCell (p := ⟨w.heap.size, 3, none⟩) hB _
theorem zj0 {B : Nat} (x : Int) (w : World) (hB : B <= w.heap.size) : Calls Tryz.prog 156 #[.int .i64 x] w (FP (bad x) B w) := by
 go_enter Tryz.func156, Tryz.ntmps156
 go_wp2
 exact bodyPost_ret (v := .tuple #[.agg #[.int .i64 0, .string ⟨#[]⟩, .int .i64 0, .int .i64 0], .int .i64 0, .int .i64 x]) (by simp [results, Tryz.results156, go_sem]) rfl ⟨rfl, (br _ w).alloc hB _⟩
theorem zeo (s : ByteArray) (hs : s.size <= 281474976710656) (w : World) : Calls Tryz.prog 38 #[.string s] w fun e w' => e = .returned (.string s) /\ Below w.heap.size w w' := by
 have hc := Tryz.stringslite_Clone s w hs
 go_enter Tryz.func38, Tryz.ntmps38
 go_wp2_with (go_at_call 70; refine hc.mono ?_; rintro e w' ⟨rfl, hb⟩)
 go_ret
 exact ⟨rfl, hb⟩
theorem zgd {B : Nat} (kind : Int) (s : ByteArray) (long : Nat) (hs : s.size <= 281474976710656) (w : World) (hB : B <= w.heap.size) :
  Calls Tryz.prog 153 #[.int .i64 kind, .string s, .int .i64 (long : Int)] w (FP ⟨kind, s, 0, long, 0⟩ B w) := by
 have HC := jj (zeo s hs)
 go_enter Tryz.func153, Tryz.ntmps153
 go_wp2_with (go_at_call 38; refine (HC.out _).mono ?_; rintro e w' ⟨rfl, hb⟩; obtain ⟨hc, hf⟩ := bcell hb)
 exact bodyPost_ret (v := .tuple #[.agg #[.int .i64 kind, .string s, .int .i64 0, .int .i64 0], .int .i64 (long : Int), .int .i64 0]) (by simp [results, Tryz.results153, go_sem, hc]) rfl ⟨rfl, below4 hB hb (by simp) _ _ _ _⟩
theorem zck {s : ByteArray} {n : Nat} (h : M.wl s = n) (hs : s.size <= 140737488351232) (w : World) :
  Calls Tryz.prog 118 #[.string s] w fun e w' => e = .returned (.int .i64 n) /\ w = w' := M.zkh h (ltr hs (by decide)) w
theorem zay {s : ByteArray} {n : Nat} (h : M.wl s = n) (hs : s.size <= 140737488351232) (w : World) :
  Calls Tryz.prog 90 #[.string s] w fun e w' => e = .returned (.int .i64 n) /\ w = w' := M.zd5 h (ltr hs (by decide)) w
open Go.RowKit
theorem zd4 (kind : Int) (s : ByteArray) (long : Int) (n : Nat) (hn : long = (n : Int)) (hs : s.size <= 281474976710656) (w : World) :
  Calls Tryz.prog 153 #[.int .i64 kind, .string s, .int .i64 long] w fun e w' => e = .returned (.tuple #[.agg #[.int .i64 kind, .string s, .int .i64 0, .int .i64 0], .int .i64 (n : Int), .int .i64 0]) /\ Below w.heap.size w w' := by
 subst hn; exact zgd kind s n hs w (lrf _)
theorem zcm (x : Int) (w : World) :
  Calls Tryz.prog 156 #[.int .i64 x] w fun e w' => e = .returned (.tuple #[.agg #[.int .i64 0, .string ⟨#[]⟩, .int .i64 0, .int .i64 0], .int .i64 0, .int .i64 x]) /\ Below w.heap.size w w' :=
 zj0 x w (lrf _)
theorem zcz {B : Nat} {s : ByteArray} {b : Bool} (h : M.nameB s = b) (hs : s.size <= 140737488351232) (w : World) (hK : Kws B w) :
  Calls Tryz.prog 154 #[.string s] w fun e w' => e = .returned (.bool b) /\ w = w' := by subst h; exact M.zkt s (ltr hs (by decide)) w hK
theorem zio {s : ByteArray} {b : Bool} (h : M.tagB s = b) (hs : s.size <= 140737488351232) (w : World) :
  Calls Tryz.prog 155 #[.string s] w fun e w' => e = .returned (.bool b) /\ w = w' := by subst h; exact M.zpx s (ltr hs (by decide)) w
theorem zyj {B : Nat} (s : ByteArray) (hs : s.size <= 140737488351232) (w : World) (hB : B <= w.heap.size) (hK : Kws B w) (h1 : Hid (M.kwB s = true)) :
  Calls Tryz.prog 119 #[.string s] w (FP ⟨1, s, 0, s.size, 0⟩ B w) := by
 go_enter Tryz.func119, Tryz.ntmps119
 go_wp2_with (first | (go_at_call 152; refine (M.zdh h1.out _ (hK.on ((br _ _).alloc hB _))).mono ?_; rintro e w' ⟨rfl, rfl⟩) | (go_at_call 153; refine (zd4 1 s _ s.size rfl (by omega) _).mono ?_; rintro e w' ⟨rfl, hb⟩; obtain ⟨hc, hf⟩ := bcell hb))
 exact bodyPost_ret (v := .tuple #[.agg #[.int .i64 1, .string s, .int .i64 0, .int .i64 0], .int .i64 (s.size : Int), .int .i64 0]) (by simp [results, Tryz.results119, go_sem, hc]) rfl ⟨rfl, below4 hB hb (by simp) _ _ _ _⟩
theorem zyf {B : Nat} (s : ByteArray) (hs : s.size <= 140737488351232) (w : World) (hB : B <= w.heap.size) (hK : Kws B w) (h1 : Hid (M.kwB s = false)) (h2 : Hid (M.nameB s = true)) :
  Calls Tryz.prog 119 #[.string s] w (FP ⟨2, s, 0, s.size, 0⟩ B w) := by
 go_enter Tryz.func119, Tryz.ntmps119
 go_wp2_with (first | (go_at_call 152; refine (M.zdh h1.out _ (hK.on ((br _ _).alloc hB _))).mono ?_; rintro e w' ⟨rfl, rfl⟩) | (go_at_call 154; refine (zcz h2.out hs _ (hK.on ((br _ _).alloc hB _))).mono ?_; rintro e w' ⟨rfl, rfl⟩) | (go_at_call 153; refine (zd4 2 s _ s.size rfl (by omega) _).mono ?_; rintro e w' ⟨rfl, hb⟩; obtain ⟨hc, hf⟩ := bcell hb))
 exact bodyPost_ret (v := .tuple #[.agg #[.int .i64 2, .string s, .int .i64 0, .int .i64 0], .int .i64 (s.size : Int), .int .i64 0]) (by simp [results, Tryz.results119, go_sem, hc]) rfl ⟨rfl, below4 hB hb (by simp) _ _ _ _⟩
theorem z0j {B : Nat} (s : ByteArray) (hs : s.size <= 140737488351232) (w : World) (hB : B <= w.heap.size) (hK : Kws B w) (h1 : Hid (M.kwB s = false)) (h2 : Hid (M.nameB s = false)) (h3 : Hid (M.tagB s = true)) :
  Calls Tryz.prog 119 #[.string s] w (FP ⟨3, s, 0, s.size, 0⟩ B w) := by
 go_enter Tryz.func119, Tryz.ntmps119
 go_wp2_with (first | (go_at_call 152; refine (M.zdh h1.out _ (hK.on ((br _ _).alloc hB _))).mono ?_; rintro e w' ⟨rfl, rfl⟩) | (go_at_call 154; refine (zcz h2.out hs _ (hK.on ((br _ _).alloc hB _))).mono ?_; rintro e w' ⟨rfl, rfl⟩) | (go_at_call 155; refine (zio h3.out hs _).mono ?_; rintro e w' ⟨rfl, rfl⟩) | (go_at_call 153; refine (zd4 3 s _ s.size rfl (by omega) _).mono ?_; rintro e w' ⟨rfl, hb⟩; obtain ⟨hc, hf⟩ := bcell hb))
 exact bodyPost_ret (v := .tuple #[.agg #[.int .i64 3, .string s, .int .i64 0, .int .i64 0], .int .i64 (s.size : Int), .int .i64 0]) (by simp [results, Tryz.results119, go_sem, hc]) rfl ⟨rfl, below4 hB hb (by simp) _ _ _ _⟩
theorem zze {B : Nat} (s : ByteArray) (hs : s.size <= 140737488351232) (w : World) (hB : B <= w.heap.size) (hK : Kws B w) (h1 : Hid (M.kwB s = false)) (h2 : Hid (M.nameB s = false)) (h3 : Hid (M.tagB s = false)) :
  Calls Tryz.prog 119 #[.string s] w (FP (bad 7) B w) := by
 go_enter Tryz.func119, Tryz.ntmps119
 go_wp2_with (first | (go_at_call 152; refine (M.zdh h1.out _ (hK.on ((br _ _).alloc hB _))).mono ?_; rintro e w' ⟨rfl, rfl⟩) | (go_at_call 154; refine (zcz h2.out hs _ (hK.on ((br _ _).alloc hB _))).mono ?_; rintro e w' ⟨rfl, rfl⟩) | (go_at_call 155; refine (zio h3.out hs _).mono ?_; rintro e w' ⟨rfl, rfl⟩) | (go_at_call 156; refine (zcm 7 _).mono ?_; rintro e w' ⟨rfl, hb⟩; obtain ⟨hc, hf⟩ := bcell hb))
 exact bodyPost_ret (v := .tuple #[.agg #[.int .i64 0, .string ⟨#[]⟩, .int .i64 0, .int .i64 0], .int .i64 0, .int .i64 7]) (by simp [results, Tryz.results119, go_sem, hc]) rfl ⟨rfl, below4 hB hb (by simp) _ _ _ _⟩
theorem zev {B : Nat} (s : ByteArray) (hs : s.size <= 140737488351232) (h0 : 0 < s.size) (hw : M.wl s = s.size) (w : World) (hB : B <= w.heap.size) (hK : Kws B w) :
  Calls Tryz.prog 119 #[.string s] w (FP (wordR s) B w) := by
 by_cases h1 : M.kwB s = true
 ·rw [wordR, if_pos h1]; exact zyj s hs w hB hK (jj h1)
 ·have h1' : M.kwB s = false := by simpa using h1
  have hbeg : (M.begW (M.fst s) || M.begT (M.fst s)) = true := by
   by_cases h : (M.begW (M.fst s) || M.begT (M.fst s)) = true
   ·exact h
   ·rw [M.wl, if_neg (fun x => h x.2)] at hw; omega
  by_cases h2 : 20 < s.size
  ·have hv := M.zg6 (s := s) (by omega)
   rw [wordR, if_neg h1, if_pos h2]
   exact zze s hs w hB hK (jj h1') (jj (by rw [M.nameB, hv]; rfl)) (jj (by rw [M.tagB, hv]; rfl))
  ·have hv : M.wholeB s = true := by simp only [M.wholeB, decide_eq_true_eq]; exact ⟨h0, by omega, hw⟩
   by_cases h3 : M.begT (M.fst s) = true
   ·have hnw : M.begW (M.fst s) = false := by
     cases h : M.begW (M.fst s) with
     | false => rfl
     | true => rw [M.zkq h] at h3; cases h3
    rw [wordR, if_neg h1, if_neg h2, if_pos h3]
    exact z0j s hs w hB hK (jj h1') (jj (by rw [M.nameB, hv, hnw]; rfl)) (jj (by rw [M.tagB, hv, h3]; rfl))
   ·have h3' : M.begT (M.fst s) = false := by simpa using h3
    have hw1 : M.begW (M.fst s) = true := by rw [h3', Bool.or_false] at hbeg; exact hbeg
    rw [wordR, if_neg h1, if_neg h2, if_neg h3]
    exact zyf s hs w hB hK (jj h1') (jj (by rw [M.nameB, hv, hw1, h1']; rfl))
end Go.Proofs.YtjakeidbajkdcaaGreatDoor.L
