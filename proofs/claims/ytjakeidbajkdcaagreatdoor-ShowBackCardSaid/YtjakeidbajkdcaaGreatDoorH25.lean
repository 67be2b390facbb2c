/- Joined by program. -/
import Derived.Test.YtjakeidbajkdcaaGreatDoorH18
import Derived.Test.YtjakeidbajkdcaaGreatDoorH21
import Derived.Test.YtjakeidbajkdcaaGreatDoorH24
import Derived.Test.YtjakeidbajkdcaaGreatDoorH04
import Derived.Test.YtjakeidbajkdcaaGreatDoorH00
import Derived.Test.YtjakeidbajkdcaaGreatDoorH09
import Derived.Lib.ConvBytes
import Derived.Lib.Join
import Derived.Deep.RegionHeld3
import Derived.Laws.Concat
set_option maxRecDepth 100000
set_option maxHeartbeats 16000000
namespace Go.Proofs.YtjakeidbajkdcaaGreatDoor.S
open T Go.RowKit
def bra (t least : Int) (s : ByteArray) : ByteArray := if t < least then (⟨#[40]⟩ ++ s) ++ ⟨#[41]⟩ else s
def joinB (sep : List UInt8) (xs : List ByteArray) : ByteArray := ⟨(Lib.join (xs.map (·.data.toList)) sep).toArray⟩
def partT (ch : Int -> Int -> ByteArray) (f : Fld) : ByteArray := (f.nm ++ ⟨#[32, 61, 32]⟩) ++ ch f.pl 0
def brT (ch : Int -> Int -> ByteArray) (f : Fld) : ByteArray := (((f.nm ++ ⟨#[32]⟩) ++ f.vr) ++ ⟨#[32, 45, 62, 32]⟩) ++ ch f.pl 0
def fst1 (n : Int) : Int := if n = 5 ∨ n = 6 then 2 else tight 10 n
def body (x : Nd) (ch : Int -> Int -> ByteArray) : ByteArray :=
  if x.kind = 1 then ⟨(W.wtext x.n).toArray⟩
  else if x.kind = 2 then (if x.n = 0 then ⟨#[102, 97, 108, 115, 101]⟩ else ⟨#[116, 114, 117, 101]⟩)
  else if x.kind = 3 then ⟨(Q.qtext x.s.data.toList).toArray⟩
  else if x.kind = 4 then x.nm
  else if x.kind = 5 then ((⟨#[102, 117, 110, 32]⟩ ++ x.nm) ++ ⟨#[32, 45, 62, 32]⟩) ++ ch x.a 0
  else if x.kind = 6 then (ch x.a 5 ++ ⟨#[32]⟩) ++ ch x.b 6
  else if x.kind = 7 then ((((⟨#[108, 101, 116, 32]⟩ ++ x.nm) ++ ⟨#[32, 61, 32]⟩) ++ ch x.a 0) ++ ⟨#[32, 105, 110, 32]⟩) ++ ch x.b 0
  else if x.kind = 8 then ((((⟨#[108, 101, 116, 32, 114, 101, 99, 32]⟩ ++ x.nm) ++ ⟨#[32, 61, 32]⟩) ++ ch x.a 0) ++ ⟨#[32, 105, 110, 32]⟩) ++ ch x.b 0
  else if x.kind = 9 then ((((⟨#[105, 102, 32]⟩ ++ ch x.a 0) ++ ⟨#[32, 116, 104, 101, 110, 32]⟩) ++ ch x.b 0) ++ ⟨#[32, 101, 108, 115, 101, 32]⟩) ++ ch x.c 0
  else if x.kind = 10 then (((ch x.a (fst1 x.n) ++ ⟨#[32]⟩) ++ sgn x.n) ++ ⟨#[32]⟩) ++ ch x.b (tight 10 x.n + 1)
  else if x.kind = 11 then (⟨#[123]⟩ ++ joinB [44, 32] (x.l.map (partT ch))) ++ ⟨#[125]⟩
  else if x.kind = 12 then (ch x.a 6 ++ ⟨#[46]⟩) ++ x.nm
  else if x.kind = 13 then (x.nm ++ ⟨#[32]⟩) ++ ch x.a 6
  else (((⟨#[99, 97, 115, 101, 32]⟩ ++ ch x.a 0) ++ ⟨#[32, 111, 102, 32]⟩) ++ joinB [32, 124, 32] (x.l.map (brT ch))) ++ ⟨#[32, 101, 110, 100]⟩
def chOf (l : List Nd) (tx : Nat -> ByteArray) (k least : Int) : ByteArray := match l[k.toNat]? with
  | none => ⟨#[]⟩
  | some y => bra (tight y.kind y.n) least (tx k.toNat)
def tf (l : List Nd) : Nat -> Nat -> ByteArray
  | 0, _ => ⟨#[]⟩
  | f + 1, i => match l[i]? with
    | none => ⟨#[]⟩
    | some x => body x (chOf l (tf l f))
def tx (l : List Nd) (i : Nat) : ByteArray := tf l (i + 1) i
theorem body_1 {x : Nd} (h : x.kind = 1) (ch : Int -> Int -> ByteArray) : body x ch = ⟨(W.wtext x.n).toArray⟩ := by
  unfold body
  rw [if_pos h]
theorem body_2 {x : Nd} (h : x.kind = 2) (ch : Int -> Int -> ByteArray) : body x ch = (if x.n = 0 then ⟨#[102, 97, 108, 115, 101]⟩ else ⟨#[116, 114, 117, 101]⟩) := by
  unfold body
  rw [if_neg (by omega), if_pos h]
theorem body_3 {x : Nd} (h : x.kind = 3) (ch : Int -> Int -> ByteArray) : body x ch = ⟨(Q.qtext x.s.data.toList).toArray⟩ := by
  unfold body
  rw [if_neg (by omega), if_neg (by omega), if_pos h]
theorem body_4 {x : Nd} (h : x.kind = 4) (ch : Int -> Int -> ByteArray) : body x ch = x.nm := by
  unfold body
  rw [if_neg (by omega), if_neg (by omega), if_neg (by omega), if_pos h]
theorem body_5 {x : Nd} (h : x.kind = 5) (ch : Int -> Int -> ByteArray) : body x ch = ((⟨#[102, 117, 110, 32]⟩ ++ x.nm) ++ ⟨#[32, 45, 62, 32]⟩) ++ ch x.a 0 := by
  unfold body
  rw [if_neg (by omega), if_neg (by omega), if_neg (by omega), if_neg (by omega), if_pos h]
theorem body_6 {x : Nd} (h : x.kind = 6) (ch : Int -> Int -> ByteArray) : body x ch = (ch x.a 5 ++ ⟨#[32]⟩) ++ ch x.b 6 := by
  unfold body
  rw [if_neg (by omega), if_neg (by omega), if_neg (by omega), if_neg (by omega), if_neg (by omega), if_pos h]
theorem body_7 {x : Nd} (h : x.kind = 7) (ch : Int -> Int -> ByteArray) : body x ch = ((((⟨#[108, 101, 116, 32]⟩ ++ x.nm) ++ ⟨#[32, 61, 32]⟩) ++ ch x.a 0) ++ ⟨#[32, 105, 110, 32]⟩) ++ ch x.b 0 := by
  unfold body
  rw [if_neg (by omega), if_neg (by omega), if_neg (by omega), if_neg (by omega), if_neg (by omega), if_neg (by omega), if_pos h]
theorem body_8 {x : Nd} (h : x.kind = 8) (ch : Int -> Int -> ByteArray) : body x ch = ((((⟨#[108, 101, 116, 32, 114, 101, 99, 32]⟩ ++ x.nm) ++ ⟨#[32, 61, 32]⟩) ++ ch x.a 0) ++ ⟨#[32, 105, 110, 32]⟩) ++ ch x.b 0 := by
  unfold body
  rw [if_neg (by omega), if_neg (by omega), if_neg (by omega), if_neg (by omega), if_neg (by omega), if_neg (by omega), if_neg (by omega), if_pos h]
theorem body_9 {x : Nd} (h : x.kind = 9) (ch : Int -> Int -> ByteArray) : body x ch = ((((⟨#[105, 102, 32]⟩ ++ ch x.a 0) ++ ⟨#[32, 116, 104, 101, 110, 32]⟩) ++ ch x.b 0) ++ ⟨#[32, 101, 108, 115, 101, 32]⟩) ++ ch x.c 0 := by
  unfold body
  rw [if_neg (by omega), if_neg (by omega), if_neg (by omega), if_neg (by omega), if_neg (by omega), if_neg (by omega), if_neg (by omega), if_neg (by omega), if_pos h]
theorem body_10 {x : Nd} (h : x.kind = 10) (ch : Int -> Int -> ByteArray) : body x ch = (((ch x.a (fst1 x.n) ++ ⟨#[32]⟩) ++ sgn x.n) ++ ⟨#[32]⟩) ++ ch x.b (tight 10 x.n + 1) := by
  unfold body
  rw [if_neg (by omega), if_neg (by omega), if_neg (by omega), if_neg (by omega), if_neg (by omega), if_neg (by omega), if_neg (by omega), if_neg (by omega), if_neg (by omega), if_pos h]
theorem body_11 {x : Nd} (h : x.kind = 11) (ch : Int -> Int -> ByteArray) : body x ch = (⟨#[123]⟩ ++ joinB [44, 32] (x.l.map (partT ch))) ++ ⟨#[125]⟩ := by
  unfold body
  rw [if_neg (by omega), if_neg (by omega), if_neg (by omega), if_neg (by omega), if_neg (by omega), if_neg (by omega), if_neg (by omega), if_neg (by omega), if_neg (by omega), if_neg (by omega), if_pos h]
theorem body_12 {x : Nd} (h : x.kind = 12) (ch : Int -> Int -> ByteArray) : body x ch = (ch x.a 6 ++ ⟨#[46]⟩) ++ x.nm := by
  unfold body
  rw [if_neg (by omega), if_neg (by omega), if_neg (by omega), if_neg (by omega), if_neg (by omega), if_neg (by omega), if_neg (by omega), if_neg (by omega), if_neg (by omega), if_neg (by omega), if_neg (by omega), if_pos h]
theorem body_13 {x : Nd} (h : x.kind = 13) (ch : Int -> Int -> ByteArray) : body x ch = (x.nm ++ ⟨#[32]⟩) ++ ch x.a 6 := by
  unfold body
  rw [if_neg (by omega), if_neg (by omega), if_neg (by omega), if_neg (by omega), if_neg (by omega), if_neg (by omega), if_neg (by omega), if_neg (by omega), if_neg (by omega), if_neg (by omega), if_neg (by omega), if_neg (by omega), if_pos h]
theorem body_14 {x : Nd} (h : x.kind = 14) (ch : Int -> Int -> ByteArray) : body x ch = (((⟨#[99, 97, 115, 101, 32]⟩ ++ ch x.a 0) ++ ⟨#[32, 111, 102, 32]⟩) ++ joinB [32, 124, 32] (x.l.map (brT ch))) ++ ⟨#[32, 101, 110, 100]⟩ := by
  unfold body
  rw [if_neg (by omega), if_neg (by omega), if_neg (by omega), if_neg (by omega), if_neg (by omega), if_neg (by omega), if_neg (by omega), if_neg (by omega), if_neg (by omega), if_neg (by omega), if_neg (by omega), if_neg (by omega), if_neg (by omega)]
theorem body_eq {x : Nd} {c1 c2 : Int -> Int -> ByteArray} (h1 : 1 <= x.kind) (h2 : x.kind <= 14) (h : ∀ k ∈ kids x, ∀ t, c1 k t = c2 k t) : body x c1 = body x c2 := by
  have hp : x.kind = 11 ∨ x.kind = 14 -> ∀ f ∈ x.l, c1 f.pl 0 = c2 f.pl 0 := fun hk f hf => h _ (by
    unfold kids many
    rw [List.mem_append]
    refine .inr ?_
    rcases hk with e | e <;> simp [e] <;> exact ⟨f, hf, rfl⟩) 0
  have hc : x.kind = 1 ∨ x.kind = 2 ∨ x.kind = 3 ∨ x.kind = 4 ∨ x.kind = 5 ∨ x.kind = 6 ∨ x.kind = 7 ∨ x.kind = 8 ∨ x.kind = 9 ∨ x.kind = 10 ∨ x.kind = 11 ∨ x.kind = 12 ∨ x.kind = 13 ∨ x.kind = 14 := by omega
  rcases hc with k | k | k | k | k | k | k | k | k | k | k | k | k | k
  · rw [body_1 k, body_1 k]
  · rw [body_2 k, body_2 k]
  · rw [body_3 k, body_3 k]
  · rw [body_4 k, body_4 k]
  · rw [body_5 k, body_5 k, h x.a (by simp [kids, kids0, k])]
  · rw [body_6 k, body_6 k, h x.a (by simp [kids, kids0, k]), h x.b (by simp [kids, kids0, k])]
  · rw [body_7 k, body_7 k, h x.a (by simp [kids, kids0, k]), h x.b (by simp [kids, kids0, k])]
  · rw [body_8 k, body_8 k, h x.a (by simp [kids, kids0, k]), h x.b (by simp [kids, kids0, k])]
  · rw [body_9 k, body_9 k, h x.a (by simp [kids, kids0, k]), h x.b (by simp [kids, kids0, k]), h x.c (by simp [kids, kids0, k])]
  · rw [body_10 k, body_10 k, h x.a (by simp [kids, kids0, k]), h x.b (by simp [kids, kids0, k])]
  · rw [body_11 k, body_11 k, show x.l.map (partT c1) = x.l.map (partT c2) from List.map_congr_left fun f hf => by unfold partT; rw [hp (.inl k) f hf]]
  · rw [body_12 k, body_12 k, h x.a (by simp [kids, kids0, k])]
  · rw [body_13 k, body_13 k, h x.a (by simp [kids, kids0, k])]
  · rw [body_14 k, body_14 k, h x.a (by simp [kids, kids0, k]), show x.l.map (brT c1) = x.l.map (brT c2) from List.map_congr_left fun f hf => by unfold brT; rw [hp (.inr k) f hf]]
theorem tf_eq {l : List Nd} (hk : kidsOk l) (hr : ∀ x ∈ l, 1 <= x.kind /\ x.kind <= 14) : ∀ i f, i < f -> tf l f i = tx l i := by
  intro i
  induction i using Nat.strongRecOn with
  | ind i ih =>
    intro f hf
    obtain ⟨f, rfl⟩ : ∃ g, f = g + 1 := ⟨f - 1, by omega⟩
    unfold tx
    rw [tf, tf]
    cases hx : l[i]? with
    | none => rfl
    | some x =>
      simp only
      refine body_eq (hr x (List.mem_of_getElem? hx)).1 (hr x (List.mem_of_getElem? hx)).2 fun k hkm t => ?_
      have hki := hk i x hx k hkm
      unfold chOf
      cases l[k.toNat]? with
      | none => rfl
      | some y => simp only; rw [ih k.toNat (by omega) f (by omega), ih k.toNat (by omega) i (by omega)]
theorem tx_eq {l : List Nd} (hk : kidsOk l) (hr : ∀ x ∈ l, 1 <= x.kind /\ x.kind <= 14) {i : Nat} {x : Nd} (hx : l[i]? = some x) : tx l i = body x (chOf l (tx l)) := by
  unfold tx
  rw [tf, hx]
  simp only
  refine body_eq (hr x (List.mem_of_getElem? hx)).1 (hr x (List.mem_of_getElem? hx)).2 fun k hkm t => ?_
  have hki := hk i x hx k hkm
  unfold chOf
  cases l[k.toNat]? with
  | none => rfl
  | some y => simp only; rw [tf_eq hk hr k.toNat i (by omega)]; rfl
open T Go.RowKit
structure Own (x : Nd) : Prop where
  k1 : 1 <= x.kind
  k2 : x.kind <= 14
  nm : x.nm.size <= 20
  s : x.s.size <= 200
  l : x.l.length <= 30
  f : ∀ f ∈ x.l, f.nm.size <= 20 /\ f.vr.size <= 20
  b : x.kind = 2 -> x.n = 0 ∨ x.n = 1
theorem whole_20 {s : ByteArray} (h : M.wholeB s = true) : s.size <= 20 := by
  unfold M.wholeB at h
  have := of_decide_eq_true h
  exact this.2.1
theorem name_20 {s : ByteArray} (h : M.nameB s = true) : s.size <= 20 := by
  unfold M.nameB at h
  rw [Bool.and_eq_true] at h
  exact whole_20 h.1
theorem tag_20 {s : ByteArray} (h : M.tagB s = true) : s.size <= 20 := by
  unfold M.tagB at h
  rw [Bool.and_eq_true] at h
  exact whole_20 h.1
theorem size_0 {s : ByteArray} (h : s.toList.isEmpty = true) : s.size = 0 := by
  rw [List.isEmpty_iff, ByteArray.toList_eq] at h
  rw [ByteArray.size, <- Array.length_toList, h]; rfl
theorem own_of {x : Nd} (h : rightB x = true) : Own x := by
  unfold rightB rB at h
  simp only [Bool.and_eq_true, Bool.not_eq_true', Bool.or_eq_false_iff, decide_eq_false_iff_not, Bool.and_eq_false_iff, Bool.or_eq_true, decide_eq_true_eq, Bool.not_eq_false'] at h
  obtain ⟨⟨⟨⟨⟨⟨_, _, h1, h2⟩, _, h4, h5⟩, _⟩, ⟨h6, h7, h8⟩⟩, ⟨h9, _, h11⟩⟩, h12⟩ := h
  refine ⟨by omega, by omega, ?_, ?_, ?_, ?_, fun e => by omega⟩
  · rcases h8 with h8 | h8 | h8
    · rcases h6 with h6 | h6
      · rw [h6] at h8; cases h8
      · exact name_20 h6
    · rcases h7 with h7 | h7
      · exact absurd h7 (by omega)
      · exact tag_20 h7
    · rw [size_0 h8]; omega
  · rcases h4 with h4 | h4
    · have : x.kind = 3 := by omega
      omega
    · rw [size_0 h4]; omega
  · rcases h12 with h12 | h12
    · omega
    · unfold labB at h12
      simp only [Bool.and_eq_true, decide_eq_true_eq] at h12
      exact h12.2.1.1
  · intro f hf
    rcases h12 with h12 | h12
    · have : x.l.length = 0 := by omega
      rw [List.eq_nil_of_length_eq_zero this] at hf
      cases hf
    · unfold labB at h12
      rw [Bool.and_eq_true] at h12
      have := List.all_eq_true.1 h12.1 f hf
      unfold fok at this
      split at this
      · rw [Bool.and_eq_true] at this
        exact ⟨name_20 this.1, by rw [size_0 this.2]; omega⟩
      · rw [Bool.and_eq_true] at this
        exact ⟨tag_20 this.1, name_20 this.2⟩
theorem sum_map_le {α : Type} (l : List α) (f g : α -> Nat) (h : ∀ x ∈ l, f x <= g x) : (l.map f).sum <= (l.map g).sum := by
  induction l with
  | nil => simp
  | cons x l ih =>
    simp only [List.map_cons, List.sum_cons]
    have h1 := h x (by simp)
    have h2 := ih fun y hy => h y (by simp [hy])
    omega
theorem sum_map_add {α : Type} (l : List α) (f : α -> Nat) (c : Nat) : (l.map fun x => f x + c).sum = (l.map f).sum + c * l.length := by
  induction l with
  | nil => simp
  | cons x l ih => simp only [List.map_cons, List.sum_cons, List.length_cons, ih, Nat.mul_succ]; omega
theorem joinB_size (sep : List UInt8) (hs : sep.length <= 3) (xs : List ByteArray) : (joinB sep xs).size <= (xs.map fun x => x.size + 3).sum := by
  have e : (joinB sep xs).size = (Lib.join (xs.map (·.data.toList)) sep).length := by unfold joinB; simp [ByteArray.size]
  rw [e]
  cases xs with
  | nil => simp [Lib.join]
  | cons x xs =>
    have hl : ∀ ys : List ByteArray, Lib.lens (ys.map (·.data.toList)) = (ys.map ByteArray.size).sum := fun ys => by
      unfold Lib.lens
      rw [List.map_map]
      congr 1
    rw [List.map_cons, Lib.join_length, <- List.map_cons (f := fun y : ByteArray => y.data.toList), hl, sum_map_add, List.length_map, List.length_cons]
    have : sep.length * xs.length <= 3 * xs.length := Nat.mul_le_mul_right _ hs
    omega
theorem size_app (a b : ByteArray) : (a ++ b).size = a.size + b.size := ByteArray.size_append
theorem size_lit (a : Array UInt8) : (ByteArray.mk a).size = a.size := rfl
theorem cat_le {a b : ByteArray} {n m : Nat} (ha : a.size <= n) (hb : b.size <= m) : (a ++ b).size <= n + m := by rw [size_app]; omega
theorem bra_size (t least : Int) (s : ByteArray) : (bra t least s).size <= s.size + 2 := by
  unfold bra
  split
  · rw [size_app, size_app]; show 1 + s.size + 1 <= _; omega
  · omega
theorem parts_size {x : Nd} (ho : Own x) {ch : Int -> Int -> ByteArray} {wt : Int -> Nat} (h : ∀ f ∈ x.l, (ch f.pl 0).size <= wt f.pl) : (joinB [44, 32] (x.l.map (partT ch))).size <= 900 + ((x.l.map Fld.pl).map wt).sum := by
  refine Nat.le_trans (joinB_size _ (by decide) _) ?_
  rw [List.map_map]
  have h1 : (x.l.map ((fun y : ByteArray => y.size + 3) ∘ partT ch)).sum <= (x.l.map fun f => wt f.pl + 30).sum := sum_map_le _ _ _ fun f hf => by
    have h2 := h f hf
    have h3 := (ho.f f hf).1
    simp only [Function.comp, partT, size_app]
    show f.nm.size + 3 + _ + 3 <= _
    omega
  rw [sum_map_add, List.map_map] at *
  have h4 := ho.l
  have : 30 * x.l.length <= 900 := by omega
  simp only [Function.comp_def] at *
  omega
theorem brs_size {x : Nd} (ho : Own x) {ch : Int -> Int -> ByteArray} {wt : Int -> Nat} (h : ∀ f ∈ x.l, (ch f.pl 0).size <= wt f.pl) : (joinB [32, 124, 32] (x.l.map (brT ch))).size <= 1500 + ((x.l.map Fld.pl).map wt).sum := by
  refine Nat.le_trans (joinB_size _ (by decide) _) ?_
  rw [List.map_map]
  have h1 : (x.l.map ((fun y : ByteArray => y.size + 3) ∘ brT ch)).sum <= (x.l.map fun f => wt f.pl + 50).sum := sum_map_le _ _ _ fun f hf => by
    have h2 := h f hf
    have h3 := ho.f f hf
    simp only [Function.comp, brT, size_app]
    show f.nm.size + 1 + f.vr.size + 4 + _ + 3 <= _
    omega
  rw [sum_map_add, List.map_map] at *
  have h4 := ho.l
  have : 50 * x.l.length <= 1500 := by omega
  simp only [Function.comp_def] at *
  omega
open T Go.RowKit Go.Shelf
def SPost (s : ByteArray) (w : World) (e : Ending) (w' : World) : Prop := e = .returned (.string s) /\ Below w.heap.size w w'
theorem text_5 (a b c n pos : Int) (nm s : ByteArray) (v : Value) (p1 p5 : Nat) (w : World) (sa : ByteArray) (hnm : nm.size <= 20) (ha : sa.size <= 1000000000) (HA : Hid (∀ W, Below w.heap.size w W -> Calls Tryz.prog 36 #[.int .i64 a, .int .i64 0, .pointer (some ⟨p1, 0, none⟩), .pointer (some ⟨p5, 0, none⟩)] W (SPost sa W))) :
    Calls Tryz.prog 37 #[.agg #[.int .i64 5, .int .i64 a, .int .i64 b, .int .i64 c, .int .i64 n, .string nm, .string s, v, .int .i64 pos], .func (.func 36) #[] #[.pointer (some ⟨p1, 0, none⟩), .pointer (some ⟨p5, 0, none⟩)]] w (SPost (((⟨#[102, 117, 110, 32]⟩ ++ nm) ++ ⟨#[32, 45, 62, 32]⟩) ++ sa) w) := by
  have HX := Lib.hid ((Below.refl _ w).alloc (Nat.le_refl _) (.cells #[.int .i64 5, .int .i64 a, .int .i64 b, .int .i64 c, .int .i64 n, .string nm, .string s, v, .int .i64 pos] 37))
  have HG := Lib.hid (World.alloc_heap_new w (.cells #[.int .i64 5, .int .i64 a, .int .i64 b, .int .i64 c, .int .i64 n, .string nm, .string s, v, .int .i64 pos] 37))
  have z0 : ∀ W : World, (Op.stringOp .add ⟨#[102, 117, 110, 32]⟩ nm).run Tryz.prog W = .ok (.string (⟨#[102, 117, 110, 32]⟩ ++ nm)) W := fun W => run_string_add_sum W _ _ (Nat.le_trans (Nat.add_le_add (Nat.le_refl 4) hnm) (by decide))
  have z1 : ∀ W : World, (Op.stringOp .add (⟨#[102, 117, 110, 32]⟩ ++ nm) ⟨#[32, 45, 62, 32]⟩).run Tryz.prog W = .ok (.string ((⟨#[102, 117, 110, 32]⟩ ++ nm) ++ ⟨#[32, 45, 62, 32]⟩)) W := fun W => run_string_add_sum W _ _ (Nat.le_trans (Nat.add_le_add (cat_le (Nat.le_refl 4) hnm) (Nat.le_refl 4)) (by decide))
  have z2 : ∀ W : World, (Op.stringOp .add ((⟨#[102, 117, 110, 32]⟩ ++ nm) ++ ⟨#[32, 45, 62, 32]⟩) sa).run Tryz.prog W = .ok (.string (((⟨#[102, 117, 110, 32]⟩ ++ nm) ++ ⟨#[32, 45, 62, 32]⟩) ++ sa)) W := fun W => run_string_add_sum W _ _ (Nat.le_trans (Nat.add_le_add (cat_le (cat_le (Nat.le_refl 4) hnm) (Nat.le_refl 4)) ha) (by decide))
  go_enter Tryz.func37, Tryz.ntmps37
  go_wp2
  have HD := Lib.hid HX.out.drew
  have y1 := Blk_cell HG.out 1
  have y5 := Blk_cell HG.out 5
  go_region_held3 (fun W => W.cell? ⟨w.heap.size, 1, none⟩ = some (.int .i64 a) /\ W.cell? ⟨w.heap.size, 5, none⟩ = some (.string nm)) (first | exact ⟨y1, y5⟩ | exact ⟨u11, u15⟩) (first | (go_at_call 36; (with_reducible refine (HA.out _ HD.out).mono ?_); rintro e w1 ⟨rfl, hb⟩; have H1 := Lib.hid (HD.out.trans (hb.mono HD.out.size)); have g := (hb.block w.heap.size (Array.getElem?_eq_some_iff.1 HG.out).1).trans HG.out; have u11 := Blk_cell g 1; have u15 := Blk_cell g 5; have G1 := Lib.hid g; clear hb g))
  all_goals
    go_wp2
    go_ret
    exact ⟨rfl, H1.out⟩
open T Go.RowKit Go.Shelf
theorem text_6 (a b c n pos : Int) (nm s : ByteArray) (v : Value) (p1 p5 : Nat) (w : World) (sa : ByteArray) (sb : ByteArray) (ha : sa.size <= 1000000000) (HA : Hid (∀ W, Below w.heap.size w W -> Calls Tryz.prog 36 #[.int .i64 a, .int .i64 5, .pointer (some ⟨p1, 0, none⟩), .pointer (some ⟨p5, 0, none⟩)] W (SPost sa W))) (hb : sb.size <= 1000000000) (HB : Hid (∀ W, Below w.heap.size w W -> Calls Tryz.prog 36 #[.int .i64 b, .int .i64 6, .pointer (some ⟨p1, 0, none⟩), .pointer (some ⟨p5, 0, none⟩)] W (SPost sb W))) :
    Calls Tryz.prog 37 #[.agg #[.int .i64 6, .int .i64 a, .int .i64 b, .int .i64 c, .int .i64 n, .string nm, .string s, v, .int .i64 pos], .func (.func 36) #[] #[.pointer (some ⟨p1, 0, none⟩), .pointer (some ⟨p5, 0, none⟩)]] w (SPost ((sa ++ ⟨#[32]⟩) ++ sb) w) := by
  have HX := Lib.hid ((Below.refl _ w).alloc (Nat.le_refl _) (.cells #[.int .i64 6, .int .i64 a, .int .i64 b, .int .i64 c, .int .i64 n, .string nm, .string s, v, .int .i64 pos] 37))
  have HG := Lib.hid (World.alloc_heap_new w (.cells #[.int .i64 6, .int .i64 a, .int .i64 b, .int .i64 c, .int .i64 n, .string nm, .string s, v, .int .i64 pos] 37))
  have z0 : ∀ W : World, (Op.stringOp .add sa ⟨#[32]⟩).run Tryz.prog W = .ok (.string (sa ++ ⟨#[32]⟩)) W := fun W => run_string_add_sum W _ _ (Nat.le_trans (Nat.add_le_add ha (Nat.le_refl 1)) (by decide))
  have z1 : ∀ W : World, (Op.stringOp .add (sa ++ ⟨#[32]⟩) sb).run Tryz.prog W = .ok (.string ((sa ++ ⟨#[32]⟩) ++ sb)) W := fun W => run_string_add_sum W _ _ (Nat.le_trans (Nat.add_le_add (cat_le ha (Nat.le_refl 1)) hb) (by decide))
  go_enter Tryz.func37, Tryz.ntmps37
  go_wp2
  have HD := Lib.hid HX.out.drew
  have y1 := Blk_cell HG.out 1
  have y2 := Blk_cell HG.out 2
  go_region_held3 (fun W => W.cell? ⟨w.heap.size, 1, none⟩ = some (.int .i64 a) /\ W.cell? ⟨w.heap.size, 2, none⟩ = some (.int .i64 b)) (first | exact ⟨y1, y2⟩ | exact ⟨u11, u12⟩ | exact ⟨u21, u22⟩) (first | (go_at_call 36; (with_reducible refine (HB.out _ H1.out).mono ?_); rintro e w2 ⟨rfl, hb⟩; have H2 := Lib.hid (H1.out.trans (hb.mono H1.out.size)); have g := (hb.block w.heap.size (Array.getElem?_eq_some_iff.1 G1.out).1).trans G1.out; have u21 := Blk_cell g 1; have u22 := Blk_cell g 2; have G2 := Lib.hid g; clear hb g) | (go_at_call 36; (with_reducible refine (HA.out _ HD.out).mono ?_); rintro e w1 ⟨rfl, hb⟩; have H1 := Lib.hid (HD.out.trans (hb.mono HD.out.size)); have g := (hb.block w.heap.size (Array.getElem?_eq_some_iff.1 HG.out).1).trans HG.out; have u11 := Blk_cell g 1; have u12 := Blk_cell g 2; have G1 := Lib.hid g; clear hb g))
  all_goals
    go_wp2
    go_ret
    exact ⟨rfl, H2.out⟩
open T Go.RowKit Go.Shelf
theorem text_7 (a b c n pos : Int) (nm s : ByteArray) (v : Value) (p1 p5 : Nat) (w : World) (sa : ByteArray) (sb : ByteArray) (hnm : nm.size <= 20) (ha : sa.size <= 1000000000) (HA : Hid (∀ W, Below w.heap.size w W -> Calls Tryz.prog 36 #[.int .i64 a, .int .i64 0, .pointer (some ⟨p1, 0, none⟩), .pointer (some ⟨p5, 0, none⟩)] W (SPost sa W))) (hb : sb.size <= 1000000000) (HB : Hid (∀ W, Below w.heap.size w W -> Calls Tryz.prog 36 #[.int .i64 b, .int .i64 0, .pointer (some ⟨p1, 0, none⟩), .pointer (some ⟨p5, 0, none⟩)] W (SPost sb W))) :
    Calls Tryz.prog 37 #[.agg #[.int .i64 7, .int .i64 a, .int .i64 b, .int .i64 c, .int .i64 n, .string nm, .string s, v, .int .i64 pos], .func (.func 36) #[] #[.pointer (some ⟨p1, 0, none⟩), .pointer (some ⟨p5, 0, none⟩)]] w (SPost (((((⟨#[108, 101, 116, 32]⟩ ++ nm) ++ ⟨#[32, 61, 32]⟩) ++ sa) ++ ⟨#[32, 105, 110, 32]⟩) ++ sb) w) := by
  have HX := Lib.hid ((Below.refl _ w).alloc (Nat.le_refl _) (.cells #[.int .i64 7, .int .i64 a, .int .i64 b, .int .i64 c, .int .i64 n, .string nm, .string s, v, .int .i64 pos] 37))
  have HG := Lib.hid (World.alloc_heap_new w (.cells #[.int .i64 7, .int .i64 a, .int .i64 b, .int .i64 c, .int .i64 n, .string nm, .string s, v, .int .i64 pos] 37))
  have z0 : ∀ W : World, (Op.stringOp .add ⟨#[108, 101, 116, 32]⟩ nm).run Tryz.prog W = .ok (.string (⟨#[108, 101, 116, 32]⟩ ++ nm)) W := fun W => run_string_add_sum W _ _ (by simp only [size_lit, List.size_toArray, List.length_cons, List.length_nil]; omega)
  have z1 : ∀ W : World, (Op.stringOp .add (⟨#[108, 101, 116, 32]⟩ ++ nm) ⟨#[32, 61, 32]⟩).run Tryz.prog W = .ok (.string ((⟨#[108, 101, 116, 32]⟩ ++ nm) ++ ⟨#[32, 61, 32]⟩)) W := fun W => run_string_add_sum W _ _ (by simp only [size_app, size_lit, List.size_toArray, List.length_cons, List.length_nil]; omega)
  have z2 : ∀ W : World, (Op.stringOp .add ((⟨#[108, 101, 116, 32]⟩ ++ nm) ++ ⟨#[32, 61, 32]⟩) sa).run Tryz.prog W = .ok (.string (((⟨#[108, 101, 116, 32]⟩ ++ nm) ++ ⟨#[32, 61, 32]⟩) ++ sa)) W := fun W => run_string_add_sum W _ _ (by simp only [size_app, size_lit, List.size_toArray, List.length_cons, List.length_nil]; omega)
  have z3 : ∀ W : World, (Op.stringOp .add (((⟨#[108, 101, 116, 32]⟩ ++ nm) ++ ⟨#[32, 61, 32]⟩) ++ sa) ⟨#[32, 105, 110, 32]⟩).run Tryz.prog W = .ok (.string ((((⟨#[108, 101, 116, 32]⟩ ++ nm) ++ ⟨#[32, 61, 32]⟩) ++ sa) ++ ⟨#[32, 105, 110, 32]⟩)) W := fun W => run_string_add_sum W _ _ (by simp only [size_app, size_lit, List.size_toArray, List.length_cons, List.length_nil]; omega)
  have z4 : ∀ W : World, (Op.stringOp .add ((((⟨#[108, 101, 116, 32]⟩ ++ nm) ++ ⟨#[32, 61, 32]⟩) ++ sa) ++ ⟨#[32, 105, 110, 32]⟩) sb).run Tryz.prog W = .ok (.string (((((⟨#[108, 101, 116, 32]⟩ ++ nm) ++ ⟨#[32, 61, 32]⟩) ++ sa) ++ ⟨#[32, 105, 110, 32]⟩) ++ sb)) W := fun W => run_string_add_sum W _ _ (by simp only [size_app, size_lit, List.size_toArray, List.length_cons, List.length_nil]; omega)
  go_enter Tryz.func37, Tryz.ntmps37
  go_wp2
  have HD := Lib.hid HX.out.drew
  have y1 := Blk_cell HG.out 1
  have y2 := Blk_cell HG.out 2
  have y5 := Blk_cell HG.out 5
  go_region_held3 (fun W => W.cell? ⟨w.heap.size, 1, none⟩ = some (.int .i64 a) /\ W.cell? ⟨w.heap.size, 2, none⟩ = some (.int .i64 b) /\ W.cell? ⟨w.heap.size, 5, none⟩ = some (.string nm)) (first | exact ⟨y1, y2, y5⟩ | exact ⟨u11, u12, u15⟩ | exact ⟨u21, u22, u25⟩) (first | (go_at_call 36; (with_reducible refine (HB.out _ H1.out).mono ?_); rintro e w2 ⟨rfl, hb⟩; have H2 := Lib.hid (H1.out.trans (hb.mono H1.out.size)); have g := (hb.block w.heap.size (Array.getElem?_eq_some_iff.1 G1.out).1).trans G1.out; have u21 := Blk_cell g 1; have u22 := Blk_cell g 2; have u25 := Blk_cell g 5; have G2 := Lib.hid g; clear hb g) | (go_at_call 36; (with_reducible refine (HA.out _ HD.out).mono ?_); rintro e w1 ⟨rfl, hb⟩; have H1 := Lib.hid (HD.out.trans (hb.mono HD.out.size)); have g := (hb.block w.heap.size (Array.getElem?_eq_some_iff.1 HG.out).1).trans HG.out; have u11 := Blk_cell g 1; have u12 := Blk_cell g 2; have u15 := Blk_cell g 5; have G1 := Lib.hid g; clear hb g))
  all_goals
    go_wp2
    go_ret
    exact ⟨rfl, H2.out⟩
open T Go.RowKit Go.Shelf
theorem text_8 (a b c n pos : Int) (nm s : ByteArray) (v : Value) (p1 p5 : Nat) (w : World) (sa : ByteArray) (sb : ByteArray) (hnm : nm.size <= 20) (ha : sa.size <= 1000000000) (HA : Hid (∀ W, Below w.heap.size w W -> Calls Tryz.prog 36 #[.int .i64 a, .int .i64 0, .pointer (some ⟨p1, 0, none⟩), .pointer (some ⟨p5, 0, none⟩)] W (SPost sa W))) (hb : sb.size <= 1000000000) (HB : Hid (∀ W, Below w.heap.size w W -> Calls Tryz.prog 36 #[.int .i64 b, .int .i64 0, .pointer (some ⟨p1, 0, none⟩), .pointer (some ⟨p5, 0, none⟩)] W (SPost sb W))) :
    Calls Tryz.prog 37 #[.agg #[.int .i64 8, .int .i64 a, .int .i64 b, .int .i64 c, .int .i64 n, .string nm, .string s, v, .int .i64 pos], .func (.func 36) #[] #[.pointer (some ⟨p1, 0, none⟩), .pointer (some ⟨p5, 0, none⟩)]] w (SPost (((((⟨#[108, 101, 116, 32, 114, 101, 99, 32]⟩ ++ nm) ++ ⟨#[32, 61, 32]⟩) ++ sa) ++ ⟨#[32, 105, 110, 32]⟩) ++ sb) w) := by
  have HX := Lib.hid ((Below.refl _ w).alloc (Nat.le_refl _) (.cells #[.int .i64 8, .int .i64 a, .int .i64 b, .int .i64 c, .int .i64 n, .string nm, .string s, v, .int .i64 pos] 37))
  have HG := Lib.hid (World.alloc_heap_new w (.cells #[.int .i64 8, .int .i64 a, .int .i64 b, .int .i64 c, .int .i64 n, .string nm, .string s, v, .int .i64 pos] 37))
  have z0 : ∀ W : World, (Op.stringOp .add ⟨#[108, 101, 116, 32, 114, 101, 99, 32]⟩ nm).run Tryz.prog W = .ok (.string (⟨#[108, 101, 116, 32, 114, 101, 99, 32]⟩ ++ nm)) W := fun W => run_string_add_sum W _ _ (by simp only [size_lit, List.size_toArray, List.length_cons, List.length_nil]; omega)
  have z1 : ∀ W : World, (Op.stringOp .add (⟨#[108, 101, 116, 32, 114, 101, 99, 32]⟩ ++ nm) ⟨#[32, 61, 32]⟩).run Tryz.prog W = .ok (.string ((⟨#[108, 101, 116, 32, 114, 101, 99, 32]⟩ ++ nm) ++ ⟨#[32, 61, 32]⟩)) W := fun W => run_string_add_sum W _ _ (by simp only [size_app, size_lit, List.size_toArray, List.length_cons, List.length_nil]; omega)
  have z2 : ∀ W : World, (Op.stringOp .add ((⟨#[108, 101, 116, 32, 114, 101, 99, 32]⟩ ++ nm) ++ ⟨#[32, 61, 32]⟩) sa).run Tryz.prog W = .ok (.string (((⟨#[108, 101, 116, 32, 114, 101, 99, 32]⟩ ++ nm) ++ ⟨#[32, 61, 32]⟩) ++ sa)) W := fun W => run_string_add_sum W _ _ (by simp only [size_app, size_lit, List.size_toArray, List.length_cons, List.length_nil]; omega)
  have z3 : ∀ W : World, (Op.stringOp .add (((⟨#[108, 101, 116, 32, 114, 101, 99, 32]⟩ ++ nm) ++ ⟨#[32, 61, 32]⟩) ++ sa) ⟨#[32, 105, 110, 32]⟩).run Tryz.prog W = .ok (.string ((((⟨#[108, 101, 116, 32, 114, 101, 99, 32]⟩ ++ nm) ++ ⟨#[32, 61, 32]⟩) ++ sa) ++ ⟨#[32, 105, 110, 32]⟩)) W := fun W => run_string_add_sum W _ _ (by simp only [size_app, size_lit, List.size_toArray, List.length_cons, List.length_nil]; omega)
  have z4 : ∀ W : World, (Op.stringOp .add ((((⟨#[108, 101, 116, 32, 114, 101, 99, 32]⟩ ++ nm) ++ ⟨#[32, 61, 32]⟩) ++ sa) ++ ⟨#[32, 105, 110, 32]⟩) sb).run Tryz.prog W = .ok (.string (((((⟨#[108, 101, 116, 32, 114, 101, 99, 32]⟩ ++ nm) ++ ⟨#[32, 61, 32]⟩) ++ sa) ++ ⟨#[32, 105, 110, 32]⟩) ++ sb)) W := fun W => run_string_add_sum W _ _ (by simp only [size_app, size_lit, List.size_toArray, List.length_cons, List.length_nil]; omega)
  go_enter Tryz.func37, Tryz.ntmps37
  go_wp2
  have HD := Lib.hid HX.out.drew
  have y1 := Blk_cell HG.out 1
  have y2 := Blk_cell HG.out 2
  have y5 := Blk_cell HG.out 5
  go_region_held3 (fun W => W.cell? ⟨w.heap.size, 1, none⟩ = some (.int .i64 a) /\ W.cell? ⟨w.heap.size, 2, none⟩ = some (.int .i64 b) /\ W.cell? ⟨w.heap.size, 5, none⟩ = some (.string nm)) (first | exact ⟨y1, y2, y5⟩ | exact ⟨u11, u12, u15⟩ | exact ⟨u21, u22, u25⟩) (first | (go_at_call 36; (with_reducible refine (HB.out _ H1.out).mono ?_); rintro e w2 ⟨rfl, hb⟩; have H2 := Lib.hid (H1.out.trans (hb.mono H1.out.size)); have g := (hb.block w.heap.size (Array.getElem?_eq_some_iff.1 G1.out).1).trans G1.out; have u21 := Blk_cell g 1; have u22 := Blk_cell g 2; have u25 := Blk_cell g 5; have G2 := Lib.hid g; clear hb g) | (go_at_call 36; (with_reducible refine (HA.out _ HD.out).mono ?_); rintro e w1 ⟨rfl, hb⟩; have H1 := Lib.hid (HD.out.trans (hb.mono HD.out.size)); have g := (hb.block w.heap.size (Array.getElem?_eq_some_iff.1 HG.out).1).trans HG.out; have u11 := Blk_cell g 1; have u12 := Blk_cell g 2; have u15 := Blk_cell g 5; have G1 := Lib.hid g; clear hb g))
  all_goals
    go_wp2
    go_ret
    exact ⟨rfl, H2.out⟩
open T Go.RowKit Go.Shelf
theorem text_9 (a b c n pos : Int) (nm s : ByteArray) (v : Value) (p1 p5 : Nat) (w : World) (sa : ByteArray) (sb : ByteArray) (sc : ByteArray) (_hnm : nm.size <= 20) (ha : sa.size <= 1000000000) (HA : Hid (∀ W, Below w.heap.size w W -> Calls Tryz.prog 36 #[.int .i64 a, .int .i64 0, .pointer (some ⟨p1, 0, none⟩), .pointer (some ⟨p5, 0, none⟩)] W (SPost sa W))) (hb : sb.size <= 1000000000) (HB : Hid (∀ W, Below w.heap.size w W -> Calls Tryz.prog 36 #[.int .i64 b, .int .i64 0, .pointer (some ⟨p1, 0, none⟩), .pointer (some ⟨p5, 0, none⟩)] W (SPost sb W))) (hc : sc.size <= 1000000000) (HC : Hid (∀ W, Below w.heap.size w W -> Calls Tryz.prog 36 #[.int .i64 c, .int .i64 0, .pointer (some ⟨p1, 0, none⟩), .pointer (some ⟨p5, 0, none⟩)] W (SPost sc W))) :
    Calls Tryz.prog 37 #[.agg #[.int .i64 9, .int .i64 a, .int .i64 b, .int .i64 c, .int .i64 n, .string nm, .string s, v, .int .i64 pos], .func (.func 36) #[] #[.pointer (some ⟨p1, 0, none⟩), .pointer (some ⟨p5, 0, none⟩)]] w (SPost (((((⟨#[105, 102, 32]⟩ ++ sa) ++ ⟨#[32, 116, 104, 101, 110, 32]⟩) ++ sb) ++ ⟨#[32, 101, 108, 115, 101, 32]⟩) ++ sc) w) := by
  have HX := Lib.hid ((Below.refl _ w).alloc (Nat.le_refl _) (.cells #[.int .i64 9, .int .i64 a, .int .i64 b, .int .i64 c, .int .i64 n, .string nm, .string s, v, .int .i64 pos] 37))
  have HG := Lib.hid (World.alloc_heap_new w (.cells #[.int .i64 9, .int .i64 a, .int .i64 b, .int .i64 c, .int .i64 n, .string nm, .string s, v, .int .i64 pos] 37))
  have z0 : ∀ W : World, (Op.stringOp .add ⟨#[105, 102, 32]⟩ sa).run Tryz.prog W = .ok (.string (⟨#[105, 102, 32]⟩ ++ sa)) W := fun W => run_string_add_sum W _ _ (by simp only [size_lit, List.size_toArray, List.length_cons, List.length_nil]; omega)
  have z1 : ∀ W : World, (Op.stringOp .add (⟨#[105, 102, 32]⟩ ++ sa) ⟨#[32, 116, 104, 101, 110, 32]⟩).run Tryz.prog W = .ok (.string ((⟨#[105, 102, 32]⟩ ++ sa) ++ ⟨#[32, 116, 104, 101, 110, 32]⟩)) W := fun W => run_string_add_sum W _ _ (by simp only [size_app, size_lit, List.size_toArray, List.length_cons, List.length_nil]; omega)
  have z2 : ∀ W : World, (Op.stringOp .add ((⟨#[105, 102, 32]⟩ ++ sa) ++ ⟨#[32, 116, 104, 101, 110, 32]⟩) sb).run Tryz.prog W = .ok (.string (((⟨#[105, 102, 32]⟩ ++ sa) ++ ⟨#[32, 116, 104, 101, 110, 32]⟩) ++ sb)) W := fun W => run_string_add_sum W _ _ (by simp only [size_app, size_lit, List.size_toArray, List.length_cons, List.length_nil]; omega)
  have z3 : ∀ W : World, (Op.stringOp .add (((⟨#[105, 102, 32]⟩ ++ sa) ++ ⟨#[32, 116, 104, 101, 110, 32]⟩) ++ sb) ⟨#[32, 101, 108, 115, 101, 32]⟩).run Tryz.prog W = .ok (.string ((((⟨#[105, 102, 32]⟩ ++ sa) ++ ⟨#[32, 116, 104, 101, 110, 32]⟩) ++ sb) ++ ⟨#[32, 101, 108, 115, 101, 32]⟩)) W := fun W => run_string_add_sum W _ _ (by simp only [size_app, size_lit, List.size_toArray, List.length_cons, List.length_nil]; omega)
  have z4 : ∀ W : World, (Op.stringOp .add ((((⟨#[105, 102, 32]⟩ ++ sa) ++ ⟨#[32, 116, 104, 101, 110, 32]⟩) ++ sb) ++ ⟨#[32, 101, 108, 115, 101, 32]⟩) sc).run Tryz.prog W = .ok (.string (((((⟨#[105, 102, 32]⟩ ++ sa) ++ ⟨#[32, 116, 104, 101, 110, 32]⟩) ++ sb) ++ ⟨#[32, 101, 108, 115, 101, 32]⟩) ++ sc)) W := fun W => run_string_add_sum W _ _ (by simp only [size_app, size_lit, List.size_toArray, List.length_cons, List.length_nil]; omega)
  go_enter Tryz.func37, Tryz.ntmps37
  go_wp2
  have HD := Lib.hid HX.out.drew
  have y1 := Blk_cell HG.out 1
  have y2 := Blk_cell HG.out 2
  have y3 := Blk_cell HG.out 3
  go_region_held3 (fun W => W.cell? ⟨w.heap.size, 1, none⟩ = some (.int .i64 a) /\ W.cell? ⟨w.heap.size, 2, none⟩ = some (.int .i64 b) /\ W.cell? ⟨w.heap.size, 3, none⟩ = some (.int .i64 c)) (first | exact ⟨y1, y2, y3⟩ | exact ⟨u11, u12, u13⟩ | exact ⟨u21, u22, u23⟩ | exact ⟨u31, u32, u33⟩) (first | (go_at_call 36; (with_reducible refine (HC.out _ H2.out).mono ?_); rintro e w3 ⟨rfl, hb⟩; have H3 := Lib.hid (H2.out.trans (hb.mono H2.out.size)); have g := (hb.block w.heap.size (Array.getElem?_eq_some_iff.1 G2.out).1).trans G2.out; have u31 := Blk_cell g 1; have u32 := Blk_cell g 2; have u33 := Blk_cell g 3; have G3 := Lib.hid g; clear hb g) | (go_at_call 36; (with_reducible refine (HB.out _ H1.out).mono ?_); rintro e w2 ⟨rfl, hb⟩; have H2 := Lib.hid (H1.out.trans (hb.mono H1.out.size)); have g := (hb.block w.heap.size (Array.getElem?_eq_some_iff.1 G1.out).1).trans G1.out; have u21 := Blk_cell g 1; have u22 := Blk_cell g 2; have u23 := Blk_cell g 3; have G2 := Lib.hid g; clear hb g) | (go_at_call 36; (with_reducible refine (HA.out _ HD.out).mono ?_); rintro e w1 ⟨rfl, hb⟩; have H1 := Lib.hid (HD.out.trans (hb.mono HD.out.size)); have g := (hb.block w.heap.size (Array.getElem?_eq_some_iff.1 HG.out).1).trans HG.out; have u11 := Blk_cell g 1; have u12 := Blk_cell g 2; have u13 := Blk_cell g 3; have G1 := Lib.hid g; clear hb g))
  all_goals
    go_wp2
    go_ret
    exact ⟨rfl, H3.out⟩
open T Go.RowKit Go.Shelf
theorem text_12 (a b c n pos : Int) (nm s : ByteArray) (v : Value) (p1 p5 : Nat) (w : World) (sa : ByteArray) (hnm : nm.size <= 20) (ha : sa.size <= 1000000000) (HA : Hid (∀ W, Below w.heap.size w W -> Calls Tryz.prog 36 #[.int .i64 a, .int .i64 6, .pointer (some ⟨p1, 0, none⟩), .pointer (some ⟨p5, 0, none⟩)] W (SPost sa W))) :
    Calls Tryz.prog 37 #[.agg #[.int .i64 12, .int .i64 a, .int .i64 b, .int .i64 c, .int .i64 n, .string nm, .string s, v, .int .i64 pos], .func (.func 36) #[] #[.pointer (some ⟨p1, 0, none⟩), .pointer (some ⟨p5, 0, none⟩)]] w (SPost ((sa ++ ⟨#[46]⟩) ++ nm) w) := by
  have HX := Lib.hid ((Below.refl _ w).alloc (Nat.le_refl _) (.cells #[.int .i64 12, .int .i64 a, .int .i64 b, .int .i64 c, .int .i64 n, .string nm, .string s, v, .int .i64 pos] 37))
  have HG := Lib.hid (World.alloc_heap_new w (.cells #[.int .i64 12, .int .i64 a, .int .i64 b, .int .i64 c, .int .i64 n, .string nm, .string s, v, .int .i64 pos] 37))
  have z0 : ∀ W : World, (Op.stringOp .add sa ⟨#[46]⟩).run Tryz.prog W = .ok (.string (sa ++ ⟨#[46]⟩)) W := fun W => run_string_add_sum W _ _ (by simp only [size_lit, List.size_toArray, List.length_cons, List.length_nil]; omega)
  have z1 : ∀ W : World, (Op.stringOp .add (sa ++ ⟨#[46]⟩) nm).run Tryz.prog W = .ok (.string ((sa ++ ⟨#[46]⟩) ++ nm)) W := fun W => run_string_add_sum W _ _ (by simp only [size_app, size_lit, List.size_toArray, List.length_cons, List.length_nil]; omega)
  go_enter Tryz.func37, Tryz.ntmps37
  go_wp2
  have HD := Lib.hid HX.out.drew
  have y1 := Blk_cell HG.out 1
  have y5 := Blk_cell HG.out 5
  go_region_held3 (fun W => W.cell? ⟨w.heap.size, 1, none⟩ = some (.int .i64 a) /\ W.cell? ⟨w.heap.size, 5, none⟩ = some (.string nm)) (first | exact ⟨y1, y5⟩ | exact ⟨u11, u15⟩) (first | (go_at_call 36; (with_reducible refine (HA.out _ HD.out).mono ?_); rintro e w1 ⟨rfl, hb⟩; have H1 := Lib.hid (HD.out.trans (hb.mono HD.out.size)); have g := (hb.block w.heap.size (Array.getElem?_eq_some_iff.1 HG.out).1).trans HG.out; have u11 := Blk_cell g 1; have u15 := Blk_cell g 5; have G1 := Lib.hid g; clear hb g))
  all_goals
    go_wp2
    go_ret
    exact ⟨rfl, H1.out⟩
open T Go.RowKit Go.Shelf
theorem text_13 (a b c n pos : Int) (nm s : ByteArray) (v : Value) (p1 p5 : Nat) (w : World) (sa : ByteArray) (hnm : nm.size <= 20) (ha : sa.size <= 1000000000) (HA : Hid (∀ W, Below w.heap.size w W -> Calls Tryz.prog 36 #[.int .i64 a, .int .i64 6, .pointer (some ⟨p1, 0, none⟩), .pointer (some ⟨p5, 0, none⟩)] W (SPost sa W))) :
    Calls Tryz.prog 37 #[.agg #[.int .i64 13, .int .i64 a, .int .i64 b, .int .i64 c, .int .i64 n, .string nm, .string s, v, .int .i64 pos], .func (.func 36) #[] #[.pointer (some ⟨p1, 0, none⟩), .pointer (some ⟨p5, 0, none⟩)]] w (SPost ((nm ++ ⟨#[32]⟩) ++ sa) w) := by
  have HX := Lib.hid ((Below.refl _ w).alloc (Nat.le_refl _) (.cells #[.int .i64 13, .int .i64 a, .int .i64 b, .int .i64 c, .int .i64 n, .string nm, .string s, v, .int .i64 pos] 37))
  have HG := Lib.hid (World.alloc_heap_new w (.cells #[.int .i64 13, .int .i64 a, .int .i64 b, .int .i64 c, .int .i64 n, .string nm, .string s, v, .int .i64 pos] 37))
  have z0 : ∀ W : World, (Op.stringOp .add nm ⟨#[32]⟩).run Tryz.prog W = .ok (.string (nm ++ ⟨#[32]⟩)) W := fun W => run_string_add_sum W _ _ (by simp only [size_lit, List.size_toArray, List.length_cons, List.length_nil]; omega)
  have z1 : ∀ W : World, (Op.stringOp .add (nm ++ ⟨#[32]⟩) sa).run Tryz.prog W = .ok (.string ((nm ++ ⟨#[32]⟩) ++ sa)) W := fun W => run_string_add_sum W _ _ (by simp only [size_app, size_lit, List.size_toArray, List.length_cons, List.length_nil]; omega)
  go_enter Tryz.func37, Tryz.ntmps37
  go_wp2
  have HD := Lib.hid HX.out.drew
  have y1 := Blk_cell HG.out 1
  have y5 := Blk_cell HG.out 5
  go_region_held3 (fun W => W.cell? ⟨w.heap.size, 1, none⟩ = some (.int .i64 a) /\ W.cell? ⟨w.heap.size, 5, none⟩ = some (.string nm)) (first | exact ⟨y1, y5⟩ | exact ⟨u11, u15⟩) (first | (go_at_call 36; (with_reducible refine (HA.out _ HD.out).mono ?_); rintro e w1 ⟨rfl, hb⟩; have H1 := Lib.hid (HD.out.trans (hb.mono HD.out.size)); have g := (hb.block w.heap.size (Array.getElem?_eq_some_iff.1 HG.out).1).trans HG.out; have u11 := Blk_cell g 1; have u15 := Blk_cell g 5; have G1 := Lib.hid g; clear hb g))
  all_goals
    go_wp2
    go_ret
    exact ⟨rfl, H1.out⟩
end Go.Proofs.YtjakeidbajkdcaaGreatDoor.S
