/- Joined by program. -/
import Derived.Test.YtjakeidbajkdcaaGreatDoorG99
import Derived.Test.YtjakeidbajkdcaaGreatDoorProg
import Derived.WalkKit
import Derived.OwnWalk
import Derived.LoopTactic
import Derived.Lib.Hide
import Derived.Outline
import Derived.WalkSmall
import Derived.RangeFuncBox
set_option maxRecDepth 100000
set_option maxHeartbeats 4000000
namespace Go.Proofs.YtjakeidbajkdcaaGreatDoor.T
open Go.RowKit
structure Fld where
 nm : ByteArray
 vr : ByteArray
 pl : Int
structure Nd where
 kind : Int
 a : Int
 b : Int
 c : Int
 n : Int
 nm : ByteArray
 s : ByteArray
 l : List Fld
 pos : Int
def FldsAt (W : World) (b o : Nat) (l : List Fld) : Prop := ∀ j f, l[j]? = some f ->
 W.cell? ⟨b, o + j * 3, none⟩ = some (.string f.nm) /\ W.cell? ⟨b, o + j * 3 + 1, none⟩ = some (.string f.vr) /\ W.cell? ⟨b, o + j * 3 + 2, none⟩ = some (.int .i64 f.pl)
def Flds (B : Nat) (W : World) (v : Value) (l : List Fld) : Prop :=
 ∃ A c, v = .slice A l.length c /\ (l.length <= c /\ c <= 9223372036854775807) /\ (A = none -> c = 0) /\ (0 < l.length -> ∃ b o, A = some ⟨b, o, none⟩ /\ b < B /\ FldsAt W b o l)
def ndArr (x : Nd) (v : Value) : Array Value := #[.int .i64 x.kind, .int .i64 x.a, .int .i64 x.b, .int .i64 x.c, .int .i64 x.n, .string x.nm, .string x.s, v, .int .i64 x.pos]
def NdAt (B : Nat) (W : World) (b o : Nat) (x : Nd) : Prop := ∃ v, Flds B W v x.l /\
 W.cell? ⟨b, o, none⟩ = some (.int .i64 x.kind) /\ W.cell? ⟨b, o + 1, none⟩ = some (.int .i64 x.a) /\ W.cell? ⟨b, o + 2, none⟩ = some (.int .i64 x.b) /\ W.cell? ⟨b, o + 3, none⟩ = some (.int .i64 x.c) /\ W.cell? ⟨b, o + 4, none⟩ = some (.int .i64 x.n) /\
 W.cell? ⟨b, o + 5, none⟩ = some (.string x.nm) /\ W.cell? ⟨b, o + 6, none⟩ = some (.string x.s) /\ W.cell? ⟨b, o + 7, none⟩ = some v /\ W.cell? ⟨b, o + 8, none⟩ = some (.int .i64 x.pos)
def Nodes (B : Nat) (W : World) (v : Value) (l : List Nd) : Prop :=
 ∃ A c, v = .slice A l.length c /\ (l.length <= c /\ c <= 9223372036854775807) /\ (A = none -> c = 0) /\ (0 < l.length -> ∃ b o, A = some ⟨b, o, none⟩ /\ b < B /\ ∀ j x, l[j]? = some x -> NdAt B W b (o + j * 9) x)
theorem FldsAt.below {B : Nat} {W W' : World} {b o : Nat} {l : List Fld} (h : FldsAt W b o l) (hb : Below B W W') (hlt : b < B) : FldsAt W' b o l := fun j f hj => by
 obtain ⟨h0, h1, h2⟩ := h j f hj
 exact ⟨(hb.cell (p := ⟨b, _, none⟩) hlt).trans h0, (hb.cell (p := ⟨b, _, none⟩) hlt).trans h1, (hb.cell (p := ⟨b, _, none⟩) hlt).trans h2⟩
theorem Flds.below {B : Nat} {W W' : World} {v : Value} {l : List Fld} (h : Flds B W v l) (hb : Below B W W') : Flds B W' v l := by
 obtain ⟨A, c, h1, h2, h3, h4⟩ := h
 exact ⟨A, c, h1, h2, h3, fun hl => by obtain ⟨b, o, e1, e2, e3⟩ := h4 hl; exact ⟨b, o, e1, e2, e3.below hb e2⟩⟩
theorem Flds.mono {B B' : Nat} {W : World} {v : Value} {l : List Fld} (h : Flds B W v l) (hb : B <= B') : Flds B' W v l := by
 obtain ⟨A, c, h1, h2, h3, h4⟩ := h
 exact ⟨A, c, h1, h2, h3, fun hl => by obtain ⟨b, o, e1, e2, e3⟩ := h4 hl; exact ⟨b, o, e1, by omega, e3⟩⟩
theorem NdAt.below {B : Nat} {W W' : World} {b o : Nat} {x : Nd} (h : NdAt B W b o x) (hb : Below B W W') (hlt : b < B) : NdAt B W' b o x := by
 obtain ⟨v, hv, h0, h1, h2, h3, h4, h5, h6, h7, h8⟩ := h
 have e : ∀ k, W'.cell? ⟨b, k, none⟩ = W.cell? ⟨b, k, none⟩ := fun k => hb.cell (p := ⟨b, k, none⟩) hlt
 exact ⟨v, hv.below hb, (e _).trans h0, (e _).trans h1, (e _).trans h2, (e _).trans h3, (e _).trans h4, (e _).trans h5, (e _).trans h6, (e _).trans h7, (e _).trans h8⟩
theorem NdAt.mono {B B' : Nat} {W : World} {b o : Nat} {x : Nd} (h : NdAt B W b o x) (hb : B <= B') : NdAt B' W b o x := by
 obtain ⟨v, hv, h⟩ := h
 exact ⟨v, hv.mono hb, h⟩
theorem Nodes.below {B : Nat} {W W' : World} {v : Value} {l : List Nd} (h : Nodes B W v l) (hb : Below B W W') : Nodes B W' v l := by
 obtain ⟨A, c, h1, h2, h3, h4⟩ := h
 exact ⟨A, c, h1, h2, h3, fun hl => by obtain ⟨b, o, e1, e2, e3⟩ := h4 hl; exact ⟨b, o, e1, e2, fun j x hj => (e3 j x hj).below hb e2⟩⟩
theorem Nodes.mono {B B' : Nat} {W : World} {v : Value} {l : List Nd} (h : Nodes B W v l) (hb : B <= B') : Nodes B' W v l := by
 obtain ⟨A, c, h1, h2, h3, h4⟩ := h
 exact ⟨A, c, h1, h2, h3, fun hl => by obtain ⟨b, o, e1, e2, e3⟩ := h4 hl; exact ⟨b, o, e1, by omega, fun j x hj => (e3 j x hj).mono hb⟩⟩
def kids0 (x : Nd) : List Int :=
 if x.kind = 5 ∨ x.kind = 12 ∨ x.kind = 13 ∨ x.kind = 14 then [x.a] else if x.kind = 6 ∨ x.kind = 7 ∨ x.kind = 8 ∨ x.kind = 10 then [x.a, x.b] else if x.kind = 9 then [x.a, x.b, x.c] else []
def many (x : Nd) : Bool := decide (x.kind = 11 ∨ x.kind = 14)
def kids (x : Nd) : List Int := kids0 x ++ if many x = true then x.l.map Fld.pl else []
open Go.RowKit
def dp (ds : List Nat) (x : Nd) : Nat := ((kids x).map fun k => ds.getD k.toNat 0).foldl max 0 + 1
def deeps (l : List Nd) : List Nat := l.foldl (fun ds x => ds ++ [dp ds x]) []
theorem zfb (l : List Nd) (x : Nd) : deeps (l ++ [x]) = deeps l ++ [dp (deeps l) x] := by simp [deeps]
theorem snocInd {α : Type} {P : List α -> Prop} (h0 : P []) (h1 : ∀ l x, P l -> P (l ++ [x])) (l : List α) : P l := by
 have h : ∀ n (l : List α), l.length = n -> P l := by
  intro n
  induction n with
  | zero => intro l hl; rw [List.length_eq_zero_iff.1 hl]; exact h0
  | succ n ih =>
   intro l hl
   have hne : l ≠ [] := by intro e; rw [e] at hl; simp at hl
   rw [<- List.dropLast_concat_getLast hne]
   exact h1 _ _ (ih _ (by simp [hl]))
 exact h _ l rfl
theorem zer (l : List Nd) : (deeps l).length = l.length := by
 induction l using snocInd with
 | h0 => rfl
 | h1 l x ih => rw [zfb]; simp [ih]
theorem zm6 (l m : List Nd) : ∃ r, deeps (l ++ m) = deeps l ++ r := by
 induction m using snocInd with
 | h0 => exact ⟨[], by simp⟩
 | h1 m x ih =>
  obtain ⟨r, hr⟩ := ih
  rw [<- List.append_assoc, zfb, hr]
  exact ⟨_, List.append_assoc _ _ _⟩
theorem zd6 (l : List Nd) (k : Nat) : deeps (l.take k) = (deeps l).take k := by
 obtain ⟨r, hr⟩ := zm6 (l.take k) (l.drop k)
 rw [List.take_append_drop] at hr
 by_cases h : k <= l.length
 ·have e : (deeps (l.take k)).length = k := by rw [zer, List.length_take]; omega
  rw [hr, List.take_append_of_le_length (by omega)]
  exact (List.take_of_length_le (Nat.le_of_eq e)).symm
 ·rw [List.take_of_length_le (by omega), List.take_of_length_le (by rw [zer]; omega)]
theorem zao {α : Type} (l : List α) (k : Nat) (x : α) (h : l[k]? = some x) : l.take (k + 1) = l.take k ++ [x] := by
 rw [List.take_add_one, h]; rfl
theorem zaz {α : Type} {l : List α} {k : Nat} {x : α} (h : l[k]? = some x) : k < l.length := (lge.1 h).1
theorem zqr {l : List Nd} {i : Nat} {x : Nd} (h : l[i]? = some x) : (deeps l)[i]? = some (dp ((deeps l).take i) x) := by
 have h1 := zaz h
 have h2 : (deeps l).take (i + 1) = (deeps l).take i ++ [dp ((deeps l).take i) x] := by rw [<- zd6, zao l i x h, zfb, zd6]
 have h3 : ((deeps l).take (i + 1))[i]? = (deeps l)[i]? := by rw [List.getElem?_take]; simp
 rw [<- h3, h2, List.getElem?_append_right (by simp [zer]; omega)]
 simp [zer, Nat.min_eq_left (Nat.le_of_lt h1)]
def ahead (i : Nat) (x : Nd) : Prop := ∀ k ∈ kids x, 0 <= k /\ k < (i : Int)
def kidsOk (l : List Nd) : Prop := ∀ (i : Nat) (x : Nd), l[i]? = some x -> ahead i x
def allKids (l : List Nd) : List Int := l.flatMap kids
def onceOk (l : List Nd) : Prop := (allKids l).Nodup /\ ∀ j : Nat, j + 1 < l.length -> (j : Int) ∈ allKids l
def recAt (l : List Nd) (x : Nd) : Prop := x.kind = 8 -> ∃ y, l[x.a.toNat]? = some y /\ y.kind = 5
def recOk (l : List Nd) : Prop := ∀ (i : Nat) (x : Nd), l[i]? = some x -> recAt l x
theorem zcl (l : List Nd) (x : Nd) : allKids (l ++ [x]) = allKids l ++ kids x := by simp [allKids]
theorem zdk {l : List Nd} {m : Int} : m ∈ allKids l ↔ ∃ (i : Nat) (x : Nd), l[i]? = some x /\ m ∈ kids x := by
 simp only [allKids, List.mem_flatMap]
 constructor
 ·rintro ⟨x, hx, hm⟩
  obtain ⟨i, hi⟩ := List.getElem?_of_mem hx
  exact ⟨i, x, hi, hm⟩
 ·rintro ⟨i, x, hi, hm⟩
  exact ⟨x, lme hi, hm⟩
theorem zr4 {l : List Nd} (h : (allKids l).Nodup) : ∀ {i j : Nat} {x y : Nd} {m : Int}, l[i]? = some x -> l[j]? = some y -> m ∈ kids x -> m ∈ kids y -> i = j := by
 induction l using snocInd with
 | h0 => intro i j x y m hx; simp at hx
 | h1 l z ih =>
  intro i j x y m hx hy hmx hmy
  rw [zcl, List.nodup_append] at h
  have hi := zaz hx
  have hj := zaz hy
  simp only [List.length_append, List.length_cons, List.length_nil] at hi hj
  have key : ∀ {i : Nat} {x : Nd}, (l ++ [z])[i]? = some x -> i < l.length + (0 + 1) -> (i < l.length /\ l[i]? = some x) ∨ (i = l.length /\ x = z) := by
   intro i x hx hi
   by_cases hl : i < l.length
   ·rw [List.getElem?_append_left hl] at hx; exact .inl ⟨hl, hx⟩
   ·have e : i = l.length := by omega
    subst e
    simp at hx
    exact .inr ⟨rfl, hx.symm⟩
  rcases key hx hi with ⟨h1, h2⟩ | ⟨h1, h2⟩ <;> rcases key hy hj with ⟨h3, h4⟩ | ⟨h3, h4⟩
  ·exact ih h.1 h2 h4 hmx hmy
  ·exact absurd rfl (h.2.2 m (zdk.2 ⟨i, x, h2, hmx⟩) m (h4 ▸ hmy))
  ·exact absurd rfl (h.2.2 m (zdk.2 ⟨j, y, h4, hmy⟩) m (h2 ▸ hmx))
  ·omega
theorem zma {l : List Nd} (h : (allKids l).Nodup) {i : Nat} {x : Nd} (hx : l[i]? = some x) : (kids x).Nodup := by
 induction l using snocInd with
 | h0 => simp at hx
 | h1 l z ih =>
  rw [zcl, List.nodup_append] at h
  by_cases hl : i < l.length
  ·rw [List.getElem?_append_left hl] at hx; exact ih h.1 hx
  ·have hi := zaz hx
   simp only [List.length_append, List.length_cons, List.length_nil] at hi
   have e : i = l.length := by omega
   subst e
   simp at hx
   exact hx ▸ h.2.1
def own (x : Nd) : Nat := (kids0 x).length
def relab (l : List Fld) (ks : List Int) : List Fld := List.zipWith (fun f k => { f with pl := k }) l ks
def wk (x : Nd) (ks : List Int) : Nd :=
 { x with a := if 0 < own x then ks.getD 0 0 else 0, b := if 1 < own x then ks.getD 1 0 else 0, c := if 2 < own x then ks.getD 2 0 else 0, l := if many x = true then relab x.l (ks.drop (own x)) else [] }
def cp (l : List Nd) (i : Nat) (out : List Nd) : List Nd :=
 match l[i]? with
 | none => out
 | some x =>
  let r := (kids x).foldl (fun (p : List Nd × List Int) k => if _h : k.toNat < i then (let o := cp l k.toNat p.1; (o, p.2 ++ [(o.length : Int) - 1])) else p) (out, [])
  r.1 ++ [wk x r.2]
termination_by i
def post (l : List Nd) (i : Nat) : List Nat :=
 match l[i]? with
 | none => []
 | some x => ((kids x).flatMap fun k => if _h : k.toNat < i then post l k.toNat else []) ++ [i]
termination_by i
def cps (l : List Nd) (p : List Nd × List Int) (ks : List Int) : List Nd × List Int :=
 ks.foldl (fun p k => (cp l k.toNat p.1, p.2 ++ [((cp l k.toNat p.1).length : Int) - 1])) p
theorem zdm (l : List Nd) (p : List Nd × List Int) (ks : List Int) (k : Int) : cps l p (ks ++ [k]) = (cp l k.toNat (cps l p ks).1, (cps l p ks).2 ++ [((cp l k.toNat (cps l p ks).1).length : Int) - 1]) := by simp [cps]
theorem toNat_lt {k : Int} {i : Nat} (h : 0 <= k /\ k < (i : Int)) : k.toNat < i := by omega
theorem zmm {l : List Nd} {i : Nat} {x : Nd} (h : l[i]? = some x) (ha : ahead i x) (out : List Nd) : cp l i out = (cps l (out, []) (kids x)).1 ++ [wk x (cps l (out, []) (kids x)).2] := by
 rw [cp, h]
 have e : ∀ (ks : List Int) (p : List Nd × List Int), (∀ k ∈ ks, 0 <= k /\ k < (i : Int)) -> ks.foldl (fun (p : List Nd × List Int) k => if _h : k.toNat < i then (cp l k.toNat p.1, p.2 ++ [((cp l k.toNat p.1).length : Int) - 1]) else p) p = cps l p ks := by
  intro ks
  induction ks with
  | nil => intro p _; rfl
  | cons k ks ih =>
   intro p hks
   have h1 := toNat_lt (hks k (by simp))
   simp only [List.foldl_cons, cps]
   rw [dif_pos h1]
   exact ih _ fun m hm => hks m (by simp [hm])
 have e' := e (kids x) (out, []) ha
 simp only [e']
def stp (l : List Nd) (s : List Nd × List Int) (p : Nat) : List Nd × List Int :=
 match l[p]? with
 | none => s
 | some x => (s.1 ++ [wk x ((kids x).map fun k => s.2.getD k.toNat 0)], s.2.set p (s.1.length : Int))
open Go.RowKit
def prs (l : List Nd) : List (Int × Nat) := l.zipIdx.flatMap fun p => (kids p.1).map fun k => (k, p.2)
theorem zk4 (l : List Nd) (x : Nd) : prs (l ++ [x]) = prs l ++ (kids x).map fun k => (k, l.length) := by simp [prs, List.zipIdx_append]
theorem zj2 (l : List Nd) : (prs l).map Prod.fst = allKids l := by
 induction l using snocInd with
 | h0 => rfl
 | h1 l x ih => rw [zk4, zcl, List.map_append, ih]; congr 1; simp [Function.comp_def]
def UInv (n : Nat) (P : List (Int × Nat)) (U : List Int) : Prop :=
 U.length = n /\ (P.map Prod.fst).Nodup /\ (∀ p ∈ P, 0 <= p.1 /\ p.1 < (n : Int) /\ U[p.1.toNat]? = some (p.2 : Int)) /\ ∀ m : Nat, m < n -> (m : Int) ∉ P.map Prod.fst -> U[m]? = some (-1)
theorem UInv.start (n : Nat) : UInv n [] (List.replicate n (-1)) := ⟨by simp, by simp, by simp, fun m hm _ => by simp [hm]⟩
theorem UInv.step {n : Nat} {P : List (Int × Nat)} {U : List Int} (h : UInv n P U) {k i : Nat} (hk : k < n) (hn : (k : Int) ∉ P.map Prod.fst) : UInv n (P ++ [((k : Int), i)]) (U.set k (i : Int)) := by
 obtain ⟨h1, h2, h3, h4⟩ := h
 refine ⟨by simp [h1], ?_, ?_, ?_⟩
 ·rw [List.map_append, List.nodup_append]
  refine ⟨h2, by simp, ?_⟩
  intro a ha b hb e
  simp only [List.map_cons, List.map_nil, List.mem_singleton] at hb
  subst e hb
  exact hn ha
 ·intro p hp
  rw [List.mem_append, List.mem_singleton] at hp
  rcases hp with hp | rfl
  ·obtain ⟨a1, a2, a3⟩ := h3 p hp
   refine ⟨a1, a2, ?_⟩
   have hne : k ≠ p.1.toNat := by
    intro e
    apply hn
    have : p.1 = (k : Int) := by omega
    rw [<- this]
    exact List.mem_map_of_mem hp
   rw [List.getElem?_set_ne hne]; exact a3
  ·refine ⟨by simp, by simpa using hk, ?_⟩
   simp only [Int.toNat_natCast]
   rw [List.getElem?_set_self (by omega)]
 ·intro m hm hnm
  rw [List.map_append, List.mem_append, not_or] at hnm
  have hne : k ≠ m := by
   rintro rfl
   exact hnm.2 (by simp)
  rw [List.getElem?_set_ne hne]
  exact h4 m hm hnm.1
theorem UInv.old {n : Nat} {P : List (Int × Nat)} {U : List Int} (h : UInv n P U) {k : Nat} (hk : k < n) {z : Int} (hz : U[k]? = some z) : 0 <= z ↔ (k : Int) ∈ P.map Prod.fst := by
 obtain ⟨h1, h2, h3, h4⟩ := h
 constructor
 ·intro h0
  refine Classical.byContradiction fun hn => ?_
  rw [h4 k hk hn] at hz
  injection hz with hz
  omega
 ·intro hm
  obtain ⟨p, hp, he⟩ := List.mem_map.1 hm
  obtain ⟨a1, a2, a3⟩ := h3 p hp
  rw [he] at a3
  simp only [Int.toNat_natCast] at a3
  rw [a3] at hz
  injection hz with hz
  omega
theorem UInv.fin {l : List Nd} {U : List Int} (h : UInv l.length (prs l) U) : (U.take (l.length - 1)).contains (-1) = false ↔ ∀ j : Nat, j + 1 < l.length -> (j : Int) ∈ allKids l := by
 have hf := zj2 l
 rw [<- hf]
 constructor
 ·intro hc j hj
  refine Classical.byContradiction fun hn => ?_
  have h1 := h.2.2.2 j (by omega) hn
  have : (-1 : Int) ∈ U.take (l.length - 1) := lme (i := j) (by rw [List.getElem?_take, if_pos (by omega), h1])
  simp [this] at hc
 ·intro hall
  simp only [List.contains_eq_mem, decide_eq_false_iff_not]
  intro hm
  obtain ⟨j, hj⟩ := List.getElem?_of_mem hm
  rw [List.getElem?_take] at hj
  split at hj
  ·rename_i hlt
   have := (h.old (k := j) (by omega) hj).2 (hall j (by omega))
   omega
  ·cases hj
theorem UInv.nodup {l : List Nd} {U : List Int} {n : Nat} (h : UInv n (prs l) U) : (allKids l).Nodup := by rw [<- zj2]; exact h.2.1
theorem zr6 {l : List Nd} {i : Nat} {x : Nd} (h : l[i]? = some x) : prs (l.take (i + 1)) = prs (l.take i) ++ (kids x).map fun k => (k, i) := by
 rw [zao l i x h, zk4]
 have := zaz h
 rw [List.length_take, Nat.min_eq_left (by omega)]
theorem zqa {l : List Nd} {i j : Nat} {x : Nd} {k : Int} (hx : l[i]? = some x) (hk : (kids x)[j]? = some k) (hm : k ∈ (prs (l.take i) ++ ((kids x).take j).map fun k => (k, i)).map Prod.fst) : ¬ (allKids l).Nodup := by
 intro hn
 rw [List.map_append, zj2, List.mem_append] at hm
 rcases hm with hm | hm
 ·obtain ⟨i', x', hx', hm'⟩ := zdk.1 hm
  rw [List.getElem?_take] at hx'
  split at hx'
  ·rename_i hlt
   have := zr4 hn hx' hx hm' (lme hk)
   omega
  ·cases hx'
 ·rw [List.map_map] at hm
  have hm2 : k ∈ (kids x).take j := by
   obtain ⟨a, ha, e⟩ := List.mem_map.1 hm
   simp at e
   exact e ▸ ha
  have h1 := zma hn hx
  obtain ⟨j', hj'⟩ := List.getElem?_of_mem hm2
  rw [List.getElem?_take] at hj'
  split at hj'
  ·rename_i hlt
   have h2 := (List.getElem?_inj (i := j') (j := j) (zaz hj') h1).1 (hj'.trans hk.symm)
   omega
  ·cases hj'
open Go.RowKit
theorem zwl {B : Nat} (w : World) (cs : Array Value) (t : TypeId) (hB : B <= w.heap.size) (hm : cs.size <= maxLen) : (w.alloc (.cells cs t)).ownsRow B t 1 (.slice (some ⟨w.heap.size, 0, none⟩) cs.size cs.size) cs.size cs.toList :=
 ⟨by simp, .inr ⟨w.heap.size, cs.size, cs, rfl, hB, heap_alloc_new w _, lrf _, hm, by simp, by rw [Nat.mul_one]; exact List.take_of_length_le (by simp)⟩⟩
theorem zbi {B B' : Nat} {W : World} {e : TypeId} {size : Nat} {v : Value} {n : Nat} {xs : List Value} (h : W.ownsRow B' e size v n xs) (hB : B <= B') : W.ownsRow B e size v n xs := by
 refine ⟨h.1, ?_⟩
 rcases h.2 with h | ⟨g, cap, cur, h1, h2, h3⟩
 ·exact .inl h
 ·exact .inr ⟨g, cap, cur, h1, ltr hB h2, h3⟩
theorem intInfo : (Tryz.prog.info? 3).map (fun i => (i.zero, i.size, i.bytes)) = some (some (.int .i64 0), 1, 8) := by kernel_rfl
def Ints (B : Nat) (W : World) (v : Value) (l : List Int) : Prop := W.ownsRow B 3 1 v l.length (l.map (Value.int .i64))
theorem Ints.new {B : Nat} (w : World) (l : List Int) (hB : B <= w.heap.size) (hm : l.length <= maxLen) : Ints B (w.alloc (.cells (l.map (Value.int .i64)).toArray 3)) (.slice (some ⟨w.heap.size, 0, none⟩) l.length l.length) l := by
 have := zwl (B := B) w (l.map (Value.int .i64)).toArray 3 hB (by simpa using hm)
 simpa [Ints] using this
theorem Ints.at {B : Nat} (w : World) (p n : Nat) (l : List Int) (hp : p = w.heap.size) (hn : n = l.length) (hB : B <= w.heap.size) (hm : l.length <= maxLen) : Ints B (w.alloc (.cells (l.map (Value.int .i64)).toArray 3)) (.slice (some ⟨p, 0, none⟩) n n) l := by
 subst hp hn; exact Ints.new w l hB hm
def KidsPost (l : List Int) (B : Nat) (w : World) (e : Ending) (w' : World) : Prop := ∃ g c, e = .returned (.slice (some ⟨g, 0, none⟩) l.length c) /\ Ints B w' (.slice (some ⟨g, 0, none⟩) l.length c) l /\ Below B w w'
theorem KidsPost.of {l : List Int} {B : Nat} {w w' : World} {e : Ending} {v : Value} (he : e = .returned v) (g n c : Nat) (hv : v = .slice (some ⟨g, 0, none⟩) n c) (hn : n = l.length) (hi : Ints B w' v l) (hb : Below B w w') : KidsPost l B w e w' := by
 subst he hv hn; exact ⟨g, c, rfl, hi, hb⟩
theorem below3 {B : Nat} {w : World} (hB : B <= w.heap.size) (o1 o2 o3 : Obj) : Below B w (((w.alloc o1).alloc o2).alloc o3) :=
 (((br B w).alloc hB _).alloc (by simp; omega) _).alloc (by simp; omega) _
theorem zza {B : Nat} (k a b c n pos : Int) (nm s : ByteArray) (vl : Value) (hk : k = 5 ∨ k = 12 ∨ k = 13) (w : World) (hB : B <= w.heap.size) :
  Calls Tryz.prog 42 #[.agg #[.int .i64 k, .int .i64 a, .int .i64 b, .int .i64 c, .int .i64 n, .string nm, .string s, vl, .int .i64 pos]] w (KidsPost [a] B w) := by
 rcases hk with rfl | rfl | rfl
 all_goals
  go_enter Tryz.func42, Tryz.ntmps42
  go_wp2
  go_ret
  exact KidsPost.of rfl (w.heap.size + 1 + 1) 1 1 rfl rfl (Ints.at (B := B) _ _ 1 [a] (by simp) rfl (by simp; omega) (by simp [maxLen])) (below3 hB _ _ _)
theorem zy0 {B : Nat} (k a b c n pos : Int) (nm s : ByteArray) (vl : Value) (hk : k = 6 ∨ k = 7 ∨ k = 8 ∨ k = 10) (w : World) (hB : B <= w.heap.size) :
  Calls Tryz.prog 42 #[.agg #[.int .i64 k, .int .i64 a, .int .i64 b, .int .i64 c, .int .i64 n, .string nm, .string s, vl, .int .i64 pos]] w (KidsPost [a, b] B w) := by
 rcases hk with rfl | rfl | rfl | rfl
 all_goals
  go_enter Tryz.func42, Tryz.ntmps42
  go_wp2
  go_ret
  exact KidsPost.of rfl (w.heap.size + 1 + 1) 2 2 rfl rfl (Ints.at (B := B) _ _ 2 [a, b] (by simp) rfl (by simp; omega) (by simp [maxLen])) (below3 hB _ _ _)
theorem zyv {B : Nat} (a b c n pos : Int) (nm s : ByteArray) (vl : Value) (w : World) (hB : B <= w.heap.size) :
  Calls Tryz.prog 42 #[.agg #[.int .i64 9, .int .i64 a, .int .i64 b, .int .i64 c, .int .i64 n, .string nm, .string s, vl, .int .i64 pos]] w (KidsPost [a, b, c] B w) := by
 go_enter Tryz.func42, Tryz.ntmps42
 go_wp2
 go_ret
 exact KidsPost.of rfl (w.heap.size + 1 + 1) 3 3 rfl rfl (Ints.at (B := B) _ _ 3 [a, b, c] (by simp) rfl (by simp; omega) (by simp [maxLen])) (below3 hB _ _ _)
theorem zy4 {B : Nat} (k a b c n pos : Int) (nm s : ByteArray) (vl : Value) (h5 : (k == 5) = false) (h12 : (k == 12) = false) (h13 : (k == 13) = false) (h6 : (k == 6) = false) (h7 : (k == 7) = false) (h8 : (k == 8) = false) (h10 : (k == 10) = false) (h9 : (k == 9) = false) (h14 : (k == 14) = false) (h11 : (k == 11) = false) (w : World) (hB : B <= w.heap.size) :
  Calls Tryz.prog 42 #[.agg #[.int .i64 k, .int .i64 a, .int .i64 b, .int .i64 c, .int .i64 n, .string nm, .string s, vl, .int .i64 pos]] w (KidsPost [] B w) := by
 go_enter Tryz.func42, Tryz.ntmps42
 go_wp2
 go_ret
 exact KidsPost.of rfl (w.heap.size + 1) 0 0 rfl rfl (Ints.at (B := B) _ _ 0 [] (by simp) rfl (by simp; omega) (by simp [maxLen])) (((br B w).alloc hB _).alloc (by simp; omega) _)
theorem zhm (l : List Fld) (k : Nat) (f : Fld) (h : l[k]? = some f) : (l.take (k + 1)).map Fld.pl = (l.take k).map Fld.pl ++ [f.pl] := by
 have hk : k < l.length := (lge.1 h).1
 rw [List.take_succ_eq_append_getElem hk, List.map_append]
 have : l[k] = f := (lge.1 h).2
 simp [this]
theorem new1 (W : World) (t : TypeId) (v : Value) (j : Nat) (u : Value) (h : [v][j]? = some u) : (W.alloc (.cells #[v] t)).cell? ((⟨W.heap.size, 0, none⟩ : Addr).add j) = some u := by
 cases j with
 | zero =>
  rw [List.getElem?_cons_zero] at h
  rw [Addr.add_lit, World.cell?, heap_alloc_new]
  simpa using h
 | succ j => simp at h
theorem zq6 {B : Nat} (a b c n pos : Int) (nm s : ByteArray) (l : List Fld) (L cp fb fo : Nat) (HL : Hid (l.length = L)) (hL : L <= 1000000) (w : World) (hB : B <= w.heap.size) (hfb : fb < w.heap.size) (HF : Hid (FldsAt w fb fo l)) (R : List Int) (HRR : Hid (R = ([] : List Int) ++ l.map Fld.pl)) :
  Calls Tryz.prog 42 #[.agg #[.int .i64 11, .int .i64 a, .int .i64 b, .int .i64 c, .int .i64 n, .string nm, .string s, .slice (some ⟨fb, fo, none⟩) L cp, .int .i64 pos]] w (KidsPost R B w) := by
 obtain ⟨i0, hi, hz0, hz1, hz2⟩ := info_parts intInfo
 go_enter Tryz.func42, Tryz.ntmps42
 go_wp2
 go_loopw [3, 4] (fun v i wr => ∃ q g c' : Nat, v = .slice (some ⟨g, 0, none⟩) q c' /\ i = .int .i64 (q : Int) /\ q <= L /\ Hid (wr.ownsRow (w.heap.size + 1) 3 1 (.slice (some ⟨g, 0, none⟩) q c') q ((([] : List Int) ++ (l.take q).map Fld.pl).map (Value.int .i64))) /\ Hid (Below (w.heap.size + 1) (w.alloc (.cells #[.int .i64 11, .int .i64 a, .int .i64 b, .int .i64 c, .int .i64 n, .string nm, .string s, .slice (some ⟨fb, fo, none⟩) L cp, .int .i64 pos] 37)) wr)) (fun _ i _ => L - (intOf i).toNat)
 case atStart => exact ⟨0, _, _, rfl, rfl, by omega, jj (by rw [List.take_zero]; exact Ints.at (B := w.heap.size + 1) _ _ 0 [] (by simp) rfl (by simp) (by simp [maxLen])), jj ((br _ _).alloc (by simp) _)⟩
 case round =>
  obtain ⟨q, g, c', rfl, rfl, hq, HI, HB⟩ := hrel
  have hcb : wr.cell? ⟨w.heap.size, 7, none⟩ = some (.slice (some ⟨fb, fo, none⟩) L cp) := by
   rw [HB.out.cell (p := ⟨w.heap.size, 7, none⟩) (by simp), World.cell?, heap_alloc_new]
   rfl
  have hsz := HB.out.size
  rw [World.size_alloc] at hsz
  by_cases hlt : q < L
  ·obtain ⟨fd, hfd⟩ : ∃ fd, l[q]? = some fd := ⟨_, List.getElem?_eq_getElem (by rw [HL.out]; exact hlt)⟩
   have hc2 : wr.cell? ⟨fb, fo + q * 3 + 2, none⟩ = some (.int .i64 fd.pl) := by
    rw [HB.out.cell (p := ⟨fb, _, none⟩) (by show fb < w.heap.size + 1; omega), ((br w.heap.size w).alloc (lrf _) _).cell (p := ⟨fb, _, none⟩) hfb]
    exact (HF.out q fd hfd).2.2
   have HX := jj (zhm l q fd hfd)
   clear hfd
   go_wp2_with (at_builtin; refine wpList_append_own _ rfl _ _ 74 rfl (w.heap.size + 1) 3 i0 (.int .i64 0) 1 8 Tryz.underlying74 hi hz0 hz1 hz2 rfl (by decide) _ _ _ rfl (HI.out.alloc _) ⟨wr.heap.size, 0, none⟩ 1 1 [.int .i64 fd.pl] rfl rfl (new1 wr 3 _) (fun u hu => by rw [List.mem_singleton.1 hu]; rfl) (by unfold maxLen; omega) (by omega) (by simp; omega) ?_; intro v' w2 hown' hgrow _; obtain ⟨g', cap', rfl⟩ := ownsRow_succ hown'; have HO := jj hown'; have HG := jj hgrow; clear hown' hgrow)
   go_roundw
   case rel =>
    refine ⟨q + 1, g', cap', rfl, by go_num, by omega, jj ?_, jj ((HB.out.alloc (by omega) _).grown HG.out (by simp; omega) (fun k hk => (HI.out.lt k hk).1))⟩
    have h := HO.out
    rw [HX.out, <- List.append_assoc, List.map_append]
    exact h
   case measure => simp [intOf]; omega
  ·obtain rfl : q = L := by omega
   go_wp2
   go_ret
   refine KidsPost.of rfl _ _ _ rfl (by have := HL.out; rw [HRR.out]; simp; omega) ?_ ?_
   ·have h := HI.out
    rw [List.take_of_length_le (by have := HL.out; omega)] at h
    have e : (([] : List Int) ++ l.map Fld.pl).length = q := by have := HL.out; simp; omega
    unfold Ints
    rw [HRR.out, e]
    exact zbi h (by omega)
   ·exact (((br B w).alloc hB _).trans (HB.out.mono (by omega)))
theorem zte {B : Nat} (a b c n pos : Int) (nm s : ByteArray) (l : List Fld) (L cp fb fo : Nat) (HL : Hid (l.length = L)) (hL : L <= 1000000) (w : World) (hB : B <= w.heap.size) (hfb : fb < w.heap.size) (HF : Hid (FldsAt w fb fo l)) (R : List Int) (HRR : Hid (R = [a] ++ l.map Fld.pl)) :
  Calls Tryz.prog 42 #[.agg #[.int .i64 14, .int .i64 a, .int .i64 b, .int .i64 c, .int .i64 n, .string nm, .string s, .slice (some ⟨fb, fo, none⟩) L cp, .int .i64 pos]] w (KidsPost R B w) := by
 obtain ⟨i0, hi, hz0, hz1, hz2⟩ := info_parts intInfo
 go_enter Tryz.func42, Tryz.ntmps42
 go_wp2
 go_loopw [3, 4] (fun v i wr => ∃ q g c' : Nat, v = .slice (some ⟨g, 0, none⟩) (q + 1) c' /\ i = .int .i64 (q : Int) /\ q <= L /\ Hid (wr.ownsRow (w.heap.size + 1) 3 1 (.slice (some ⟨g, 0, none⟩) (q + 1) c') (q + 1) (([a] ++ (l.take q).map Fld.pl).map (Value.int .i64))) /\ Hid (Below (w.heap.size + 1) (w.alloc (.cells #[.int .i64 14, .int .i64 a, .int .i64 b, .int .i64 c, .int .i64 n, .string nm, .string s, .slice (some ⟨fb, fo, none⟩) L cp, .int .i64 pos] 37)) wr)) (fun _ i _ => L - (intOf i).toNat)
 case atStart => exact ⟨0, _, _, rfl, rfl, by omega, jj (by rw [List.take_zero]; exact Ints.at (B := w.heap.size + 1) _ _ 1 [a] (by simp) rfl (by simp) (by simp [maxLen])), jj (((br _ _).alloc (by simp) _).alloc (by simp) _)⟩
 case round =>
  obtain ⟨q, g, c', rfl, rfl, hq, HI, HB⟩ := hrel
  have hcb : wr.cell? ⟨w.heap.size, 7, none⟩ = some (.slice (some ⟨fb, fo, none⟩) L cp) := by
   rw [HB.out.cell (p := ⟨w.heap.size, 7, none⟩) (by simp), World.cell?, heap_alloc_new]
   rfl
  have hsz := HB.out.size
  rw [World.size_alloc] at hsz
  by_cases hlt : q < L
  ·obtain ⟨fd, hfd⟩ : ∃ fd, l[q]? = some fd := ⟨_, List.getElem?_eq_getElem (by rw [HL.out]; exact hlt)⟩
   have hc2 : wr.cell? ⟨fb, fo + q * 3 + 2, none⟩ = some (.int .i64 fd.pl) := by
    rw [HB.out.cell (p := ⟨fb, _, none⟩) (by show fb < w.heap.size + 1; omega), ((br w.heap.size w).alloc (lrf _) _).cell (p := ⟨fb, _, none⟩) hfb]
    exact (HF.out q fd hfd).2.2
   have HX := jj (zhm l q fd hfd)
   clear hfd
   go_wp2_with (at_builtin; refine wpList_append_own _ rfl _ _ 74 rfl (w.heap.size + 1) 3 i0 (.int .i64 0) 1 8 Tryz.underlying74 hi hz0 hz1 hz2 rfl (by decide) _ _ _ rfl (HI.out.alloc _) ⟨wr.heap.size, 0, none⟩ 1 1 [.int .i64 fd.pl] rfl rfl (new1 wr 3 _) (fun u hu => by rw [List.mem_singleton.1 hu]; rfl) (by unfold maxLen; omega) (by omega) (by simp; omega) ?_; intro v' w2 hown' hgrow _; obtain ⟨g', cap', rfl⟩ := ownsRow_succ hown'; have HO := jj hown'; have HG := jj hgrow; clear hown' hgrow)
   go_roundw
   case rel =>
    refine ⟨q + 1, g', cap', rfl, by go_num, by omega, jj ?_, jj ((HB.out.alloc (by omega) _).grown HG.out (by simp; omega) (fun k hk => (HI.out.lt k hk).1))⟩
    have h := HO.out
    rw [HX.out, <- List.append_assoc, List.map_append]
    exact h
   case measure => simp [intOf]; omega
  ·obtain rfl : q = L := by omega
   go_wp2
   go_ret
   refine KidsPost.of rfl _ _ _ rfl (by have := HL.out; rw [HRR.out]; simp; omega) ?_ ?_
   ·have h := HI.out
    rw [List.take_of_length_le (by have := HL.out; omega)] at h
    have e : ([a] ++ l.map Fld.pl).length = (q + 1) := by have := HL.out; simp; omega
    unfold Ints
    rw [HRR.out, e]
    exact zbi h (by omega)
   ·exact (((br B w).alloc hB _).trans (HB.out.mono (by omega)))
theorem zuk {B : Nat} (k a b c n pos : Int) (nm s : ByteArray) (A : Option Addr) (cp : Nat) (base : List Int) (hk : (k = 11 /\ base = []) ∨ (k = 14 /\ base = [a])) (w : World) (hB : B <= w.heap.size) :
  Calls Tryz.prog 42 #[.agg #[.int .i64 k, .int .i64 a, .int .i64 b, .int .i64 c, .int .i64 n, .string nm, .string s, .slice A 0 cp, .int .i64 pos]] w (KidsPost base B w) := by
 rcases hk with ⟨rfl, rfl⟩ | ⟨rfl, rfl⟩
 ·go_enter Tryz.func42, Tryz.ntmps42
  go_wp2
  go_loop [3, 4] (fun v i => v = .slice (some ⟨w.heap.size + 1, 0, none⟩) 0 0 /\ i = .int .i64 0) (fun _ _ => 0)
  case atStart => exact ⟨rfl, rfl⟩
  case round =>
   obtain ⟨rfl, rfl⟩ := hrel
   go_wp2
   go_ret
   exact KidsPost.of rfl (w.heap.size + 1) 0 0 rfl rfl (Ints.at (B := B) _ _ 0 [] (by simp) rfl (by simp; omega) (by simp [maxLen])) (((br B w).alloc hB _).alloc (by simp; omega) _)
 ·go_enter Tryz.func42, Tryz.ntmps42
  go_wp2
  go_loop [3, 4] (fun v i => v = .slice (some ⟨w.heap.size + 1 + 1, 0, none⟩) 1 1 /\ i = .int .i64 0) (fun _ _ => 0)
  case atStart => exact ⟨rfl, rfl⟩
  case round =>
   obtain ⟨rfl, rfl⟩ := hrel
   go_wp2
   go_ret
   exact KidsPost.of rfl (w.heap.size + 1 + 1) 1 1 rfl rfl (Ints.at (B := B) _ _ 1 [a] (by simp) rfl (by simp; omega) (by simp [maxLen])) (below3 hB _ _ _)
theorem zic {B : Nat} (x : Nd) (vl : Value) (w : World) (hB : B <= w.heap.size) (hv : Flds w.heap.size w vl x.l) (hL : x.l.length <= 1000000) :
  Calls Tryz.prog 42 #[.agg (ndArr x vl)] w (KidsPost (kids x) B w) := by
 obtain ⟨k, a, b, c, n, nm, s, l, pos⟩ := x
 unfold ndArr
 simp only at hv hL ⊢
 by_cases h1 : k = 5 ∨ k = 12 ∨ k = 13
 ·have e : kids ⟨k, a, b, c, n, nm, s, l, pos⟩ = [a] := by rcases h1 with rfl | rfl | rfl <;> rfl
  rw [e]; exact zza k a b c n pos nm s vl h1 w hB
 ·by_cases h2 : k = 6 ∨ k = 7 ∨ k = 8 ∨ k = 10
  ·have e : kids ⟨k, a, b, c, n, nm, s, l, pos⟩ = [a, b] := by rcases h2 with rfl | rfl | rfl | rfl <;> rfl
   rw [e]; exact zy0 k a b c n pos nm s vl h2 w hB
  ·by_cases h3 : k = 9
   ·subst h3
    exact zyv a b c n pos nm s vl w hB
   ·by_cases h4 : k = 11
    ·subst h4
     have e : kids ⟨11, a, b, c, n, nm, s, l, pos⟩ = ([] : List Int) ++ l.map Fld.pl := rfl
     rw [e]
     obtain ⟨A, cp, rfl, _, _, hq⟩ := hv
     by_cases h0 : 0 < l.length
     ·obtain ⟨fb, fo, rfl, hlt, hf⟩ := hq h0
      exact zq6 a b c n pos nm s l _ cp fb fo (jj rfl) hL w hB hlt (jj hf) _ (jj rfl)
     ·obtain rfl : l = [] := List.eq_nil_of_length_eq_zero (by omega)
      exact zuk 11 a b c n pos nm s _ _ [] (.inl ⟨rfl, rfl⟩) w hB
    ·by_cases h5 : k = 14
     ·subst h5
      have e : kids ⟨14, a, b, c, n, nm, s, l, pos⟩ = [a] ++ l.map Fld.pl := rfl
      rw [e]
      obtain ⟨A, cp, rfl, _, _, hq⟩ := hv
      by_cases h0 : 0 < l.length
      ·obtain ⟨fb, fo, rfl, hlt, hf⟩ := hq h0
       exact zte a b c n pos nm s l _ cp fb fo (jj rfl) hL w hB hlt (jj hf) _ (jj rfl)
      ·obtain rfl : l = [] := List.eq_nil_of_length_eq_zero (by omega)
       exact zuk 14 a b c n pos nm s _ _ [a] (.inr ⟨rfl, rfl⟩) w hB
     ·have hne : ∀ m : Int, k ≠ m -> (k == m) = false := fun m h => by simpa using h
      have e : kids ⟨k, a, b, c, n, nm, s, l, pos⟩ = [] := by
       have e0 : kids0 ⟨k, a, b, c, n, nm, s, l, pos⟩ = [] := by
        simp only [kids0]
        rw [if_neg (by omega), if_neg (by omega), if_neg (by omega)]
       have em : many ⟨k, a, b, c, n, nm, s, l, pos⟩ = false := by simp only [many, decide_eq_false_iff_not]; omega
       rw [kids, e0, em]; rfl
      rw [e]
      exact zy4 k a b c n pos nm s vl (hne _ (by omega)) (hne _ (by omega)) (hne _ (by omega)) (hne _ (by omega)) (hne _ (by omega)) (hne _ (by omega)) (hne _ (by omega)) (hne _ (by omega)) (hne _ (by omega)) (hne _ (by omega)) w hB
end Go.Proofs.YtjakeidbajkdcaaGreatDoor.T
