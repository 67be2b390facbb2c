/- Joined by program. -/
import Derived.Test.YtjakeidbajkdcaaGreatDoorProg
import Derived.WalkKit
import Derived.OwnWalk
import Derived.LoopTactic
import Derived.Lib.Hide
import Derived.Outline
import Derived.WalkSmall
import Derived.RangeFuncBox
import Derived.Test.YtjakeidbajkdcaaGreatDoorRows
import Derived.Deep.Slices
import Derived.Deep.Fields
import Derived.ChangeSame
import Derived.Lib.SmallJoins
import Derived.ProofKit
import Derived.OpenShut
import Derived.SizedLaws
set_option maxRecDepth 100000
set_option maxHeartbeats 4000000
namespace Go.Proofs.YtjakeidbajkdcaaGreatDoor.T
open Go.RowKit
structure Fld where
  nm : ByteArray
  vr : ByteArray
  pl : Int
structure Nd where
  kind : Int
  a : Int
  b : Int
  c : Int
  n : Int
  nm : ByteArray
  s : ByteArray
  l : List Fld
  pos : Int
def FldsAt (W : World) (b o : Nat) (l : List Fld) : Prop := ∀ j f, l[j]? = some f ->
  W.cell? ⟨b, o + j * 3, none⟩ = some (.string f.nm) /\ W.cell? ⟨b, o + j * 3 + 1, none⟩ = some (.string f.vr) /\ W.cell? ⟨b, o + j * 3 + 2, none⟩ = some (.int .i64 f.pl)
def Flds (B : Nat) (W : World) (v : Value) (l : List Fld) : Prop :=
  ∃ A c, v = .slice A l.length c /\ (l.length <= c /\ c <= 9223372036854775807) /\ (A = none -> c = 0) /\ (0 < l.length -> ∃ b o, A = some ⟨b, o, none⟩ /\ b < B /\ FldsAt W b o l)
def ndArr (x : Nd) (v : Value) : Array Value := #[.int .i64 x.kind, .int .i64 x.a, .int .i64 x.b, .int .i64 x.c, .int .i64 x.n, .string x.nm, .string x.s, v, .int .i64 x.pos]
def NdAt (B : Nat) (W : World) (b o : Nat) (x : Nd) : Prop := ∃ v, Flds B W v x.l /\
  W.cell? ⟨b, o, none⟩ = some (.int .i64 x.kind) /\ W.cell? ⟨b, o + 1, none⟩ = some (.int .i64 x.a) /\ W.cell? ⟨b, o + 2, none⟩ = some (.int .i64 x.b) /\ W.cell? ⟨b, o + 3, none⟩ = some (.int .i64 x.c) /\ W.cell? ⟨b, o + 4, none⟩ = some (.int .i64 x.n) /\
  W.cell? ⟨b, o + 5, none⟩ = some (.string x.nm) /\ W.cell? ⟨b, o + 6, none⟩ = some (.string x.s) /\ W.cell? ⟨b, o + 7, none⟩ = some v /\ W.cell? ⟨b, o + 8, none⟩ = some (.int .i64 x.pos)
def Nodes (B : Nat) (W : World) (v : Value) (l : List Nd) : Prop :=
  ∃ A c, v = .slice A l.length c /\ (l.length <= c /\ c <= 9223372036854775807) /\ (A = none -> c = 0) /\ (0 < l.length -> ∃ b o, A = some ⟨b, o, none⟩ /\ b < B /\ ∀ j x, l[j]? = some x -> NdAt B W b (o + j * 9) x)
theorem FldsAt.below {B : Nat} {W W' : World} {b o : Nat} {l : List Fld} (h : FldsAt W b o l) (hb : Below B W W') (hlt : b < B) : FldsAt W' b o l := fun j f hj => by
  obtain ⟨h0, h1, h2⟩ := h j f hj
  exact ⟨(hb.cell (p := ⟨b, _, none⟩) hlt).trans h0, (hb.cell (p := ⟨b, _, none⟩) hlt).trans h1, (hb.cell (p := ⟨b, _, none⟩) hlt).trans h2⟩
theorem Flds.below {B : Nat} {W W' : World} {v : Value} {l : List Fld} (h : Flds B W v l) (hb : Below B W W') : Flds B W' v l := by
  obtain ⟨A, c, h1, h2, h3, h4⟩ := h
  exact ⟨A, c, h1, h2, h3, fun hl => by obtain ⟨b, o, e1, e2, e3⟩ := h4 hl; exact ⟨b, o, e1, e2, e3.below hb e2⟩⟩
theorem Flds.mono {B B' : Nat} {W : World} {v : Value} {l : List Fld} (h : Flds B W v l) (hb : B <= B') : Flds B' W v l := by
  obtain ⟨A, c, h1, h2, h3, h4⟩ := h
  exact ⟨A, c, h1, h2, h3, fun hl => by obtain ⟨b, o, e1, e2, e3⟩ := h4 hl; exact ⟨b, o, e1, by omega, e3⟩⟩
theorem NdAt.below {B : Nat} {W W' : World} {b o : Nat} {x : Nd} (h : NdAt B W b o x) (hb : Below B W W') (hlt : b < B) : NdAt B W' b o x := by
  obtain ⟨v, hv, h0, h1, h2, h3, h4, h5, h6, h7, h8⟩ := h
  have e : ∀ k, W'.cell? ⟨b, k, none⟩ = W.cell? ⟨b, k, none⟩ := fun k => hb.cell (p := ⟨b, k, none⟩) hlt
  exact ⟨v, hv.below hb, (e _).trans h0, (e _).trans h1, (e _).trans h2, (e _).trans h3, (e _).trans h4, (e _).trans h5, (e _).trans h6, (e _).trans h7, (e _).trans h8⟩
theorem NdAt.mono {B B' : Nat} {W : World} {b o : Nat} {x : Nd} (h : NdAt B W b o x) (hb : B <= B') : NdAt B' W b o x := by
  obtain ⟨v, hv, h⟩ := h
  exact ⟨v, hv.mono hb, h⟩
theorem Nodes.below {B : Nat} {W W' : World} {v : Value} {l : List Nd} (h : Nodes B W v l) (hb : Below B W W') : Nodes B W' v l := by
  obtain ⟨A, c, h1, h2, h3, h4⟩ := h
  exact ⟨A, c, h1, h2, h3, fun hl => by obtain ⟨b, o, e1, e2, e3⟩ := h4 hl; exact ⟨b, o, e1, e2, fun j x hj => (e3 j x hj).below hb e2⟩⟩
theorem Nodes.mono {B B' : Nat} {W : World} {v : Value} {l : List Nd} (h : Nodes B W v l) (hb : B <= B') : Nodes B' W v l := by
  obtain ⟨A, c, h1, h2, h3, h4⟩ := h
  exact ⟨A, c, h1, h2, h3, fun hl => by obtain ⟨b, o, e1, e2, e3⟩ := h4 hl; exact ⟨b, o, e1, by omega, fun j x hj => (e3 j x hj).mono hb⟩⟩
def kids0 (x : Nd) : List Int :=
  if x.kind = 5 ∨ x.kind = 12 ∨ x.kind = 13 ∨ x.kind = 14 then [x.a] else if x.kind = 6 ∨ x.kind = 7 ∨ x.kind = 8 ∨ x.kind = 10 then [x.a, x.b] else if x.kind = 9 then [x.a, x.b, x.c] else []
def many (x : Nd) : Bool := decide (x.kind = 11 ∨ x.kind = 14)
def kids (x : Nd) : List Int := kids0 x ++ if many x = true then x.l.map Fld.pl else []
open Go.RowKit
def dp (ds : List Nat) (x : Nd) : Nat := ((kids x).map fun k => ds.getD k.toNat 0).foldl max 0 + 1
def deeps (l : List Nd) : List Nat := l.foldl (fun ds x => ds ++ [dp ds x]) []
theorem deeps_snoc (l : List Nd) (x : Nd) : deeps (l ++ [x]) = deeps l ++ [dp (deeps l) x] := by simp [deeps]
theorem snocInd {α : Type} {P : List α -> Prop} (h0 : P []) (h1 : ∀ l x, P l -> P (l ++ [x])) (l : List α) : P l := by
  have h : ∀ n (l : List α), l.length = n -> P l := by
    intro n
    induction n with
    | zero => intro l hl; rw [List.length_eq_zero_iff.1 hl]; exact h0
    | succ n ih =>
      intro l hl
      have hne : l ≠ [] := by intro e; rw [e] at hl; simp at hl
      rw [<- List.dropLast_concat_getLast hne]
      exact h1 _ _ (ih _ (by simp [hl]))
  exact h _ l rfl
theorem deeps_len (l : List Nd) : (deeps l).length = l.length := by
  induction l using snocInd with
  | h0 => rfl
  | h1 l x ih => rw [deeps_snoc]; simp [ih]
theorem deeps_app (l m : List Nd) : ∃ r, deeps (l ++ m) = deeps l ++ r := by
  induction m using snocInd with
  | h0 => exact ⟨[], by simp⟩
  | h1 m x ih =>
    obtain ⟨r, hr⟩ := ih
    rw [<- List.append_assoc, deeps_snoc, hr]
    exact ⟨_, List.append_assoc _ _ _⟩
theorem deeps_take (l : List Nd) (k : Nat) : deeps (l.take k) = (deeps l).take k := by
  obtain ⟨r, hr⟩ := deeps_app (l.take k) (l.drop k)
  rw [List.take_append_drop] at hr
  by_cases h : k <= l.length
  · have e : (deeps (l.take k)).length = k := by rw [deeps_len, List.length_take]; omega
    rw [hr, List.take_append_of_le_length (by omega)]
    exact (List.take_of_length_le (Nat.le_of_eq e)).symm
  · rw [List.take_of_length_le (by omega), List.take_of_length_le (by rw [deeps_len]; omega)]
theorem take_snoc {α : Type} (l : List α) (k : Nat) (x : α) (h : l[k]? = some x) : l.take (k + 1) = l.take k ++ [x] := by
  rw [List.take_add_one, h]; rfl
theorem lt_of_some {α : Type} {l : List α} {k : Nat} {x : α} (h : l[k]? = some x) : k < l.length := (List.getElem?_eq_some_iff.1 h).1
theorem deeps_at {l : List Nd} {i : Nat} {x : Nd} (h : l[i]? = some x) : (deeps l)[i]? = some (dp ((deeps l).take i) x) := by
  have h1 := lt_of_some h
  have h2 : (deeps l).take (i + 1) = (deeps l).take i ++ [dp ((deeps l).take i) x] := by rw [<- deeps_take, take_snoc l i x h, deeps_snoc, deeps_take]
  have h3 : ((deeps l).take (i + 1))[i]? = (deeps l)[i]? := by rw [List.getElem?_take]; simp
  rw [<- h3, h2, List.getElem?_append_right (by simp [deeps_len]; omega)]
  simp [deeps_len, Nat.min_eq_left (Nat.le_of_lt h1)]
def ahead (i : Nat) (x : Nd) : Prop := ∀ k ∈ kids x, 0 <= k /\ k < (i : Int)
def kidsOk (l : List Nd) : Prop := ∀ (i : Nat) (x : Nd), l[i]? = some x -> ahead i x
def allKids (l : List Nd) : List Int := l.flatMap kids
def onceOk (l : List Nd) : Prop := (allKids l).Nodup /\ ∀ j : Nat, j + 1 < l.length -> (j : Int) ∈ allKids l
def recAt (l : List Nd) (x : Nd) : Prop := x.kind = 8 -> ∃ y, l[x.a.toNat]? = some y /\ y.kind = 5
def recOk (l : List Nd) : Prop := ∀ (i : Nat) (x : Nd), l[i]? = some x -> recAt l x
theorem allKids_snoc (l : List Nd) (x : Nd) : allKids (l ++ [x]) = allKids l ++ kids x := by simp [allKids]
theorem mem_allKids {l : List Nd} {m : Int} : m ∈ allKids l ↔ ∃ (i : Nat) (x : Nd), l[i]? = some x /\ m ∈ kids x := by
  simp only [allKids, List.mem_flatMap]
  constructor
  · rintro ⟨x, hx, hm⟩
    obtain ⟨i, hi⟩ := List.getElem?_of_mem hx
    exact ⟨i, x, hi, hm⟩
  · rintro ⟨i, x, hi, hm⟩
    exact ⟨x, List.mem_of_getElem? hi, hm⟩
theorem nodup_at {l : List Nd} (h : (allKids l).Nodup) : ∀ {i j : Nat} {x y : Nd} {m : Int}, l[i]? = some x -> l[j]? = some y -> m ∈ kids x -> m ∈ kids y -> i = j := by
  induction l using snocInd with
  | h0 => intro i j x y m hx; simp at hx
  | h1 l z ih =>
    intro i j x y m hx hy hmx hmy
    rw [allKids_snoc, List.nodup_append] at h
    have hi := lt_of_some hx
    have hj := lt_of_some hy
    simp only [List.length_append, List.length_cons, List.length_nil] at hi hj
    have key : ∀ {i : Nat} {x : Nd}, (l ++ [z])[i]? = some x -> i < l.length + (0 + 1) -> (i < l.length /\ l[i]? = some x) ∨ (i = l.length /\ x = z) := by
      intro i x hx hi
      by_cases hl : i < l.length
      · rw [List.getElem?_append_left hl] at hx; exact .inl ⟨hl, hx⟩
      · have e : i = l.length := by omega
        subst e
        simp at hx
        exact .inr ⟨rfl, hx.symm⟩
    rcases key hx hi with ⟨h1, h2⟩ | ⟨h1, h2⟩ <;> rcases key hy hj with ⟨h3, h4⟩ | ⟨h3, h4⟩
    · exact ih h.1 h2 h4 hmx hmy
    · exact absurd rfl (h.2.2 m (mem_allKids.2 ⟨i, x, h2, hmx⟩) m (h4 ▸ hmy))
    · exact absurd rfl (h.2.2 m (mem_allKids.2 ⟨j, y, h4, hmy⟩) m (h2 ▸ hmx))
    · omega
theorem kids_nodup {l : List Nd} (h : (allKids l).Nodup) {i : Nat} {x : Nd} (hx : l[i]? = some x) : (kids x).Nodup := by
  induction l using snocInd with
  | h0 => simp at hx
  | h1 l z ih =>
    rw [allKids_snoc, List.nodup_append] at h
    by_cases hl : i < l.length
    · rw [List.getElem?_append_left hl] at hx; exact ih h.1 hx
    · have hi := lt_of_some hx
      simp only [List.length_append, List.length_cons, List.length_nil] at hi
      have e : i = l.length := by omega
      subst e
      simp at hx
      exact hx ▸ h.2.1
def own (x : Nd) : Nat := (kids0 x).length
def relab (l : List Fld) (ks : List Int) : List Fld := List.zipWith (fun f k => { f with pl := k }) l ks
def wk (x : Nd) (ks : List Int) : Nd :=
  { x with a := if 0 < own x then ks.getD 0 0 else 0, b := if 1 < own x then ks.getD 1 0 else 0, c := if 2 < own x then ks.getD 2 0 else 0, l := if many x = true then relab x.l (ks.drop (own x)) else [] }
def cp (l : List Nd) (i : Nat) (out : List Nd) : List Nd :=
  match l[i]? with
  | none => out
  | some x =>
    let r := (kids x).foldl (fun (p : List Nd × List Int) k => if _h : k.toNat < i then (let o := cp l k.toNat p.1; (o, p.2 ++ [(o.length : Int) - 1])) else p) (out, [])
    r.1 ++ [wk x r.2]
termination_by i
def post (l : List Nd) (i : Nat) : List Nat :=
  match l[i]? with
  | none => []
  | some x => ((kids x).flatMap fun k => if _h : k.toNat < i then post l k.toNat else []) ++ [i]
termination_by i
def cps (l : List Nd) (p : List Nd × List Int) (ks : List Int) : List Nd × List Int :=
  ks.foldl (fun p k => (cp l k.toNat p.1, p.2 ++ [((cp l k.toNat p.1).length : Int) - 1])) p
theorem cps_snoc (l : List Nd) (p : List Nd × List Int) (ks : List Int) (k : Int) : cps l p (ks ++ [k]) = (cp l k.toNat (cps l p ks).1, (cps l p ks).2 ++ [((cp l k.toNat (cps l p ks).1).length : Int) - 1]) := by simp [cps]
theorem toNat_lt {k : Int} {i : Nat} (h : 0 <= k /\ k < (i : Int)) : k.toNat < i := by omega
theorem cp_eq {l : List Nd} {i : Nat} {x : Nd} (h : l[i]? = some x) (ha : ahead i x) (out : List Nd) : cp l i out = (cps l (out, []) (kids x)).1 ++ [wk x (cps l (out, []) (kids x)).2] := by
  rw [cp, h]
  have e : ∀ (ks : List Int) (p : List Nd × List Int), (∀ k ∈ ks, 0 <= k /\ k < (i : Int)) -> ks.foldl (fun (p : List Nd × List Int) k => if _h : k.toNat < i then (cp l k.toNat p.1, p.2 ++ [((cp l k.toNat p.1).length : Int) - 1]) else p) p = cps l p ks := by
    intro ks
    induction ks with
    | nil => intro p _; rfl
    | cons k ks ih =>
      intro p hks
      have h1 := toNat_lt (hks k (by simp))
      simp only [List.foldl_cons, cps]
      rw [dif_pos h1]
      exact ih _ fun m hm => hks m (by simp [hm])
  have e' := e (kids x) (out, []) ha
  simp only [e']
theorem post_eq {l : List Nd} {i : Nat} {x : Nd} (h : l[i]? = some x) (ha : ahead i x) : post l i = ((kids x).flatMap fun k => post l k.toNat) ++ [i] := by
  rw [post, h]
  simp only []
  congr 1
  have e : ∀ ks : List Int, (∀ k ∈ ks, 0 <= k /\ k < (i : Int)) -> (ks.flatMap fun k => if _h : k.toNat < i then post l k.toNat else []) = ks.flatMap fun k => post l k.toNat := by
    intro ks
    induction ks with
    | nil => intro _; rfl
    | cons k ks ih =>
      intro hks
      have h1 := toNat_lt (hks k (by simp))
      simp only [List.flatMap_cons]
      rw [dif_pos h1, ih fun m hm => hks m (by simp [hm])]
  exact e _ ha
theorem post_le {l : List Nd} (hk : kidsOk l) : ∀ i, i < l.length -> ∀ m ∈ post l i, m <= i := by
  intro i
  induction i using Nat.strongRecOn with
  | ind i ih =>
    intro hi m hm
    rw [post_eq (List.getElem?_eq_getElem hi) (hk _ _ (List.getElem?_eq_getElem hi))] at hm
    simp only [List.mem_append, List.mem_flatMap, List.mem_singleton] at hm
    rcases hm with ⟨k, hk1, hk2⟩ | rfl
    · have h1 := toNat_lt (hk _ _ (List.getElem?_eq_getElem hi) k hk1)
      have := ih _ h1 (by omega) m hk2
      omega
    · omega
theorem post_up {l : List Nd} (hk : kidsOk l) : ∀ i, i < l.length -> ∀ m ∈ post l i, m = i ∨ ∃ (p : Nat) (x : Nd), p ∈ post l i /\ l[p]? = some x /\ (m : Int) ∈ kids x := by
  intro i
  induction i using Nat.strongRecOn with
  | ind i ih =>
    intro hi m hm
    have hx := List.getElem?_eq_getElem hi
    have ha := hk _ _ hx
    have hm' := hm
    rw [post_eq hx ha] at hm'
    simp only [List.mem_append, List.mem_flatMap, List.mem_singleton] at hm'
    rcases hm' with ⟨k, hk1, hk2⟩ | rfl
    · have h1 := toNat_lt (ha k hk1)
      have hsub : ∀ q ∈ post l k.toNat, q ∈ post l i := by
        intro q hq
        rw [post_eq hx ha]
        simp only [List.mem_append, List.mem_flatMap]
        exact .inl ⟨k, hk1, hq⟩
      rcases ih _ h1 (by omega) m hk2 with rfl | ⟨p, x, hp, hpx, hpk⟩
      · refine .inr ⟨i, _, ?_, hx, ?_⟩
        · rw [post_eq hx ha]; simp
        · have := (ha k hk1).1; rw [Int.toNat_of_nonneg this]; exact hk1
      · exact .inr ⟨p, x, hsub p hp, hpx, hpk⟩
    · exact .inl rfl
theorem apart {l : List Nd} (hk : kidsOk l) (hn : (allKids l).Nodup) {i : Nat} {x : Nd} (hx : l[i]? = some x) {k m : Int} (h1 : k ∈ kids x) (h2 : m ∈ kids x) (hne : m ≠ k) : m.toNat ∉ post l k.toNat := by
  intro hm
  have ha := hk _ _ hx
  have hk1 := toNat_lt (ha k h1)
  have hi := lt_of_some hx
  have e1 := (ha k h1).1
  have e2 := (ha m h2).1
  rcases post_up hk k.toNat (by omega) _ hm with h | ⟨p, y, hp, hy, hpk⟩
  · exact hne (by omega)
  · rw [Int.toNat_of_nonneg e2] at hpk
    have := nodup_at hn hx hy h2 hpk
    have := post_le hk k.toNat (by omega) p hp
    omega
def stp (l : List Nd) (s : List Nd × List Int) (p : Nat) : List Nd × List Int :=
  match l[p]? with
  | none => s
  | some x => (s.1 ++ [wk x ((kids x).map fun k => s.2.getD k.toNat 0)], s.2.set p (s.1.length : Int))
theorem stp_post {l : List Nd} (hk : kidsOk l) (hn : (allKids l).Nodup) : ∀ i, i < l.length -> ∀ s : List Nd × List Int, s.2.length = l.length ->
    ((post l i).foldl (stp l) s).1 = cp l i s.1 /\ ((post l i).foldl (stp l) s).2.length = l.length /\ ((post l i).foldl (stp l) s).2.getD i 0 = ((cp l i s.1).length : Int) - 1 /\ ∀ m, m ∉ post l i -> ((post l i).foldl (stp l) s).2.getD m 0 = s.2.getD m 0 := by
  intro i
  induction i using Nat.strongRecOn with
  | ind i ih =>
    intro hi s hs
    have hx := List.getElem?_eq_getElem hi
    generalize l[i] = x at hx
    have ha := hk _ _ hx
    -- the children, one by one
    have key : ∀ (done rest : List Int), done ++ rest = kids x -> ∀ s' : List Nd × List Int, s' = (done.flatMap fun k => post l k.toNat).foldl (stp l) s ->
        s'.1 = (cps l (s.1, []) done).1 /\ s'.2.length = l.length /\ done.map (fun k => s'.2.getD k.toNat 0) = (cps l (s.1, []) done).2 /\ ∀ m, m ∉ (done.flatMap fun k => post l k.toNat) -> s'.2.getD m 0 = s.2.getD m 0 := by
      intro done
      induction done using snocInd with
      | h0 => rintro rest _ s' rfl; exact ⟨rfl, hs, rfl, fun _ _ => rfl⟩
      | h1 done k ihd =>
        intro rest hr s' hs'
        have hkx : k ∈ kids x := by rw [<- hr]; simp
        obtain ⟨a1, a2, a3, a4⟩ := ihd (k :: rest) (by rw [<- hr]; simp) _ rfl
        rw [List.flatMap_append, List.foldl_append] at hs'
        simp only [List.flatMap_cons, List.flatMap_nil, List.append_nil] at hs'
        have h1 := toNat_lt (ha k hkx)
        obtain ⟨b1, b2, b3, b4⟩ := ih _ h1 (by omega) _ a2
        rw [<- hs'] at b1 b2 b3 b4
        rw [a1] at b1 b3
        refine ⟨by rw [cps_snoc]; exact b1, b2, ?_, ?_⟩
        · rw [cps_snoc, List.map_append]
          simp only [List.map_cons, List.map_nil]
          rw [b3, <- a3]
          congr 1
          apply List.map_congr_left
          intro m hm
          apply b4
          have hmx : m ∈ kids x := by rw [<- hr]; simp [hm]
          apply apart hk hn hx hkx hmx
          have := kids_nodup hn hx
          rw [<- hr, List.append_assoc, List.nodup_append] at this
          exact this.2.2 m hm k (by simp)
        · intro m hm
          rw [List.flatMap_append, List.mem_append] at hm
          simp only [List.flatMap_cons, List.flatMap_nil, List.append_nil, not_or] at hm
          rw [b4 m hm.2, a4 m hm.1]
    obtain ⟨a1, a2, a3, a4⟩ := key (kids x) [] (by simp) _ rfl
    rw [post_eq hx ha, List.foldl_append, cp_eq hx ha]
    generalize hS : ((kids x).flatMap fun k => post l k.toNat).foldl (stp l) s = S at a1 a2 a3 a4
    simp only [List.foldl_cons, List.foldl_nil, stp, hx, a3, a1]
    refine ⟨trivial, by simp [a2], ?_, ?_⟩
    · rw [List.getD_eq_getElem?_getD, List.getElem?_set_self (by omega)]
      simp
    · intro m hm
      simp only [List.mem_append, List.mem_singleton, not_or] at hm
      rw [List.getD_eq_getElem?_getD, List.getElem?_set_ne (Ne.symm hm.2), <- List.getD_eq_getElem?_getD]
      exact a4 m hm.1
open Go.RowKit
def prs (l : List Nd) : List (Int × Nat) := l.zipIdx.flatMap fun p => (kids p.1).map fun k => (k, p.2)
theorem prs_snoc (l : List Nd) (x : Nd) : prs (l ++ [x]) = prs l ++ (kids x).map fun k => (k, l.length) := by simp [prs, List.zipIdx_append]
theorem prs_fst (l : List Nd) : (prs l).map Prod.fst = allKids l := by
  induction l using snocInd with
  | h0 => rfl
  | h1 l x ih => rw [prs_snoc, allKids_snoc, List.map_append, ih]; congr 1; simp [Function.comp_def]
def UInv (n : Nat) (P : List (Int × Nat)) (U : List Int) : Prop :=
  U.length = n /\ (P.map Prod.fst).Nodup /\ (∀ p ∈ P, 0 <= p.1 /\ p.1 < (n : Int) /\ U[p.1.toNat]? = some (p.2 : Int)) /\ ∀ m : Nat, m < n -> (m : Int) ∉ P.map Prod.fst -> U[m]? = some (-1)
theorem UInv.start (n : Nat) : UInv n [] (List.replicate n (-1)) := ⟨by simp, by simp, by simp, fun m hm _ => by simp [hm]⟩
theorem UInv.step {n : Nat} {P : List (Int × Nat)} {U : List Int} (h : UInv n P U) {k i : Nat} (hk : k < n) (hn : (k : Int) ∉ P.map Prod.fst) : UInv n (P ++ [((k : Int), i)]) (U.set k (i : Int)) := by
  obtain ⟨h1, h2, h3, h4⟩ := h
  refine ⟨by simp [h1], ?_, ?_, ?_⟩
  · rw [List.map_append, List.nodup_append]
    refine ⟨h2, by simp, ?_⟩
    intro a ha b hb e
    simp only [List.map_cons, List.map_nil, List.mem_singleton] at hb
    subst e hb
    exact hn ha
  · intro p hp
    rw [List.mem_append, List.mem_singleton] at hp
    rcases hp with hp | rfl
    · obtain ⟨a1, a2, a3⟩ := h3 p hp
      refine ⟨a1, a2, ?_⟩
      have hne : k ≠ p.1.toNat := by
        intro e
        apply hn
        have : p.1 = (k : Int) := by omega
        rw [<- this]
        exact List.mem_map_of_mem hp
      rw [List.getElem?_set_ne hne]; exact a3
    · refine ⟨by simp, by simpa using hk, ?_⟩
      simp only [Int.toNat_natCast]
      rw [List.getElem?_set_self (by omega)]
  · intro m hm hnm
    rw [List.map_append, List.mem_append, not_or] at hnm
    have hne : k ≠ m := by
      rintro rfl
      exact hnm.2 (by simp)
    rw [List.getElem?_set_ne hne]
    exact h4 m hm hnm.1
theorem UInv.old {n : Nat} {P : List (Int × Nat)} {U : List Int} (h : UInv n P U) {k : Nat} (hk : k < n) {z : Int} (hz : U[k]? = some z) : 0 <= z ↔ (k : Int) ∈ P.map Prod.fst := by
  obtain ⟨h1, h2, h3, h4⟩ := h
  constructor
  · intro h0
    refine Classical.byContradiction fun hn => ?_
    rw [h4 k hk hn] at hz
    injection hz with hz
    omega
  · intro hm
    obtain ⟨p, hp, he⟩ := List.mem_map.1 hm
    obtain ⟨a1, a2, a3⟩ := h3 p hp
    rw [he] at a3
    simp only [Int.toNat_natCast] at a3
    rw [a3] at hz
    injection hz with hz
    omega
theorem UInv.fin {l : List Nd} {U : List Int} (h : UInv l.length (prs l) U) : (U.take (l.length - 1)).contains (-1) = false ↔ ∀ j : Nat, j + 1 < l.length -> (j : Int) ∈ allKids l := by
  have hf := prs_fst l
  rw [<- hf]
  constructor
  · intro hc j hj
    refine Classical.byContradiction fun hn => ?_
    have h1 := h.2.2.2 j (by omega) hn
    have : (-1 : Int) ∈ U.take (l.length - 1) := List.mem_of_getElem? (i := j) (by rw [List.getElem?_take, if_pos (by omega), h1])
    simp [this] at hc
  · intro hall
    simp only [List.contains_eq_mem, decide_eq_false_iff_not]
    intro hm
    obtain ⟨j, hj⟩ := List.getElem?_of_mem hm
    rw [List.getElem?_take] at hj
    split at hj
    · rename_i hlt
      have := (h.old (k := j) (by omega) hj).2 (hall j (by omega))
      omega
    · cases hj
theorem UInv.nodup {l : List Nd} {U : List Int} {n : Nat} (h : UInv n (prs l) U) : (allKids l).Nodup := by rw [<- prs_fst]; exact h.2.1
theorem prs_take {l : List Nd} {i : Nat} {x : Nd} (h : l[i]? = some x) : prs (l.take (i + 1)) = prs (l.take i) ++ (kids x).map fun k => (k, i) := by
  rw [take_snoc l i x h, prs_snoc]
  have := lt_of_some h
  rw [List.length_take, Nat.min_eq_left (by omega)]
theorem not_nodup {l : List Nd} {i j : Nat} {x : Nd} {k : Int} (hx : l[i]? = some x) (hk : (kids x)[j]? = some k) (hm : k ∈ (prs (l.take i) ++ ((kids x).take j).map fun k => (k, i)).map Prod.fst) : ¬ (allKids l).Nodup := by
  intro hn
  rw [List.map_append, prs_fst, List.mem_append] at hm
  rcases hm with hm | hm
  · obtain ⟨i', x', hx', hm'⟩ := mem_allKids.1 hm
    rw [List.getElem?_take] at hx'
    split at hx'
    · rename_i hlt
      have := nodup_at hn hx' hx hm' (List.mem_of_getElem? hk)
      omega
    · cases hx'
  · rw [List.map_map] at hm
    have hm2 : k ∈ (kids x).take j := by
      obtain ⟨a, ha, e⟩ := List.mem_map.1 hm
      simp at e
      exact e ▸ ha
    have h1 := kids_nodup hn hx
    obtain ⟨j', hj'⟩ := List.getElem?_of_mem hm2
    rw [List.getElem?_take] at hj'
    split at hj'
    · rename_i hlt
      have h2 := (List.getElem?_inj (i := j') (j := j) (lt_of_some hj') h1).1 (hj'.trans hk.symm)
      omega
    · cases hj'
open Go.RowKit
theorem pigeon : ∀ (n : Nat) (ms : List Nat), ms.Nodup -> (∀ m ∈ ms, m < n) -> ms.length <= n
  | 0, ms, _, h => by
    cases ms with
    | nil => simp
    | cons m ms => exact absurd (h m (by simp)) (by omega)
  | n + 1, ms, hn, h => by
    have h2 := pigeon n (ms.erase n) (hn.erase n) (fun m hm => by
      have h3 := (hn.mem_erase_iff).1 hm
      have := h m h3.2
      have := h3.1
      omega)
    by_cases hm : n ∈ ms
    · rw [List.length_erase_of_mem hm] at h2; omega
    · rw [List.erase_of_not_mem hm] at h2; omega
theorem post_disj {l : List Nd} (hk : kidsOk l) (hn : (allKids l).Nodup) {i : Nat} {x : Nd} (hx : l[i]? = some x) {k m : Int} (h1 : k ∈ kids x) (h2 : m ∈ kids x) (hne : m ≠ k) : ∀ d q : Nat, k.toNat - q <= d -> q ∈ post l k.toNat -> q ∈ post l m.toNat -> False := by
  have ha := hk _ _ hx
  have hi := lt_of_some hx
  have hkl := toNat_lt (ha k h1)
  have hml := toNat_lt (ha m h2)
  intro d
  induction d with
  | zero =>
    intro q hd hq1 hq2
    have := post_le hk _ (by omega) q hq1
    have e : q = k.toNat := by omega
    rw [e] at hq2
    exact apart hk hn hx h2 h1 (fun h => hne h.symm) hq2
  | succ d ih =>
    intro q hd hq1 hq2
    rcases post_up hk _ (by omega) q hq1 with e | ⟨p, y, hp, hy, hpk⟩
    · rw [e] at hq2
      exact apart hk hn hx h2 h1 (fun h => hne h.symm) hq2
    · rcases post_up hk _ (by omega) q hq2 with e | ⟨p', y', hp', hy', hpk'⟩
      · rw [e] at hq1
        exact apart hk hn hx h1 h2 hne hq1
      · have e := nodup_at hn hy hy' hpk hpk'
        subst e
        have hlt := (hk _ _ hy _ hpk).2
        have := post_le hk _ (by omega) p hp
        exact ih p (by omega) hp hp'
theorem post_nodup {l : List Nd} (hk : kidsOk l) (hn : (allKids l).Nodup) : ∀ i, i < l.length -> (post l i).Nodup := by
  intro i
  induction i using Nat.strongRecOn with
  | ind i ih =>
    intro hi
    have hx := List.getElem?_eq_getElem hi
    generalize l[i] = x at hx
    have ha := hk _ _ hx
    rw [post_eq hx ha, List.nodup_append]
    refine ⟨?_, by simp, ?_⟩
    · have hkn := kids_nodup hn hx
      have key : ∀ ks : List Int, ks.Nodup -> (∀ k ∈ ks, k ∈ kids x) -> (ks.flatMap fun k => post l k.toNat).Nodup := by
        intro ks
        induction ks with
        | nil => intro _ _; simp
        | cons k ks ihk =>
          intro h1 h2
          rw [List.flatMap_cons, List.nodup_append]
          rw [List.nodup_cons] at h1
          have hk1 := toNat_lt (ha k (h2 k (by simp)))
          refine ⟨ih _ hk1 (by omega), ihk h1.2 (fun m hm => h2 m (by simp [hm])), ?_⟩
          intro a hA b hB e
          subst e
          obtain ⟨m, hm, hB⟩ := List.mem_flatMap.1 hB
          exact post_disj hk hn hx (h2 k (by simp)) (h2 m (by simp [hm])) (fun e => h1.1 (e ▸ hm)) _ a (Nat.le_refl _) hA hB
      exact key _ hkn (fun k h => h)
    · intro a hA b hB e
      simp only [List.mem_singleton] at hB
      obtain ⟨k, hkx, hA⟩ := List.mem_flatMap.1 hA
      have hk1 := toNat_lt (ha k hkx)
      have := post_le hk _ (by omega) a hA
      omega
theorem post_len {l : List Nd} (hk : kidsOk l) (hn : (allKids l).Nodup) {i : Nat} (hi : i < l.length) : (post l i).length <= l.length :=
  pigeon _ _ (post_nodup hk hn i hi) (fun m hm => by have := post_le hk i hi m hm; omega)
theorem stp_len (l : List Nd) (ps : List Nat) : ∀ s : List Nd × List Int, (ps.foldl (stp l) s).1.length <= s.1.length + ps.length /\ (ps.foldl (stp l) s).2.length = s.2.length := by
  induction ps with
  | nil => intro s; simp
  | cons p ps ih =>
    intro s
    rw [List.foldl_cons]
    have h1 := ih (stp l s p)
    have h2 : (stp l s p).1.length <= s.1.length + 1 /\ (stp l s p).2.length = s.2.length := by
      unfold stp
      split
      · exact ⟨by omega, rfl⟩
      · exact ⟨by simp, by simp⟩
    rw [List.length_cons]
    exact ⟨by omega, by omega⟩
open Go.RowKit
theorem row_new {B : Nat} (w : World) (cs : Array Value) (t : TypeId) (hB : B <= w.heap.size) (hm : cs.size <= maxLen) : (w.alloc (.cells cs t)).ownsRow B t 1 (.slice (some ⟨w.heap.size, 0, none⟩) cs.size cs.size) cs.size cs.toList :=
  ⟨by simp, .inr ⟨w.heap.size, cs.size, cs, rfl, hB, heap_alloc_new w _, Nat.le_refl _, hm, by simp, by rw [Nat.mul_one]; exact List.take_of_length_le (by simp)⟩⟩
theorem row_mono {B B' : Nat} {W : World} {e : TypeId} {size : Nat} {v : Value} {n : Nat} {xs : List Value} (h : W.ownsRow B' e size v n xs) (hB : B <= B') : W.ownsRow B e size v n xs := by
  refine ⟨h.1, ?_⟩
  rcases h.2 with h | ⟨g, cap, cur, h1, h2, h3⟩
  · exact .inl h
  · exact .inr ⟨g, cap, cur, h1, Nat.le_trans hB h2, h3⟩
theorem intInfo : (Tryz.prog.info? 3).map (fun i => (i.zero, i.size, i.bytes)) = some (some (.int .i64 0), 1, 8) := by kernel_rfl
def Ints (B : Nat) (W : World) (v : Value) (l : List Int) : Prop := W.ownsRow B 3 1 v l.length (l.map (Value.int .i64))
theorem Ints.new {B : Nat} (w : World) (l : List Int) (hB : B <= w.heap.size) (hm : l.length <= maxLen) : Ints B (w.alloc (.cells (l.map (Value.int .i64)).toArray 3)) (.slice (some ⟨w.heap.size, 0, none⟩) l.length l.length) l := by
  have := row_new (B := B) w (l.map (Value.int .i64)).toArray 3 hB (by simpa using hm)
  simpa [Ints] using this
theorem Ints.at {B : Nat} (w : World) (p n : Nat) (l : List Int) (hp : p = w.heap.size) (hn : n = l.length) (hB : B <= w.heap.size) (hm : l.length <= maxLen) : Ints B (w.alloc (.cells (l.map (Value.int .i64)).toArray 3)) (.slice (some ⟨p, 0, none⟩) n n) l := by
  subst hp hn; exact Ints.new w l hB hm
def KidsPost (l : List Int) (B : Nat) (w : World) (e : Ending) (w' : World) : Prop := ∃ g c, e = .returned (.slice (some ⟨g, 0, none⟩) l.length c) /\ Ints B w' (.slice (some ⟨g, 0, none⟩) l.length c) l /\ Below B w w'
theorem KidsPost.of {l : List Int} {B : Nat} {w w' : World} {e : Ending} {v : Value} (he : e = .returned v) (g n c : Nat) (hv : v = .slice (some ⟨g, 0, none⟩) n c) (hn : n = l.length) (hi : Ints B w' v l) (hb : Below B w w') : KidsPost l B w e w' := by
  subst he hv hn; exact ⟨g, c, rfl, hi, hb⟩
theorem below3 {B : Nat} {w : World} (hB : B <= w.heap.size) (o1 o2 o3 : Obj) : Below B w (((w.alloc o1).alloc o2).alloc o3) :=
  (((Below.refl B w).alloc hB _).alloc (by simp; omega) _).alloc (by simp; omega) _
theorem kids_1 {B : Nat} (k a b c n pos : Int) (nm s : ByteArray) (vl : Value) (hk : k = 5 ∨ k = 12 ∨ k = 13) (w : World) (hB : B <= w.heap.size) :
    Calls Tryz.prog 42 #[.agg #[.int .i64 k, .int .i64 a, .int .i64 b, .int .i64 c, .int .i64 n, .string nm, .string s, vl, .int .i64 pos]] w (KidsPost [a] B w) := by
  rcases hk with rfl | rfl | rfl
  all_goals
    go_enter Tryz.func42, Tryz.ntmps42
    go_wp2
    go_ret
    exact KidsPost.of rfl (w.heap.size + 1 + 1) 1 1 rfl rfl (Ints.at (B := B) _ _ 1 [a] (by simp) rfl (by simp; omega) (by simp [maxLen])) (below3 hB _ _ _)
theorem kids_2 {B : Nat} (k a b c n pos : Int) (nm s : ByteArray) (vl : Value) (hk : k = 6 ∨ k = 7 ∨ k = 8 ∨ k = 10) (w : World) (hB : B <= w.heap.size) :
    Calls Tryz.prog 42 #[.agg #[.int .i64 k, .int .i64 a, .int .i64 b, .int .i64 c, .int .i64 n, .string nm, .string s, vl, .int .i64 pos]] w (KidsPost [a, b] B w) := by
  rcases hk with rfl | rfl | rfl | rfl
  all_goals
    go_enter Tryz.func42, Tryz.ntmps42
    go_wp2
    go_ret
    exact KidsPost.of rfl (w.heap.size + 1 + 1) 2 2 rfl rfl (Ints.at (B := B) _ _ 2 [a, b] (by simp) rfl (by simp; omega) (by simp [maxLen])) (below3 hB _ _ _)
theorem kids_3 {B : Nat} (a b c n pos : Int) (nm s : ByteArray) (vl : Value) (w : World) (hB : B <= w.heap.size) :
    Calls Tryz.prog 42 #[.agg #[.int .i64 9, .int .i64 a, .int .i64 b, .int .i64 c, .int .i64 n, .string nm, .string s, vl, .int .i64 pos]] w (KidsPost [a, b, c] B w) := by
  go_enter Tryz.func42, Tryz.ntmps42
  go_wp2
  go_ret
  exact KidsPost.of rfl (w.heap.size + 1 + 1) 3 3 rfl rfl (Ints.at (B := B) _ _ 3 [a, b, c] (by simp) rfl (by simp; omega) (by simp [maxLen])) (below3 hB _ _ _)
theorem kids_0 {B : Nat} (k a b c n pos : Int) (nm s : ByteArray) (vl : Value) (h5 : (k == 5) = false) (h12 : (k == 12) = false) (h13 : (k == 13) = false) (h6 : (k == 6) = false) (h7 : (k == 7) = false) (h8 : (k == 8) = false) (h10 : (k == 10) = false) (h9 : (k == 9) = false) (h14 : (k == 14) = false) (h11 : (k == 11) = false) (w : World) (hB : B <= w.heap.size) :
    Calls Tryz.prog 42 #[.agg #[.int .i64 k, .int .i64 a, .int .i64 b, .int .i64 c, .int .i64 n, .string nm, .string s, vl, .int .i64 pos]] w (KidsPost [] B w) := by
  go_enter Tryz.func42, Tryz.ntmps42
  go_wp2
  go_ret
  exact KidsPost.of rfl (w.heap.size + 1) 0 0 rfl rfl (Ints.at (B := B) _ _ 0 [] (by simp) rfl (by simp; omega) (by simp [maxLen])) (((Below.refl B w).alloc hB _).alloc (by simp; omega) _)
theorem pl_take (l : List Fld) (k : Nat) (f : Fld) (h : l[k]? = some f) : (l.take (k + 1)).map Fld.pl = (l.take k).map Fld.pl ++ [f.pl] := by
  have hk : k < l.length := (List.getElem?_eq_some_iff.1 h).1
  rw [List.take_succ_eq_append_getElem hk, List.map_append]
  have : l[k] = f := (List.getElem?_eq_some_iff.1 h).2
  simp [this]
theorem new1 (W : World) (t : TypeId) (v : Value) (j : Nat) (u : Value) (h : [v][j]? = some u) : (W.alloc (.cells #[v] t)).cell? ((⟨W.heap.size, 0, none⟩ : Addr).add j) = some u := by
  cases j with
  | zero =>
    rw [List.getElem?_cons_zero] at h
    rw [Addr.add_lit, World.cell?, heap_alloc_new]
    simpa using h
  | succ j => simp at h
theorem kids_p11 {B : Nat} (a b c n pos : Int) (nm s : ByteArray) (l : List Fld) (L cp fb fo : Nat) (HL : Hid (l.length = L)) (hL : L <= 1000000) (w : World) (hB : B <= w.heap.size) (hfb : fb < w.heap.size) (HF : Hid (FldsAt w fb fo l)) (R : List Int) (HRR : Hid (R = ([] : List Int) ++ l.map Fld.pl)) :
    Calls Tryz.prog 42 #[.agg #[.int .i64 11, .int .i64 a, .int .i64 b, .int .i64 c, .int .i64 n, .string nm, .string s, .slice (some ⟨fb, fo, none⟩) L cp, .int .i64 pos]] w (KidsPost R B w) := by
  obtain ⟨i0, hi, hz0, hz1, hz2⟩ := info_parts intInfo
  go_enter Tryz.func42, Tryz.ntmps42
  go_wp2
  go_loopw [3, 4] (fun v i wr => ∃ q g c' : Nat, v = .slice (some ⟨g, 0, none⟩) q c' /\ i = .int .i64 (q : Int) /\ q <= L /\ Hid (wr.ownsRow (w.heap.size + 1) 3 1 (.slice (some ⟨g, 0, none⟩) q c') q ((([] : List Int) ++ (l.take q).map Fld.pl).map (Value.int .i64))) /\ Hid (Below (w.heap.size + 1) (w.alloc (.cells #[.int .i64 11, .int .i64 a, .int .i64 b, .int .i64 c, .int .i64 n, .string nm, .string s, .slice (some ⟨fb, fo, none⟩) L cp, .int .i64 pos] 37)) wr)) (fun _ i _ => L - (intOf i).toNat)
  case atStart => exact ⟨0, _, _, rfl, rfl, by omega, Lib.hid (by rw [List.take_zero]; exact Ints.at (B := w.heap.size + 1) _ _ 0 [] (by simp) rfl (by simp) (by simp [maxLen])), Lib.hid ((Below.refl _ _).alloc (by simp) _)⟩
  case round =>
    obtain ⟨q, g, c', rfl, rfl, hq, HI, HB⟩ := hrel
    have hcb : wr.cell? ⟨w.heap.size, 7, none⟩ = some (.slice (some ⟨fb, fo, none⟩) L cp) := by
      rw [HB.out.cell (p := ⟨w.heap.size, 7, none⟩) (by simp), World.cell?, heap_alloc_new]
      rfl
    have hsz := HB.out.size
    rw [World.size_alloc] at hsz
    by_cases hlt : q < L
    · obtain ⟨fd, hfd⟩ : ∃ fd, l[q]? = some fd := ⟨_, List.getElem?_eq_getElem (by rw [HL.out]; exact hlt)⟩
      have hc2 : wr.cell? ⟨fb, fo + q * 3 + 2, none⟩ = some (.int .i64 fd.pl) := by
        rw [HB.out.cell (p := ⟨fb, _, none⟩) (by show fb < w.heap.size + 1; omega), ((Below.refl w.heap.size w).alloc (Nat.le_refl _) _).cell (p := ⟨fb, _, none⟩) hfb]
        exact (HF.out q fd hfd).2.2
      have HX := Lib.hid (pl_take l q fd hfd)
      clear hfd
      go_wp2_with (at_builtin; refine wpList_append_own _ rfl _ _ 74 rfl (w.heap.size + 1) 3 i0 (.int .i64 0) 1 8 Tryz.underlying74 hi hz0 hz1 hz2 rfl (by decide) _ _ _ rfl (HI.out.alloc _) ⟨wr.heap.size, 0, none⟩ 1 1 [.int .i64 fd.pl] rfl rfl (new1 wr 3 _) (fun u hu => by rw [List.mem_singleton.1 hu]; rfl) (by unfold maxLen; omega) (by omega) (by simp; omega) ?_; intro v' w2 hown' hgrow _; obtain ⟨g', cap', rfl⟩ := ownsRow_succ hown'; have HO := Lib.hid hown'; have HG := Lib.hid hgrow; clear hown' hgrow)
      go_roundw
      case rel =>
        refine ⟨q + 1, g', cap', rfl, by go_num, by omega, Lib.hid ?_, Lib.hid ((HB.out.alloc (by omega) _).grown HG.out (by simp; omega) (fun k hk => (HI.out.lt k hk).1))⟩
        have h := HO.out
        rw [HX.out, <- List.append_assoc, List.map_append]
        exact h
      case measure => simp [intOf]; omega
    · obtain rfl : q = L := by omega
      go_wp2
      go_ret
      refine KidsPost.of rfl _ _ _ rfl (by have := HL.out; rw [HRR.out]; simp; omega) ?_ ?_
      · have h := HI.out
        rw [List.take_of_length_le (by have := HL.out; omega)] at h
        have e : (([] : List Int) ++ l.map Fld.pl).length = q := by have := HL.out; simp; omega
        unfold Ints
        rw [HRR.out, e]
        exact row_mono h (by omega)
      · exact (((Below.refl B w).alloc hB _).trans (HB.out.mono (by omega)))
theorem kids_p14 {B : Nat} (a b c n pos : Int) (nm s : ByteArray) (l : List Fld) (L cp fb fo : Nat) (HL : Hid (l.length = L)) (hL : L <= 1000000) (w : World) (hB : B <= w.heap.size) (hfb : fb < w.heap.size) (HF : Hid (FldsAt w fb fo l)) (R : List Int) (HRR : Hid (R = [a] ++ l.map Fld.pl)) :
    Calls Tryz.prog 42 #[.agg #[.int .i64 14, .int .i64 a, .int .i64 b, .int .i64 c, .int .i64 n, .string nm, .string s, .slice (some ⟨fb, fo, none⟩) L cp, .int .i64 pos]] w (KidsPost R B w) := by
  obtain ⟨i0, hi, hz0, hz1, hz2⟩ := info_parts intInfo
  go_enter Tryz.func42, Tryz.ntmps42
  go_wp2
  go_loopw [3, 4] (fun v i wr => ∃ q g c' : Nat, v = .slice (some ⟨g, 0, none⟩) (q + 1) c' /\ i = .int .i64 (q : Int) /\ q <= L /\ Hid (wr.ownsRow (w.heap.size + 1) 3 1 (.slice (some ⟨g, 0, none⟩) (q + 1) c') (q + 1) (([a] ++ (l.take q).map Fld.pl).map (Value.int .i64))) /\ Hid (Below (w.heap.size + 1) (w.alloc (.cells #[.int .i64 14, .int .i64 a, .int .i64 b, .int .i64 c, .int .i64 n, .string nm, .string s, .slice (some ⟨fb, fo, none⟩) L cp, .int .i64 pos] 37)) wr)) (fun _ i _ => L - (intOf i).toNat)
  case atStart => exact ⟨0, _, _, rfl, rfl, by omega, Lib.hid (by rw [List.take_zero]; exact Ints.at (B := w.heap.size + 1) _ _ 1 [a] (by simp) rfl (by simp) (by simp [maxLen])), Lib.hid (((Below.refl _ _).alloc (by simp) _).alloc (by simp) _)⟩
  case round =>
    obtain ⟨q, g, c', rfl, rfl, hq, HI, HB⟩ := hrel
    have hcb : wr.cell? ⟨w.heap.size, 7, none⟩ = some (.slice (some ⟨fb, fo, none⟩) L cp) := by
      rw [HB.out.cell (p := ⟨w.heap.size, 7, none⟩) (by simp), World.cell?, heap_alloc_new]
      rfl
    have hsz := HB.out.size
    rw [World.size_alloc] at hsz
    by_cases hlt : q < L
    · obtain ⟨fd, hfd⟩ : ∃ fd, l[q]? = some fd := ⟨_, List.getElem?_eq_getElem (by rw [HL.out]; exact hlt)⟩
      have hc2 : wr.cell? ⟨fb, fo + q * 3 + 2, none⟩ = some (.int .i64 fd.pl) := by
        rw [HB.out.cell (p := ⟨fb, _, none⟩) (by show fb < w.heap.size + 1; omega), ((Below.refl w.heap.size w).alloc (Nat.le_refl _) _).cell (p := ⟨fb, _, none⟩) hfb]
        exact (HF.out q fd hfd).2.2
      have HX := Lib.hid (pl_take l q fd hfd)
      clear hfd
      go_wp2_with (at_builtin; refine wpList_append_own _ rfl _ _ 74 rfl (w.heap.size + 1) 3 i0 (.int .i64 0) 1 8 Tryz.underlying74 hi hz0 hz1 hz2 rfl (by decide) _ _ _ rfl (HI.out.alloc _) ⟨wr.heap.size, 0, none⟩ 1 1 [.int .i64 fd.pl] rfl rfl (new1 wr 3 _) (fun u hu => by rw [List.mem_singleton.1 hu]; rfl) (by unfold maxLen; omega) (by omega) (by simp; omega) ?_; intro v' w2 hown' hgrow _; obtain ⟨g', cap', rfl⟩ := ownsRow_succ hown'; have HO := Lib.hid hown'; have HG := Lib.hid hgrow; clear hown' hgrow)
      go_roundw
      case rel =>
        refine ⟨q + 1, g', cap', rfl, by go_num, by omega, Lib.hid ?_, Lib.hid ((HB.out.alloc (by omega) _).grown HG.out (by simp; omega) (fun k hk => (HI.out.lt k hk).1))⟩
        have h := HO.out
        rw [HX.out, <- List.append_assoc, List.map_append]
        exact h
      case measure => simp [intOf]; omega
    · obtain rfl : q = L := by omega
      go_wp2
      go_ret
      refine KidsPost.of rfl _ _ _ rfl (by have := HL.out; rw [HRR.out]; simp; omega) ?_ ?_
      · have h := HI.out
        rw [List.take_of_length_le (by have := HL.out; omega)] at h
        have e : ([a] ++ l.map Fld.pl).length = (q + 1) := by have := HL.out; simp; omega
        unfold Ints
        rw [HRR.out, e]
        exact row_mono h (by omega)
      · exact (((Below.refl B w).alloc hB _).trans (HB.out.mono (by omega)))
theorem kids_z {B : Nat} (k a b c n pos : Int) (nm s : ByteArray) (A : Option Addr) (cp : Nat) (base : List Int) (hk : (k = 11 /\ base = []) ∨ (k = 14 /\ base = [a])) (w : World) (hB : B <= w.heap.size) :
    Calls Tryz.prog 42 #[.agg #[.int .i64 k, .int .i64 a, .int .i64 b, .int .i64 c, .int .i64 n, .string nm, .string s, .slice A 0 cp, .int .i64 pos]] w (KidsPost base B w) := by
  rcases hk with ⟨rfl, rfl⟩ | ⟨rfl, rfl⟩
  · go_enter Tryz.func42, Tryz.ntmps42
    go_wp2
    go_loop [3, 4] (fun v i => v = .slice (some ⟨w.heap.size + 1, 0, none⟩) 0 0 /\ i = .int .i64 0) (fun _ _ => 0)
    case atStart => exact ⟨rfl, rfl⟩
    case round =>
      obtain ⟨rfl, rfl⟩ := hrel
      go_wp2
      go_ret
      exact KidsPost.of rfl (w.heap.size + 1) 0 0 rfl rfl (Ints.at (B := B) _ _ 0 [] (by simp) rfl (by simp; omega) (by simp [maxLen])) (((Below.refl B w).alloc hB _).alloc (by simp; omega) _)
  · go_enter Tryz.func42, Tryz.ntmps42
    go_wp2
    go_loop [3, 4] (fun v i => v = .slice (some ⟨w.heap.size + 1 + 1, 0, none⟩) 1 1 /\ i = .int .i64 0) (fun _ _ => 0)
    case atStart => exact ⟨rfl, rfl⟩
    case round =>
      obtain ⟨rfl, rfl⟩ := hrel
      go_wp2
      go_ret
      exact KidsPost.of rfl (w.heap.size + 1 + 1) 1 1 rfl rfl (Ints.at (B := B) _ _ 1 [a] (by simp) rfl (by simp; omega) (by simp [maxLen])) (below3 hB _ _ _)
theorem kids_any {B : Nat} (x : Nd) (vl : Value) (w : World) (hB : B <= w.heap.size) (hv : Flds w.heap.size w vl x.l) (hL : x.l.length <= 1000000) :
    Calls Tryz.prog 42 #[.agg (ndArr x vl)] w (KidsPost (kids x) B w) := by
  obtain ⟨k, a, b, c, n, nm, s, l, pos⟩ := x
  unfold ndArr
  simp only at hv hL ⊢
  by_cases h1 : k = 5 ∨ k = 12 ∨ k = 13
  · have e : kids ⟨k, a, b, c, n, nm, s, l, pos⟩ = [a] := by rcases h1 with rfl | rfl | rfl <;> rfl
    rw [e]; exact kids_1 k a b c n pos nm s vl h1 w hB
  · by_cases h2 : k = 6 ∨ k = 7 ∨ k = 8 ∨ k = 10
    · have e : kids ⟨k, a, b, c, n, nm, s, l, pos⟩ = [a, b] := by rcases h2 with rfl | rfl | rfl | rfl <;> rfl
      rw [e]; exact kids_2 k a b c n pos nm s vl h2 w hB
    · by_cases h3 : k = 9
      · subst h3
        exact kids_3 a b c n pos nm s vl w hB
      · by_cases h4 : k = 11
        · subst h4
          have e : kids ⟨11, a, b, c, n, nm, s, l, pos⟩ = ([] : List Int) ++ l.map Fld.pl := rfl
          rw [e]
          obtain ⟨A, cp, rfl, _, _, hq⟩ := hv
          by_cases h0 : 0 < l.length
          · obtain ⟨fb, fo, rfl, hlt, hf⟩ := hq h0
            exact kids_p11 a b c n pos nm s l _ cp fb fo (Lib.hid rfl) hL w hB hlt (Lib.hid hf) _ (Lib.hid rfl)
          · obtain rfl : l = [] := List.eq_nil_of_length_eq_zero (by omega)
            exact kids_z 11 a b c n pos nm s _ _ [] (.inl ⟨rfl, rfl⟩) w hB
        · by_cases h5 : k = 14
          · subst h5
            have e : kids ⟨14, a, b, c, n, nm, s, l, pos⟩ = [a] ++ l.map Fld.pl := rfl
            rw [e]
            obtain ⟨A, cp, rfl, _, _, hq⟩ := hv
            by_cases h0 : 0 < l.length
            · obtain ⟨fb, fo, rfl, hlt, hf⟩ := hq h0
              exact kids_p14 a b c n pos nm s l _ cp fb fo (Lib.hid rfl) hL w hB hlt (Lib.hid hf) _ (Lib.hid rfl)
            · obtain rfl : l = [] := List.eq_nil_of_length_eq_zero (by omega)
              exact kids_z 14 a b c n pos nm s _ _ [a] (.inr ⟨rfl, rfl⟩) w hB
          · have hne : ∀ m : Int, k ≠ m -> (k == m) = false := fun m h => by simpa using h
            have e : kids ⟨k, a, b, c, n, nm, s, l, pos⟩ = [] := by
              have e0 : kids0 ⟨k, a, b, c, n, nm, s, l, pos⟩ = [] := by
                simp only [kids0]
                rw [if_neg (by omega), if_neg (by omega), if_neg (by omega)]
              have em : many ⟨k, a, b, c, n, nm, s, l, pos⟩ = false := by simp only [many, decide_eq_false_iff_not]; omega
              rw [kids, e0, em]; rfl
            rw [e]
            exact kids_0 k a b c n pos nm s vl (hne _ (by omega)) (hne _ (by omega)) (hne _ (by omega)) (hne _ (by omega)) (hne _ (by omega)) (hne _ (by omega)) (hne _ (by omega)) (hne _ (by omega)) (hne _ (by omega)) (hne _ (by omega)) w hB
open Go.RowKit Go.ChangeShapes Go.WideShapes Go.Deep Go.Joins
theorem c53 : Tryz.prog.cellsOf 97 = 3 := by kernel_rfl
theorem c27 : Tryz.prog.cellsOf 37 = 9 := by kernel_rfl
theorem c24 : Tryz.prog.cellsOf 25 = 1 := by kernel_rfl
theorem c3 : Tryz.prog.cellsOf 3 = 1 := by kernel_rfl
theorem c2 : Tryz.prog.cellsOf 2 = 1 := by kernel_rfl
theorem c9 : Tryz.prog.cellsOf 9 = 1 := by kernel_rfl
theorem c25 : Tryz.prog.cellsOf 35 = 1 := by kernel_rfl
theorem c22 : Tryz.prog.cellsOf 23 = 1 := by kernel_rfl
theorem choose_list {α : Type} {P : Nat -> α -> Prop} : ∀ n : Nat, (∀ i, i < n -> ∃ x, P i x) -> ∃ l : List α, l.length = n /\ ∀ i x, l[i]? = some x -> P i x
  | 0, _ => ⟨[], rfl, fun i x h => by simp at h⟩
  | n + 1, h => by
    obtain ⟨l, hl, hp⟩ := choose_list n (fun i hi => h i (by omega))
    obtain ⟨x, hx⟩ := h n (by omega)
    refine ⟨l ++ [x], by simp [hl], fun i y hy => ?_⟩
    rcases Nat.lt_trichotomy i n with hi | hi | hi
    · rw [List.getElem?_append_left (by omega)] at hy; exact hp i y hy
    · subst hi
      rw [List.getElem?_append_right (by omega), hl, Nat.sub_self] at hy
      simp at hy; subst hy; exact hx
    · rw [List.getElem?_append_right (by omega)] at hy
      rw [List.getElem?_eq_none (by simp; omega)] at hy; cases hy
def FitF (f : Fld) : Prop := f.nm.size <= reachBytes /\ f.vr.size <= reachBytes
def Fit (x : Nd) : Prop := x.nm.size <= reachBytes /\ x.s.size <= reachBytes /\ x.l.length <= 3518437208780 /\ ∀ f ∈ x.l, FitF f
def Light {H : Type} (t : TypeId) (d : DataW H) : Prop := ∀ n ∈ d.weights Tryz.prog t, n <= reachBytes
theorem light_all {H : Type} {e : TypeId} : ∀ {ds : List (DataW H)} {d : DataW H}, d ∈ ds -> ∀ n ∈ d.weights Tryz.prog e, n ∈ DataW.weightsAll Tryz.prog e ds
  | d0 :: ds, d, hd, n, hn => by
    simp only [DataW.weightsAll, List.mem_append]
    rcases List.mem_cons.1 hd with rfl | hd
    · exact .inl hn
    · exact .inr (light_all hd n hn)
section
variable {H : Type} {enc : TypeId × Value -> H} {w : World} {base : Nat} {spare : Nat -> Bool} {held : Bool}
theorem one_field {n t j N : Nat} {cs : List Value} {ys : List (DataW H × List MemPlace)} (hc : Tryz.prog.cellsOf t = 1) (hcs : cs.length = N) (hys : ys.length = N) (hj : j < N)
    (h : DataW.trod enc Tryz.prog w base spare held n t ((cs.drop j).take (Tryz.prog.cellsOf t)) = ys[j]?) : ∃ c y, cs[j]? = some c /\ ys[j]? = some y /\ DataW.trod enc Tryz.prog w base spare held n t [c] = some y := by
  have hv : cs[j]? = some (cs[j]'(by omega)) := List.getElem?_eq_getElem (by omega)
  have hy : ys[j]? = some (ys[j]'(by omega)) := List.getElem?_eq_getElem (by omega)
  have hone : (cs.drop j).take 1 = [cs[j]'(by omega)] := by rw [List.drop_eq_getElem_cons (by omega)]; rfl
  rw [hc, hone] at h
  exact ⟨_, _, hv, hy, h.trans hy⟩
theorem block_of {a : Addr} {v : Value} (h : w.cell? a = some v) : a.block < w.heap.size := by
  unfold World.cell? at h
  split at h
  · rename_i hh
    exact (Array.getElem?_eq_some_iff.1 hh).1
  · cases h
theorem open_fld {n : Nat} {cs : List Value} {x : DataW H × List MemPlace} (h : DataW.trod enc Tryz.prog w base spare held n 97 cs = some x) : ∃ f : Fld, cs = [.string f.nm, .string f.vr, .int .i64 f.pl] /\ (Light 97 x.1 -> FitF f) := by
  obtain ⟨ys, n', _, hx, hlen, hyl, hf⟩ := DataW.trod_struct Tryz.underlying97 h
  rw [c53] at hlen
  obtain ⟨v0, y0, e0, z0, t0⟩ := one_field (t := 9) (j := 0) (N := 3) c9 hlen hyl (by omega) (hf 0 _ rfl)
  obtain ⟨v1, y1, e1, z1, t1⟩ := one_field (t := 9) (j := 1) (N := 3) c9 hlen hyl (by omega) (hf 1 _ rfl)
  obtain ⟨v2, y2, e2, _, t2⟩ := one_field (t := 3) (j := 2) (N := 3) c3 hlen hyl (by omega) (hf 2 _ rfl)
  obtain ⟨s0, h0, k0, _⟩ := DataW.trod_string Tryz.underlying9 t0
  obtain ⟨s1, h1, k1, _⟩ := DataW.trod_string Tryz.underlying9 t1
  obtain ⟨i2, h2, _⟩ := DataW.trod_int Tryz.underlying3 t2
  simp only [List.cons.injEq, and_true] at h0 h1 h2
  subst h0 h1 h2
  match cs, hlen with
  | [a, b, c], _ =>
    simp at e0 e1 e2
    refine ⟨⟨s0, s1, i2⟩, by rw [e0, e1, e2], fun hw => ?_⟩
    rw [hx] at hw
    have hw' : ∀ n ∈ DataW.weightsEach Tryz.prog [9, 9, 3] (ys.map (·.1)), n <= reachBytes := fun n hn => hw n (by rw [DataW.weights, Tryz.underlying97]; exact hn)
    have g0 := hw' s0.data.toList.length (DataW.weights_mem_each (j := 0) (t := 9) rfl (by rw [List.getElem?_map, z0, k0]; rfl) _ (by simp [DataW.weights]))
    have g1 := hw' s1.data.toList.length (DataW.weights_mem_each (j := 1) (t := 9) rfl (by rw [List.getElem?_map, z1, k1]; rfl) _ (by simp [DataW.weights]))
    exact ⟨g0, g1⟩
theorem open_flds {fuel : Nat} {v : Value} {x : DataW H × List MemPlace} (h : DataW.trod enc Tryz.prog w base spare held fuel 35 [v] = some x) : ∃ l, Flds w.heap.size w v l /\ (Light 35 x.1 -> l.length <= 3518437208780 /\ ∀ f ∈ l, FitF f) := by
  rcases open_slice Tryz.underlying35 h with ⟨hcs, _⟩ | ⟨a, len, cap, m, n, D, Pl, hcs, _, hl, hcm, hmm, hx, hi⟩
  · simp at hcs; exact ⟨[], ⟨none, 0, hcs, ⟨by simp, by omega⟩, fun _ => rfl, fun h => by simp at h⟩, fun _ => ⟨by simp, fun f hf => by simp at hf⟩⟩
  · simp at hcs
    have hlm : len <= m := by rw [hmm]; split <;> omega
    obtain ⟨l, hll, hp⟩ := choose_list (P := fun i (f : Fld) => w.cell? (a.add (i * 3)) = some (.string f.nm) /\ w.cell? (a.add (i * 3 + 1)) = some (.string f.vr) /\ w.cell? (a.add (i * 3 + 2)) = some (.int .i64 f.pl) /\ (Light 97 (D i) -> FitF f)) len (fun i hlt => by
      obtain ⟨cs', hc, ht⟩ := hi i (by omega)
      rw [c53] at hc
      obtain ⟨f, rfl, hfit⟩ := open_fld ht
      obtain ⟨_, _, hat⟩ := World.cells?_some hc
      refine ⟨f, ?_, ?_, ?_, hfit⟩
      · have := hat 0 (by omega); rw [add_add] at this; exact this
      · have := hat 1 (by omega); rw [add_add] at this; exact this
      · have := hat 2 (by omega); rw [add_add] at this; exact this)
    refine ⟨l, ⟨some a, cap, by rw [hcs, hll], ⟨by omega, by unfold maxLen at hcm; exact hcm⟩, (fun h => by cases h), fun h0 => ?_⟩, fun hw => ?_⟩
    rotate_left
    · rw [hx] at hw
      have hw' : ∀ n, n = (len + (m - len)) * Tryz.prog.bytesOf 97 ∨ n ∈ DataW.weightsAll Tryz.prog 97 ((List.range len).map D) -> n <= reachBytes := fun n hn => hw n (by
        simp only [DataW.weights, Tryz.underlying35, List.length_map, List.length_range, List.mem_cons, List.mem_append]
        rcases hn with h | h
        · exact .inl h
        · exact .inr (.inl h))
      refine ⟨?_, fun f hf => ?_⟩
      · have h40 : Tryz.prog.bytesOf 97 = 40 := by kernel_rfl
        have := hw' _ (.inl rfl)
        rw [h40] at this
        have e : reachBytes = 140737488351232 := rfl
        omega
      · obtain ⟨i, hi⟩ := List.getElem?_of_mem hf
        have hil : i < len := by rw [<- hll]; exact (List.getElem?_eq_some_iff.1 hi).1
        exact (hp i f hi).2.2.2 fun n hn => hw' n (.inr (light_all (List.mem_map.2 ⟨i, List.mem_range.2 hil, rfl⟩) n hn))
    obtain ⟨b, o, spot⟩ := a
    obtain ⟨h00, _⟩ := hp 0 (l[0]'h0) (List.getElem?_eq_getElem h0)
    have hs : spot = none := by simpa [Addr.add] using World.cell?_spot h00
    subst hs
    refine ⟨b, o, rfl, by have := block_of h00; rw [add_plain] at this; exact this, fun j f hj => ?_⟩
    have := hp j f hj
    rw [add_plain, add_plain, add_plain] at this
    exact ⟨this.1, this.2.1, this.2.2.1⟩
theorem open_nd {n : Nat} {cs : List Value} {x : DataW H × List MemPlace} (h : DataW.trod enc Tryz.prog w base spare held n 37 cs = some x) : ∃ (y : Nd) (vl : Value), cs = (ndArr y vl).toList /\ Flds w.heap.size w vl y.l /\ (Light 37 x.1 -> Fit y) := by
  obtain ⟨ys, n', _, hx, hlen, hyl, hf⟩ := DataW.trod_struct Tryz.underlying37 h
  rw [c27] at hlen
  obtain ⟨v0, y0, e0, _, t0⟩ := one_field (t := 3) (j := 0) (N := 9) c3 hlen hyl (by omega) (hf 0 _ rfl)
  obtain ⟨v1, y1, e1, _, t1⟩ := one_field (t := 3) (j := 1) (N := 9) c3 hlen hyl (by omega) (hf 1 _ rfl)
  obtain ⟨v2, y2, e2, _, t2⟩ := one_field (t := 3) (j := 2) (N := 9) c3 hlen hyl (by omega) (hf 2 _ rfl)
  obtain ⟨v3, y3, e3, _, t3⟩ := one_field (t := 3) (j := 3) (N := 9) c3 hlen hyl (by omega) (hf 3 _ rfl)
  obtain ⟨v4, y4, e4, _, t4⟩ := one_field (t := 2) (j := 4) (N := 9) c2 hlen hyl (by omega) (hf 4 _ rfl)
  obtain ⟨v5, y5, e5, z5, t5⟩ := one_field (t := 9) (j := 5) (N := 9) c9 hlen hyl (by omega) (hf 5 _ rfl)
  obtain ⟨v6, y6, e6, z6, t6⟩ := one_field (t := 9) (j := 6) (N := 9) c9 hlen hyl (by omega) (hf 6 _ rfl)
  obtain ⟨v7, y7, e7, z7, t7⟩ := one_field (t := 35) (j := 7) (N := 9) c25 hlen hyl (by omega) (hf 7 _ rfl)
  obtain ⟨v8, y8, e8, _, t8⟩ := one_field (t := 3) (j := 8) (N := 9) c3 hlen hyl (by omega) (hf 8 _ rfl)
  obtain ⟨i0, h0, _⟩ := DataW.trod_int Tryz.underlying3 t0
  obtain ⟨i1, h1, _⟩ := DataW.trod_int Tryz.underlying3 t1
  obtain ⟨i2, h2, _⟩ := DataW.trod_int Tryz.underlying3 t2
  obtain ⟨i3, h3, _⟩ := DataW.trod_int Tryz.underlying3 t3
  obtain ⟨i4, h4, _⟩ := DataW.trod_int Tryz.underlying2 t4
  obtain ⟨s5, h5, k5, _⟩ := DataW.trod_string Tryz.underlying9 t5
  obtain ⟨s6, h6, k6, _⟩ := DataW.trod_string Tryz.underlying9 t6
  obtain ⟨l, hl, hlf⟩ := open_flds t7
  obtain ⟨i8, h8, _⟩ := DataW.trod_int Tryz.underlying3 t8
  simp only [List.cons.injEq, and_true] at h0 h1 h2 h3 h4 h5 h6 h8
  subst h0 h1 h2 h3 h4 h5 h6 h8
  match cs, hlen with
  | [a0, a1, a2, a3, a4, a5, a6, a7, a8], _ =>
    simp at e0 e1 e2 e3 e4 e5 e6 e7 e8
    refine ⟨⟨i0, i1, i2, i3, i4, s5, s6, l, i8⟩, v7, by rw [e0, e1, e2, e3, e4, e5, e6, e7, e8]; rfl, hl, fun hw => ?_⟩
    rw [hx] at hw
    have hw' : ∀ n ∈ DataW.weightsEach Tryz.prog [3, 3, 3, 3, 2, 9, 9, 35, 3] (ys.map (·.1)), n <= reachBytes := fun n hn => hw n (by rw [DataW.weights, Tryz.underlying37]; exact hn)
    have g5 := hw' s5.data.toList.length (DataW.weights_mem_each (j := 5) (t := 9) rfl (by rw [List.getElem?_map, z5, k5]; rfl) _ (by simp [DataW.weights]))
    have g6 := hw' s6.data.toList.length (DataW.weights_mem_each (j := 6) (t := 9) rfl (by rw [List.getElem?_map, z6, k6]; rfl) _ (by simp [DataW.weights]))
    have g7 := hlf fun n hn => hw' n (DataW.weights_mem_each (j := 7) (t := 35) rfl (by rw [List.getElem?_map, z7]; rfl) _ hn)
    exact ⟨g5, g6, g7.1, g7.2⟩
theorem open_nodes {fuel : Nat} {v : Value} {x : DataW H × List MemPlace} (h : DataW.trod enc Tryz.prog w base spare held fuel 23 [v] = some x) : ∃ l, Nodes w.heap.size w v l /\ (Light 23 x.1 -> ∀ y ∈ l, Fit y) := by
  rcases open_slice Tryz.underlying23 h with ⟨hcs, _⟩ | ⟨a, len, cap, m, n, D, Pl, hcs, _, hl, hcm, hmm, hx, hi⟩
  · simp at hcs; exact ⟨[], ⟨none, 0, hcs, ⟨by simp, by omega⟩, fun _ => rfl, fun h => by simp at h⟩, fun _ y hy => by simp at hy⟩
  · simp at hcs
    have hlm : len <= m := by rw [hmm]; split <;> omega
    obtain ⟨l, hll, hp⟩ := choose_list (P := fun i (y : Nd) => (∃ vl, Flds w.heap.size w vl y.l /\ ∀ j, j < 9 -> w.cell? (a.add (i * 9 + j)) = (ndArr y vl).toList[j]?) /\ (Light 37 (D i) -> Fit y)) len (fun i hlt => by
      obtain ⟨cs', hc, ht⟩ := hi i (by omega)
      rw [c27] at hc
      obtain ⟨y, vl, rfl, hfl, hfit⟩ := open_nd ht
      obtain ⟨_, _, hat⟩ := World.cells?_some hc
      refine ⟨y, ⟨vl, hfl, fun j hj => ?_⟩, hfit⟩
      have := hat j hj; rw [add_add] at this; exact this)
    refine ⟨l, ⟨some a, cap, by rw [hcs, hll], ⟨by omega, by unfold maxLen at hcm; exact hcm⟩, (fun h => by cases h), fun h0 => ?_⟩, fun hw y hy => ?_⟩
    rotate_left
    · rw [hx] at hw
      obtain ⟨i, hi⟩ := List.getElem?_of_mem hy
      have hil : i < len := by rw [<- hll]; exact (List.getElem?_eq_some_iff.1 hi).1
      exact (hp i y hi).2 fun n hn => hw n (by
        simp only [DataW.weights, Tryz.underlying23, List.mem_cons, List.mem_append]
        exact .inr (.inl (light_all (List.mem_map.2 ⟨i, List.mem_range.2 hil, rfl⟩) n hn)))
    obtain ⟨b, o, spot⟩ := a
    obtain ⟨⟨vl0, _, h00⟩, _⟩ := hp 0 (l[0]'h0) (List.getElem?_eq_getElem h0)
    have h00' := h00 0 (by omega)
    have hs : spot = none := by simpa [Addr.add] using World.cell?_spot (h00'.trans rfl)
    subst hs
    refine ⟨b, o, rfl, by have := block_of (h00'.trans rfl); rw [add_plain] at this; exact this, fun j y hj => ?_⟩
    obtain ⟨⟨vl, hfl, hc⟩, _⟩ := hp j y hj
    have e : ∀ k, k < 9 -> w.cell? ⟨b, o + j * 9 + k, none⟩ = (ndArr y vl).toList[k]? := fun k hk => by
      have := hc k hk; rw [add_plain] at this; rw [show o + j * 9 + k = o + (j * 9 + k) by omega]; exact this
    exact ⟨vl, hfl, e 0 (by omega), e 1 (by omega), e 2 (by omega), e 3 (by omega), e 4 (by omega), e 5 (by omega), e 6 (by omega), e 7 (by omega), e 8 (by omega)⟩
theorem open_expr {fuel : Nat} {cs : List Value} {x : DataW H × List MemPlace} (h : DataW.trod enc Tryz.prog w base spare held fuel 25 cs = some x) : ∃ v l, cs = [v] /\ Nodes w.heap.size w v l /\ (Light 25 x.1 -> ∀ y ∈ l, Fit y) := by
  obtain ⟨ys, n', _, hx, hlen, hyl, hf⟩ := DataW.trod_struct Tryz.underlying25 h
  rw [c24] at hlen
  obtain ⟨v0, y0, e0, z0, t0⟩ := one_field (t := 23) (j := 0) (N := 1) c22 hlen hyl (by omega) (hf 0 _ rfl)
  obtain ⟨l, hl, hlf⟩ := open_nodes t0
  match cs, hlen with
  | [a], _ =>
    simp at e0
    refine ⟨v0, l, by rw [e0], hl, fun hw => hlf fun n hn => hw n ?_⟩
    rw [hx, DataW.weights, Tryz.underlying25]
    exact DataW.weights_mem_each (ts := [23]) (j := 0) (t := 23) rfl (by rw [List.getElem?_map, z0]; rfl) n hn
end
end Go.Proofs.YtjakeidbajkdcaaGreatDoor.T
