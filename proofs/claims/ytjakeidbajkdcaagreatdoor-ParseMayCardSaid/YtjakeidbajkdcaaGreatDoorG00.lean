/- Joined by program: TData, TMath, TUp, TPost, TKids. -/
import Derived.Test.YtjakeidbajkdcaaGreatDoorProg
import Derived.WalkKit
import Derived.OwnWalk
import Derived.LoopTactic
import Derived.Lib.Hide
import Derived.Outline
import Derived.WalkSmall
import Derived.RangeFuncBox
/- A program's nodes, as plain data and as they lie in memory. -/
namespace Go.Proofs.YtjakeidbajkdcaaGreatDoor.T
open Go.RowKit
structure Fld where
  nm : ByteArray
  vr : ByteArray
  pl : Int
structure Nd where
  kind : Int
  a : Int
  b : Int
  c : Int
  n : Int
  nm : ByteArray
  s : ByteArray
  l : List Fld
  pos : Int
/-- Fields at an address: each is three cells. -/
def FldsAt (W : World) (b o : Nat) (l : List Fld) : Prop := ∀ j f, l[j]? = some f →
  W.cell? ⟨b, o + j * 3, none⟩ = some (.string f.nm) ∧ W.cell? ⟨b, o + j * 3 + 1, none⟩ = some (.string f.vr) ∧ W.cell? ⟨b, o + j * 3 + 2, none⟩ = some (.int .i64 f.pl)
/-- A slice value holds these fields, in a block below B. -/
def Flds (B : Nat) (W : World) (v : Value) (l : List Fld) : Prop :=
  ∃ A c, v = .slice A l.length c ∧ (l.length ≤ c ∧ c ≤ 9223372036854775807) ∧ (A = none → c = 0) ∧ (0 < l.length → ∃ b o, A = some ⟨b, o, none⟩ ∧ b < B ∧ FldsAt W b o l)
/-- A node's nine cells, but for its parts' slice. -/
def ndArr (x : Nd) (v : Value) : Array Value := #[.int .i64 x.kind, .int .i64 x.a, .int .i64 x.b, .int .i64 x.c, .int .i64 x.n, .string x.nm, .string x.s, v, .int .i64 x.pos]
/-- A node at an address: nine cells, its parts in a block below B. -/
def NdAt (B : Nat) (W : World) (b o : Nat) (x : Nd) : Prop := ∃ v, Flds B W v x.l ∧
  W.cell? ⟨b, o, none⟩ = some (.int .i64 x.kind) ∧ W.cell? ⟨b, o + 1, none⟩ = some (.int .i64 x.a) ∧ W.cell? ⟨b, o + 2, none⟩ = some (.int .i64 x.b) ∧ W.cell? ⟨b, o + 3, none⟩ = some (.int .i64 x.c) ∧ W.cell? ⟨b, o + 4, none⟩ = some (.int .i64 x.n) ∧
  W.cell? ⟨b, o + 5, none⟩ = some (.string x.nm) ∧ W.cell? ⟨b, o + 6, none⟩ = some (.string x.s) ∧ W.cell? ⟨b, o + 7, none⟩ = some v ∧ W.cell? ⟨b, o + 8, none⟩ = some (.int .i64 x.pos)
/-- A slice value holds these nodes, in blocks below B. -/
def Nodes (B : Nat) (W : World) (v : Value) (l : List Nd) : Prop :=
  ∃ A c, v = .slice A l.length c ∧ (l.length ≤ c ∧ c ≤ 9223372036854775807) ∧ (A = none → c = 0) ∧ (0 < l.length → ∃ b o, A = some ⟨b, o, none⟩ ∧ b < B ∧ ∀ j x, l[j]? = some x → NdAt B W b (o + j * 9) x)
theorem FldsAt.below {B : Nat} {W W' : World} {b o : Nat} {l : List Fld} (h : FldsAt W b o l) (hb : Below B W W') (hlt : b < B) : FldsAt W' b o l := fun j f hj => by
  obtain ⟨h0, h1, h2⟩ := h j f hj
  exact ⟨(hb.cell (p := ⟨b, _, none⟩) hlt).trans h0, (hb.cell (p := ⟨b, _, none⟩) hlt).trans h1, (hb.cell (p := ⟨b, _, none⟩) hlt).trans h2⟩
theorem Flds.below {B : Nat} {W W' : World} {v : Value} {l : List Fld} (h : Flds B W v l) (hb : Below B W W') : Flds B W' v l := by
  obtain ⟨A, c, h1, h2, h3, h4⟩ := h
  exact ⟨A, c, h1, h2, h3, fun hl => by obtain ⟨b, o, e1, e2, e3⟩ := h4 hl; exact ⟨b, o, e1, e2, e3.below hb e2⟩⟩
theorem Flds.mono {B B' : Nat} {W : World} {v : Value} {l : List Fld} (h : Flds B W v l) (hb : B ≤ B') : Flds B' W v l := by
  obtain ⟨A, c, h1, h2, h3, h4⟩ := h
  exact ⟨A, c, h1, h2, h3, fun hl => by obtain ⟨b, o, e1, e2, e3⟩ := h4 hl; exact ⟨b, o, e1, by omega, e3⟩⟩
theorem NdAt.below {B : Nat} {W W' : World} {b o : Nat} {x : Nd} (h : NdAt B W b o x) (hb : Below B W W') (hlt : b < B) : NdAt B W' b o x := by
  obtain ⟨v, hv, h0, h1, h2, h3, h4, h5, h6, h7, h8⟩ := h
  have e : ∀ k, W'.cell? ⟨b, k, none⟩ = W.cell? ⟨b, k, none⟩ := fun k => hb.cell (p := ⟨b, k, none⟩) hlt
  exact ⟨v, hv.below hb, (e _).trans h0, (e _).trans h1, (e _).trans h2, (e _).trans h3, (e _).trans h4, (e _).trans h5, (e _).trans h6, (e _).trans h7, (e _).trans h8⟩
theorem NdAt.mono {B B' : Nat} {W : World} {b o : Nat} {x : Nd} (h : NdAt B W b o x) (hb : B ≤ B') : NdAt B' W b o x := by
  obtain ⟨v, hv, h⟩ := h
  exact ⟨v, hv.mono hb, h⟩
theorem Nodes.below {B : Nat} {W W' : World} {v : Value} {l : List Nd} (h : Nodes B W v l) (hb : Below B W W') : Nodes B W' v l := by
  obtain ⟨A, c, h1, h2, h3, h4⟩ := h
  exact ⟨A, c, h1, h2, h3, fun hl => by obtain ⟨b, o, e1, e2, e3⟩ := h4 hl; exact ⟨b, o, e1, e2, fun j x hj => (e3 j x hj).below hb e2⟩⟩
theorem Nodes.mono {B B' : Nat} {W : World} {v : Value} {l : List Nd} (h : Nodes B W v l) (hb : B ≤ B') : Nodes B' W v l := by
  obtain ⟨A, c, h1, h2, h3, h4⟩ := h
  exact ⟨A, c, h1, h2, h3, fun hl => by obtain ⟨b, o, e1, e2, e3⟩ := h4 hl; exact ⟨b, o, e1, by omega, fun j x hj => (e3 j x hj).mono hb⟩⟩
/-- A node's children, in order. -/
def kids0 (x : Nd) : List Int :=
  if x.kind = 5 ∨ x.kind = 12 ∨ x.kind = 13 ∨ x.kind = 14 then [x.a] else if x.kind = 6 ∨ x.kind = 7 ∨ x.kind = 8 ∨ x.kind = 10 then [x.a, x.b] else if x.kind = 9 then [x.a, x.b, x.c] else []
def many (x : Nd) : Bool := decide (x.kind = 11 ∨ x.kind = 14)
def kids (x : Nd) : List Int := kids0 x ++ if many x = true then x.l.map Fld.pl else []
end Go.Proofs.YtjakeidbajkdcaaGreatDoor.T
/- Trees in plain mathematics: how deep, which may be, what is below a node, in order. -/
namespace Go.Proofs.YtjakeidbajkdcaaGreatDoor.T
open Go.RowKit
/-- How deep a node is, of the depths of those ahead of it. -/
def dp (ds : List Nat) (x : Nd) : Nat := ((kids x).map fun k => ds.getD k.toNat 0).foldl max 0 + 1
def deeps (l : List Nd) : List Nat := l.foldl (fun ds x => ds ++ [dp ds x]) []
theorem deeps_snoc (l : List Nd) (x : Nd) : deeps (l ++ [x]) = deeps l ++ [dp (deeps l) x] := by simp [deeps]
theorem snocInd {α : Type} {P : List α → Prop} (h0 : P []) (h1 : ∀ l x, P l → P (l ++ [x])) (l : List α) : P l := by
  have h : ∀ n (l : List α), l.length = n → P l := by
    intro n
    induction n with
    | zero => intro l hl; rw [List.length_eq_zero_iff.1 hl]; exact h0
    | succ n ih =>
      intro l hl
      have hne : l ≠ [] := by intro e; rw [e] at hl; simp at hl
      rw [← List.dropLast_concat_getLast hne]
      exact h1 _ _ (ih _ (by simp [hl]))
  exact h _ l rfl
theorem deeps_len (l : List Nd) : (deeps l).length = l.length := by
  induction l using snocInd with
  | h0 => rfl
  | h1 l x ih => rw [deeps_snoc]; simp [ih]
theorem deeps_app (l m : List Nd) : ∃ r, deeps (l ++ m) = deeps l ++ r := by
  induction m using snocInd with
  | h0 => exact ⟨[], by simp⟩
  | h1 m x ih =>
    obtain ⟨r, hr⟩ := ih
    rw [← List.append_assoc, deeps_snoc, hr]
    exact ⟨_, List.append_assoc _ _ _⟩
theorem deeps_take (l : List Nd) (k : Nat) : deeps (l.take k) = (deeps l).take k := by
  obtain ⟨r, hr⟩ := deeps_app (l.take k) (l.drop k)
  rw [List.take_append_drop] at hr
  by_cases h : k ≤ l.length
  · have e : (deeps (l.take k)).length = k := by rw [deeps_len, List.length_take]; omega
    rw [hr, List.take_append_of_le_length (by omega)]
    exact (List.take_of_length_le (Nat.le_of_eq e)).symm
  · rw [List.take_of_length_le (by omega), List.take_of_length_le (by rw [deeps_len]; omega)]
theorem take_snoc {α : Type} (l : List α) (k : Nat) (x : α) (h : l[k]? = some x) : l.take (k + 1) = l.take k ++ [x] := by
  rw [List.take_add_one, h]; rfl
theorem lt_of_some {α : Type} {l : List α} {k : Nat} {x : α} (h : l[k]? = some x) : k < l.length := (List.getElem?_eq_some_iff.1 h).1
theorem deeps_at {l : List Nd} {i : Nat} {x : Nd} (h : l[i]? = some x) : (deeps l)[i]? = some (dp ((deeps l).take i) x) := by
  have h1 := lt_of_some h
  have h2 : (deeps l).take (i + 1) = (deeps l).take i ++ [dp ((deeps l).take i) x] := by rw [← deeps_take, take_snoc l i x h, deeps_snoc, deeps_take]
  have h3 : ((deeps l).take (i + 1))[i]? = (deeps l)[i]? := by rw [List.getElem?_take]; simp
  rw [← h3, h2, List.getElem?_append_right (by simp [deeps_len]; omega)]
  simp [deeps_len, Nat.min_eq_left (Nat.le_of_lt h1)]
/-- A node's children stand ahead of it. -/
def ahead (i : Nat) (x : Nd) : Prop := ∀ k ∈ kids x, 0 ≤ k ∧ k < (i : Int)
def kidsOk (l : List Nd) : Prop := ∀ (i : Nat) (x : Nd), l[i]? = some x → ahead i x
def allKids (l : List Nd) : List Int := l.flatMap kids
/-- Each node but the last one is a child once. -/
def onceOk (l : List Nd) : Prop := (allKids l).Nodup ∧ ∀ j : Nat, j + 1 < l.length → (j : Int) ∈ allKids l
def recAt (l : List Nd) (x : Nd) : Prop := x.kind = 8 → ∃ y, l[x.a.toNat]? = some y ∧ y.kind = 5
def recOk (l : List Nd) : Prop := ∀ (i : Nat) (x : Nd), l[i]? = some x → recAt l x
theorem allKids_snoc (l : List Nd) (x : Nd) : allKids (l ++ [x]) = allKids l ++ kids x := by simp [allKids]
theorem mem_allKids {l : List Nd} {m : Int} : m ∈ allKids l ↔ ∃ (i : Nat) (x : Nd), l[i]? = some x ∧ m ∈ kids x := by
  simp only [allKids, List.mem_flatMap]
  constructor
  · rintro ⟨x, hx, hm⟩
    obtain ⟨i, hi⟩ := List.getElem?_of_mem hx
    exact ⟨i, x, hi, hm⟩
  · rintro ⟨i, x, hi, hm⟩
    exact ⟨x, List.mem_of_getElem? hi, hm⟩
theorem nodup_at {l : List Nd} (h : (allKids l).Nodup) : ∀ {i j : Nat} {x y : Nd} {m : Int}, l[i]? = some x → l[j]? = some y → m ∈ kids x → m ∈ kids y → i = j := by
  induction l using snocInd with
  | h0 => intro i j x y m hx; simp at hx
  | h1 l z ih =>
    intro i j x y m hx hy hmx hmy
    rw [allKids_snoc, List.nodup_append] at h
    have hi := lt_of_some hx
    have hj := lt_of_some hy
    simp only [List.length_append, List.length_cons, List.length_nil] at hi hj
    have key : ∀ {i : Nat} {x : Nd}, (l ++ [z])[i]? = some x → i < l.length + (0 + 1) → (i < l.length ∧ l[i]? = some x) ∨ (i = l.length ∧ x = z) := by
      intro i x hx hi
      by_cases hl : i < l.length
      · rw [List.getElem?_append_left hl] at hx; exact .inl ⟨hl, hx⟩
      · have e : i = l.length := by omega
        subst e
        simp at hx
        exact .inr ⟨rfl, hx.symm⟩
    rcases key hx hi with ⟨h1, h2⟩ | ⟨h1, h2⟩ <;> rcases key hy hj with ⟨h3, h4⟩ | ⟨h3, h4⟩
    · exact ih h.1 h2 h4 hmx hmy
    · exact absurd rfl (h.2.2 m (mem_allKids.2 ⟨i, x, h2, hmx⟩) m (h4 ▸ hmy))
    · exact absurd rfl (h.2.2 m (mem_allKids.2 ⟨j, y, h4, hmy⟩) m (h2 ▸ hmx))
    · omega
theorem kids_nodup {l : List Nd} (h : (allKids l).Nodup) {i : Nat} {x : Nd} (hx : l[i]? = some x) : (kids x).Nodup := by
  induction l using snocInd with
  | h0 => simp at hx
  | h1 l z ih =>
    rw [allKids_snoc, List.nodup_append] at h
    by_cases hl : i < l.length
    · rw [List.getElem?_append_left hl] at hx; exact ih h.1 hx
    · have hi := lt_of_some hx
      simp only [List.length_append, List.length_cons, List.length_nil] at hi
      have e : i = l.length := by omega
      subst e
      simp at hx
      exact hx ▸ h.2.1
/-- A node with other children. -/
def own (x : Nd) : Nat := (kids0 x).length
def relab (l : List Fld) (ks : List Int) : List Fld := List.zipWith (fun f k => { f with pl := k }) l ks
def wk (x : Nd) (ks : List Int) : Nd :=
  { x with a := if 0 < own x then ks.getD 0 0 else 0, b := if 1 < own x then ks.getD 1 0 else 0, c := if 2 < own x then ks.getD 2 0 else 0, l := if many x = true then relab x.l (ks.drop (own x)) else [] }
/-- What is below a node, in order, behind others. -/
def cp (l : List Nd) (i : Nat) (out : List Nd) : List Nd :=
  match l[i]? with
  | none => out
  | some x =>
    let r := (kids x).foldl (fun (p : List Nd × List Int) k => if _h : k.toNat < i then (let o := cp l k.toNat p.1; (o, p.2 ++ [(o.length : Int) - 1])) else p) (out, [])
    r.1 ++ [wk x r.2]
termination_by i
/-- The places of what is below a node, in order, and its own. -/
def post (l : List Nd) (i : Nat) : List Nat :=
  match l[i]? with
  | none => []
  | some x => ((kids x).flatMap fun k => if _h : k.toNat < i then post l k.toNat else []) ++ [i]
termination_by i
/-- The copies of some children, and their places. -/
def cps (l : List Nd) (p : List Nd × List Int) (ks : List Int) : List Nd × List Int :=
  ks.foldl (fun p k => (cp l k.toNat p.1, p.2 ++ [((cp l k.toNat p.1).length : Int) - 1])) p
theorem cps_snoc (l : List Nd) (p : List Nd × List Int) (ks : List Int) (k : Int) : cps l p (ks ++ [k]) = (cp l k.toNat (cps l p ks).1, (cps l p ks).2 ++ [((cp l k.toNat (cps l p ks).1).length : Int) - 1]) := by simp [cps]
theorem toNat_lt {k : Int} {i : Nat} (h : 0 ≤ k ∧ k < (i : Int)) : k.toNat < i := by omega
theorem cp_eq {l : List Nd} {i : Nat} {x : Nd} (h : l[i]? = some x) (ha : ahead i x) (out : List Nd) : cp l i out = (cps l (out, []) (kids x)).1 ++ [wk x (cps l (out, []) (kids x)).2] := by
  rw [cp, h]
  have e : ∀ (ks : List Int) (p : List Nd × List Int), (∀ k ∈ ks, 0 ≤ k ∧ k < (i : Int)) → ks.foldl (fun (p : List Nd × List Int) k => if _h : k.toNat < i then (cp l k.toNat p.1, p.2 ++ [((cp l k.toNat p.1).length : Int) - 1]) else p) p = cps l p ks := by
    intro ks
    induction ks with
    | nil => intro p _; rfl
    | cons k ks ih =>
      intro p hks
      have h1 := toNat_lt (hks k (by simp))
      simp only [List.foldl_cons, cps]
      rw [dif_pos h1]
      exact ih _ fun m hm => hks m (by simp [hm])
  have e' := e (kids x) (out, []) ha
  simp only [e']
theorem post_eq {l : List Nd} {i : Nat} {x : Nd} (h : l[i]? = some x) (ha : ahead i x) : post l i = ((kids x).flatMap fun k => post l k.toNat) ++ [i] := by
  rw [post, h]
  simp only []
  congr 1
  have e : ∀ ks : List Int, (∀ k ∈ ks, 0 ≤ k ∧ k < (i : Int)) → (ks.flatMap fun k => if _h : k.toNat < i then post l k.toNat else []) = ks.flatMap fun k => post l k.toNat := by
    intro ks
    induction ks with
    | nil => intro _; rfl
    | cons k ks ih =>
      intro hks
      have h1 := toNat_lt (hks k (by simp))
      simp only [List.flatMap_cons]
      rw [dif_pos h1, ih fun m hm => hks m (by simp [hm])]
  exact e _ ha
/-- All that is below a node stands ahead of it. -/
theorem post_le {l : List Nd} (hk : kidsOk l) : ∀ i, i < l.length → ∀ m ∈ post l i, m ≤ i := by
  intro i
  induction i using Nat.strongRecOn with
  | ind i ih =>
    intro hi m hm
    rw [post_eq (List.getElem?_eq_getElem hi) (hk _ _ (List.getElem?_eq_getElem hi))] at hm
    simp only [List.mem_append, List.mem_flatMap, List.mem_singleton] at hm
    rcases hm with ⟨k, hk1, hk2⟩ | rfl
    · have h1 := toNat_lt (hk _ _ (List.getElem?_eq_getElem hi) k hk1)
      have := ih _ h1 (by omega) m hk2
      omega
    · omega
theorem post_up {l : List Nd} (hk : kidsOk l) : ∀ i, i < l.length → ∀ m ∈ post l i, m = i ∨ ∃ (p : Nat) (x : Nd), p ∈ post l i ∧ l[p]? = some x ∧ (m : Int) ∈ kids x := by
  intro i
  induction i using Nat.strongRecOn with
  | ind i ih =>
    intro hi m hm
    have hx := List.getElem?_eq_getElem hi
    have ha := hk _ _ hx
    have hm' := hm
    rw [post_eq hx ha] at hm'
    simp only [List.mem_append, List.mem_flatMap, List.mem_singleton] at hm'
    rcases hm' with ⟨k, hk1, hk2⟩ | rfl
    · have h1 := toNat_lt (ha k hk1)
      have hsub : ∀ q ∈ post l k.toNat, q ∈ post l i := by
        intro q hq
        rw [post_eq hx ha]
        simp only [List.mem_append, List.mem_flatMap]
        exact .inl ⟨k, hk1, hq⟩
      rcases ih _ h1 (by omega) m hk2 with rfl | ⟨p, x, hp, hpx, hpk⟩
      · refine .inr ⟨i, _, ?_, hx, ?_⟩
        · rw [post_eq hx ha]; simp
        · have := (ha k hk1).1; rw [Int.toNat_of_nonneg this]; exact hk1
      · exact .inr ⟨p, x, hsub p hp, hpx, hpk⟩
    · exact .inl rfl
/-- A child lies below no other child of the same node. -/
theorem apart {l : List Nd} (hk : kidsOk l) (hn : (allKids l).Nodup) {i : Nat} {x : Nd} (hx : l[i]? = some x) {k m : Int} (h1 : k ∈ kids x) (h2 : m ∈ kids x) (hne : m ≠ k) : m.toNat ∉ post l k.toNat := by
  intro hm
  have ha := hk _ _ hx
  have hk1 := toNat_lt (ha k h1)
  have hi := lt_of_some hx
  have e1 := (ha k h1).1
  have e2 := (ha m h2).1
  rcases post_up hk k.toNat (by omega) _ hm with h | ⟨p, y, hp, hy, hpk⟩
  · exact hne (by omega)
  · rw [Int.toNat_of_nonneg e2] at hpk
    have := nodup_at hn hx hy h2 hpk
    have := post_le hk k.toNat (by omega) p hp
    omega
/-- What the places told one by one make. -/
def stp (l : List Nd) (s : List Nd × List Int) (p : Nat) : List Nd × List Int :=
  match l[p]? with
  | none => s
  | some x => (s.1 ++ [wk x ((kids x).map fun k => s.2.getD k.toNat 0)], s.2.set p (s.1.length : Int))
theorem stp_post {l : List Nd} (hk : kidsOk l) (hn : (allKids l).Nodup) : ∀ i, i < l.length → ∀ s : List Nd × List Int, s.2.length = l.length →
    ((post l i).foldl (stp l) s).1 = cp l i s.1 ∧ ((post l i).foldl (stp l) s).2.length = l.length ∧ ((post l i).foldl (stp l) s).2.getD i 0 = ((cp l i s.1).length : Int) - 1 ∧ ∀ m, m ∉ post l i → ((post l i).foldl (stp l) s).2.getD m 0 = s.2.getD m 0 := by
  intro i
  induction i using Nat.strongRecOn with
  | ind i ih =>
    intro hi s hs
    have hx := List.getElem?_eq_getElem hi
    generalize l[i] = x at hx
    have ha := hk _ _ hx
    -- the children, one by one
    have key : ∀ (done rest : List Int), done ++ rest = kids x → ∀ s' : List Nd × List Int, s' = (done.flatMap fun k => post l k.toNat).foldl (stp l) s →
        s'.1 = (cps l (s.1, []) done).1 ∧ s'.2.length = l.length ∧ done.map (fun k => s'.2.getD k.toNat 0) = (cps l (s.1, []) done).2 ∧ ∀ m, m ∉ (done.flatMap fun k => post l k.toNat) → s'.2.getD m 0 = s.2.getD m 0 := by
      intro done
      induction done using snocInd with
      | h0 => rintro rest _ s' rfl; exact ⟨rfl, hs, rfl, fun _ _ => rfl⟩
      | h1 done k ihd =>
        intro rest hr s' hs'
        have hkx : k ∈ kids x := by rw [← hr]; simp
        obtain ⟨a1, a2, a3, a4⟩ := ihd (k :: rest) (by rw [← hr]; simp) _ rfl
        rw [List.flatMap_append, List.foldl_append] at hs'
        simp only [List.flatMap_cons, List.flatMap_nil, List.append_nil] at hs'
        have h1 := toNat_lt (ha k hkx)
        obtain ⟨b1, b2, b3, b4⟩ := ih _ h1 (by omega) _ a2
        rw [← hs'] at b1 b2 b3 b4
        rw [a1] at b1 b3
        refine ⟨by rw [cps_snoc]; exact b1, b2, ?_, ?_⟩
        · rw [cps_snoc, List.map_append]
          simp only [List.map_cons, List.map_nil]
          rw [b3, ← a3]
          congr 1
          apply List.map_congr_left
          intro m hm
          apply b4
          have hmx : m ∈ kids x := by rw [← hr]; simp [hm]
          apply apart hk hn hx hkx hmx
          have := kids_nodup hn hx
          rw [← hr, List.append_assoc, List.nodup_append] at this
          exact this.2.2 m hm k (by simp)
        · intro m hm
          rw [List.flatMap_append, List.mem_append] at hm
          simp only [List.flatMap_cons, List.flatMap_nil, List.append_nil, not_or] at hm
          rw [b4 m hm.2, a4 m hm.1]
    obtain ⟨a1, a2, a3, a4⟩ := key (kids x) [] (by simp) _ rfl
    rw [post_eq hx ha, List.foldl_append, cp_eq hx ha]
    generalize hS : ((kids x).flatMap fun k => post l k.toNat).foldl (stp l) s = S at a1 a2 a3 a4
    simp only [List.foldl_cons, List.foldl_nil, stp, hx, a3, a1]
    refine ⟨trivial, by simp [a2], ?_, ?_⟩
    · rw [List.getD_eq_getElem?_getD, List.getElem?_set_self (by omega)]
      simp
    · intro m hm
      simp only [List.mem_append, List.mem_singleton, not_or] at hm
      rw [List.getD_eq_getElem?_getD, List.getElem?_set_ne (Ne.symm hm.2), ← List.getD_eq_getElem?_getD]
      exact a4 m hm.1
end Go.Proofs.YtjakeidbajkdcaaGreatDoor.T
/- Parents, in plain mathematics. -/
namespace Go.Proofs.YtjakeidbajkdcaaGreatDoor.T
open Go.RowKit
/-- Each child with its parent. -/
def prs (l : List Nd) : List (Int × Nat) := l.zipIdx.flatMap fun p => (kids p.1).map fun k => (k, p.2)
theorem prs_snoc (l : List Nd) (x : Nd) : prs (l ++ [x]) = prs l ++ (kids x).map fun k => (k, l.length) := by simp [prs, List.zipIdx_append]
theorem prs_fst (l : List Nd) : (prs l).map Prod.fst = allKids l := by
  induction l using snocInd with
  | h0 => rfl
  | h1 l x ih => rw [prs_snoc, allKids_snoc, List.map_append, ih]; congr 1; simp [Function.comp_def]
def UInv (n : Nat) (P : List (Int × Nat)) (U : List Int) : Prop :=
  U.length = n ∧ (P.map Prod.fst).Nodup ∧ (∀ p ∈ P, 0 ≤ p.1 ∧ p.1 < (n : Int) ∧ U[p.1.toNat]? = some (p.2 : Int)) ∧ ∀ m : Nat, m < n → (m : Int) ∉ P.map Prod.fst → U[m]? = some (-1)
theorem UInv.start (n : Nat) : UInv n [] (List.replicate n (-1)) := ⟨by simp, by simp, by simp, fun m hm _ => by simp [hm]⟩
theorem UInv.step {n : Nat} {P : List (Int × Nat)} {U : List Int} (h : UInv n P U) {k i : Nat} (hk : k < n) (hn : (k : Int) ∉ P.map Prod.fst) : UInv n (P ++ [((k : Int), i)]) (U.set k (i : Int)) := by
  obtain ⟨h1, h2, h3, h4⟩ := h
  refine ⟨by simp [h1], ?_, ?_, ?_⟩
  · rw [List.map_append, List.nodup_append]
    refine ⟨h2, by simp, ?_⟩
    intro a ha b hb e
    simp only [List.map_cons, List.map_nil, List.mem_singleton] at hb
    subst e hb
    exact hn ha
  · intro p hp
    rw [List.mem_append, List.mem_singleton] at hp
    rcases hp with hp | rfl
    · obtain ⟨a1, a2, a3⟩ := h3 p hp
      refine ⟨a1, a2, ?_⟩
      have hne : k ≠ p.1.toNat := by
        intro e
        apply hn
        have : p.1 = (k : Int) := by omega
        rw [← this]
        exact List.mem_map_of_mem hp
      rw [List.getElem?_set_ne hne]; exact a3
    · refine ⟨by simp, by simpa using hk, ?_⟩
      simp only [Int.toNat_natCast]
      rw [List.getElem?_set_self (by omega)]
  · intro m hm hnm
    rw [List.map_append, List.mem_append, not_or] at hnm
    have hne : k ≠ m := by
      rintro rfl
      exact hnm.2 (by simp)
    rw [List.getElem?_set_ne hne]
    exact h4 m hm hnm.1
theorem UInv.old {n : Nat} {P : List (Int × Nat)} {U : List Int} (h : UInv n P U) {k : Nat} (hk : k < n) {z : Int} (hz : U[k]? = some z) : 0 ≤ z ↔ (k : Int) ∈ P.map Prod.fst := by
  obtain ⟨h1, h2, h3, h4⟩ := h
  constructor
  · intro h0
    refine Classical.byContradiction fun hn => ?_
    rw [h4 k hk hn] at hz
    injection hz with hz
    omega
  · intro hm
    obtain ⟨p, hp, he⟩ := List.mem_map.1 hm
    obtain ⟨a1, a2, a3⟩ := h3 p hp
    rw [he] at a3
    simp only [Int.toNat_natCast] at a3
    rw [a3] at hz
    injection hz with hz
    omega
theorem UInv.fin {l : List Nd} {U : List Int} (h : UInv l.length (prs l) U) : (U.take (l.length - 1)).contains (-1) = false ↔ ∀ j : Nat, j + 1 < l.length → (j : Int) ∈ allKids l := by
  have hf := prs_fst l
  rw [← hf]
  constructor
  · intro hc j hj
    refine Classical.byContradiction fun hn => ?_
    have h1 := h.2.2.2 j (by omega) hn
    have : (-1 : Int) ∈ U.take (l.length - 1) := List.mem_of_getElem? (i := j) (by rw [List.getElem?_take, if_pos (by omega), h1])
    simp [this] at hc
  · intro hall
    simp only [List.contains_eq_mem, decide_eq_false_iff_not]
    intro hm
    obtain ⟨j, hj⟩ := List.getElem?_of_mem hm
    rw [List.getElem?_take] at hj
    split at hj
    · rename_i hlt
      have := (h.old (k := j) (by omega) hj).2 (hall j (by omega))
      omega
    · cases hj
theorem UInv.nodup {l : List Nd} {U : List Int} {n : Nat} (h : UInv n (prs l) U) : (allKids l).Nodup := by rw [← prs_fst]; exact h.2.1
theorem prs_take {l : List Nd} {i : Nat} {x : Nd} (h : l[i]? = some x) : prs (l.take (i + 1)) = prs (l.take i) ++ (kids x).map fun k => (k, i) := by
  rw [take_snoc l i x h, prs_snoc]
  have := lt_of_some h
  rw [List.length_take, Nat.min_eq_left (by omega)]
/-- A child that is one already. -/
theorem not_nodup {l : List Nd} {i j : Nat} {x : Nd} {k : Int} (hx : l[i]? = some x) (hk : (kids x)[j]? = some k) (hm : k ∈ (prs (l.take i) ++ ((kids x).take j).map fun k => (k, i)).map Prod.fst) : ¬ (allKids l).Nodup := by
  intro hn
  rw [List.map_append, prs_fst, List.mem_append] at hm
  rcases hm with hm | hm
  · obtain ⟨i', x', hx', hm'⟩ := mem_allKids.1 hm
    rw [List.getElem?_take] at hx'
    split at hx'
    · rename_i hlt
      have := nodup_at hn hx' hx hm' (List.mem_of_getElem? hk)
      omega
    · cases hx'
  · rw [List.map_map] at hm
    have hm2 : k ∈ (kids x).take j := by
      obtain ⟨a, ha, e⟩ := List.mem_map.1 hm
      simp at e
      exact e ▸ ha
    have h1 := kids_nodup hn hx
    obtain ⟨j', hj'⟩ := List.getElem?_of_mem hm2
    rw [List.getElem?_take] at hj'
    split at hj'
    · rename_i hlt
      have h2 := (List.getElem?_inj (i := j') (j := j) (lt_of_some hj') h1).1 (hj'.trans hk.symm)
      omega
    · cases hj'
end Go.Proofs.YtjakeidbajkdcaaGreatDoor.T
/- What is below a node is told once each: not too many. -/
namespace Go.Proofs.YtjakeidbajkdcaaGreatDoor.T
open Go.RowKit
theorem pigeon : ∀ (n : Nat) (ms : List Nat), ms.Nodup → (∀ m ∈ ms, m < n) → ms.length ≤ n
  | 0, ms, _, h => by
    cases ms with
    | nil => simp
    | cons m ms => exact absurd (h m (by simp)) (by omega)
  | n + 1, ms, hn, h => by
    have h2 := pigeon n (ms.erase n) (hn.erase n) (fun m hm => by
      have h3 := (hn.mem_erase_iff).1 hm
      have := h m h3.2
      have := h3.1
      omega)
    by_cases hm : n ∈ ms
    · rw [List.length_erase_of_mem hm] at h2; omega
    · rw [List.erase_of_not_mem hm] at h2; omega
theorem post_disj {l : List Nd} (hk : kidsOk l) (hn : (allKids l).Nodup) {i : Nat} {x : Nd} (hx : l[i]? = some x) {k m : Int} (h1 : k ∈ kids x) (h2 : m ∈ kids x) (hne : m ≠ k) : ∀ d q : Nat, k.toNat - q ≤ d → q ∈ post l k.toNat → q ∈ post l m.toNat → False := by
  have ha := hk _ _ hx
  have hi := lt_of_some hx
  have hkl := toNat_lt (ha k h1)
  have hml := toNat_lt (ha m h2)
  intro d
  induction d with
  | zero =>
    intro q hd hq1 hq2
    have := post_le hk _ (by omega) q hq1
    have e : q = k.toNat := by omega
    rw [e] at hq2
    exact apart hk hn hx h2 h1 (fun h => hne h.symm) hq2
  | succ d ih =>
    intro q hd hq1 hq2
    rcases post_up hk _ (by omega) q hq1 with e | ⟨p, y, hp, hy, hpk⟩
    · rw [e] at hq2
      exact apart hk hn hx h2 h1 (fun h => hne h.symm) hq2
    · rcases post_up hk _ (by omega) q hq2 with e | ⟨p', y', hp', hy', hpk'⟩
      · rw [e] at hq1
        exact apart hk hn hx h1 h2 hne hq1
      · have e := nodup_at hn hy hy' hpk hpk'
        subst e
        have hlt := (hk _ _ hy _ hpk).2
        have := post_le hk _ (by omega) p hp
        exact ih p (by omega) hp hp'
theorem post_nodup {l : List Nd} (hk : kidsOk l) (hn : (allKids l).Nodup) : ∀ i, i < l.length → (post l i).Nodup := by
  intro i
  induction i using Nat.strongRecOn with
  | ind i ih =>
    intro hi
    have hx := List.getElem?_eq_getElem hi
    generalize l[i] = x at hx
    have ha := hk _ _ hx
    rw [post_eq hx ha, List.nodup_append]
    refine ⟨?_, by simp, ?_⟩
    · have hkn := kids_nodup hn hx
      have key : ∀ ks : List Int, ks.Nodup → (∀ k ∈ ks, k ∈ kids x) → (ks.flatMap fun k => post l k.toNat).Nodup := by
        intro ks
        induction ks with
        | nil => intro _ _; simp
        | cons k ks ihk =>
          intro h1 h2
          rw [List.flatMap_cons, List.nodup_append]
          rw [List.nodup_cons] at h1
          have hk1 := toNat_lt (ha k (h2 k (by simp)))
          refine ⟨ih _ hk1 (by omega), ihk h1.2 (fun m hm => h2 m (by simp [hm])), ?_⟩
          intro a hA b hB e
          subst e
          obtain ⟨m, hm, hB⟩ := List.mem_flatMap.1 hB
          exact post_disj hk hn hx (h2 k (by simp)) (h2 m (by simp [hm])) (fun e => h1.1 (e ▸ hm)) _ a (Nat.le_refl _) hA hB
      exact key _ hkn (fun k h => h)
    · intro a hA b hB e
      simp only [List.mem_singleton] at hB
      obtain ⟨k, hkx, hA⟩ := List.mem_flatMap.1 hA
      have hk1 := toNat_lt (ha k hkx)
      have := post_le hk _ (by omega) a hA
      omega
theorem post_len {l : List Nd} (hk : kidsOk l) (hn : (allKids l).Nodup) {i : Nat} (hi : i < l.length) : (post l i).length ≤ l.length :=
  pigeon _ _ (post_nodup hk hn i hi) (fun m hm => by have := post_le hk i hi m hm; omega)
theorem stp_len (l : List Nd) (ps : List Nat) : ∀ s : List Nd × List Int, (ps.foldl (stp l) s).1.length ≤ s.1.length + ps.length ∧ (ps.foldl (stp l) s).2.length = s.2.length := by
  induction ps with
  | nil => intro s; simp
  | cons p ps ih =>
    intro s
    rw [List.foldl_cons]
    have h1 := ih (stp l s p)
    have h2 : (stp l s p).1.length ≤ s.1.length + 1 ∧ (stp l s p).2.length = s.2.length := by
      unfold stp
      split
      · exact ⟨by omega, rfl⟩
      · exact ⟨by simp, by simp⟩
    rw [List.length_cons]
    exact ⟨by omega, by omega⟩
end Go.Proofs.YtjakeidbajkdcaaGreatDoor.T
/- Kids, the document's: the places of a node's children. -/
namespace Go.Proofs.YtjakeidbajkdcaaGreatDoor.T
open Go.RowKit
theorem row_new {B : Nat} (w : World) (cs : Array Value) (t : TypeId) (hB : B ≤ w.heap.size) (hm : cs.size ≤ maxLen) : (w.alloc (.cells cs t)).ownsRow B t 1 (.slice (some ⟨w.heap.size, 0, none⟩) cs.size cs.size) cs.size cs.toList :=
  ⟨by simp, .inr ⟨w.heap.size, cs.size, cs, rfl, hB, heap_alloc_new w _, Nat.le_refl _, hm, by simp, by rw [Nat.mul_one]; exact List.take_of_length_le (by simp)⟩⟩
theorem row_mono {B B' : Nat} {W : World} {e : TypeId} {size : Nat} {v : Value} {n : Nat} {xs : List Value} (h : W.ownsRow B' e size v n xs) (hB : B ≤ B') : W.ownsRow B e size v n xs := by
  refine ⟨h.1, ?_⟩
  rcases h.2 with h | ⟨g, cap, cur, h1, h2, h3⟩
  · exact .inl h
  · exact .inr ⟨g, cap, cur, h1, Nat.le_trans hB h2, h3⟩
theorem intInfo : (Tryz.prog.info? 3).map (fun i => (i.zero, i.size, i.bytes)) = some (some (.int .i64 0), 1, 8) := by kernel_rfl
/-- A row of whole numbers of the call's own. -/
def Ints (B : Nat) (W : World) (v : Value) (l : List Int) : Prop := W.ownsRow B 3 1 v l.length (l.map (Value.int .i64))
theorem Ints.new {B : Nat} (w : World) (l : List Int) (hB : B ≤ w.heap.size) (hm : l.length ≤ maxLen) : Ints B (w.alloc (.cells (l.map (Value.int .i64)).toArray 3)) (.slice (some ⟨w.heap.size, 0, none⟩) l.length l.length) l := by
  have := row_new (B := B) w (l.map (Value.int .i64)).toArray 3 hB (by simpa using hm)
  simpa [Ints] using this
theorem Ints.at {B : Nat} (w : World) (p n : Nat) (l : List Int) (hp : p = w.heap.size) (hn : n = l.length) (hB : B ≤ w.heap.size) (hm : l.length ≤ maxLen) : Ints B (w.alloc (.cells (l.map (Value.int .i64)).toArray 3)) (.slice (some ⟨p, 0, none⟩) n n) l := by
  subst hp hn; exact Ints.new w l hB hm
/-- What Kids answers. -/
def KidsPost (l : List Int) (B : Nat) (w : World) (e : Ending) (w' : World) : Prop := ∃ g c, e = .returned (.slice (some ⟨g, 0, none⟩) l.length c) ∧ Ints B w' (.slice (some ⟨g, 0, none⟩) l.length c) l ∧ Below B w w'
theorem KidsPost.of {l : List Int} {B : Nat} {w w' : World} {e : Ending} {v : Value} (he : e = .returned v) (g n c : Nat) (hv : v = .slice (some ⟨g, 0, none⟩) n c) (hn : n = l.length) (hi : Ints B w' v l) (hb : Below B w w') : KidsPost l B w e w' := by
  subst he hv hn; exact ⟨g, c, rfl, hi, hb⟩
theorem below3 {B : Nat} {w : World} (hB : B ≤ w.heap.size) (o1 o2 o3 : Obj) : Below B w (((w.alloc o1).alloc o2).alloc o3) :=
  (((Below.refl B w).alloc hB _).alloc (by simp; omega) _).alloc (by simp; omega) _
theorem pl_take (l : List Fld) (k : Nat) (f : Fld) (h : l[k]? = some f) : (l.take (k + 1)).map Fld.pl = (l.take k).map Fld.pl ++ [f.pl] := by
  have hk : k < l.length := (List.getElem?_eq_some_iff.1 h).1
  rw [List.take_succ_eq_append_getElem hk, List.map_append]
  have : l[k] = f := (List.getElem?_eq_some_iff.1 h).2
  simp [this]
theorem new1 (W : World) (t : TypeId) (v : Value) (j : Nat) (u : Value) (h : [v][j]? = some u) : (W.alloc (.cells #[v] t)).cell? ((⟨W.heap.size, 0, none⟩ : Addr).add j) = some u := by
  cases j with
  | zero =>
    rw [List.getElem?_cons_zero] at h
    rw [Addr.add_lit, World.cell?, heap_alloc_new]
    simpa using h
  | succ j => simp at h
end Go.Proofs.YtjakeidbajkdcaaGreatDoor.T
