/- Joined by program: TData, TMath, TUp, TPost, SMath. -/
import Derived.Test.YteikpeaakmbihaaDoorProg
import Derived.WalkKit
import Derived.OwnWalk
import Derived.LoopTactic
import Derived.Lib.Hide
import Derived.Outline
import Derived.WalkSmall
/- A program's nodes, as plain data and as they lie in memory. -/
namespace Go.Proofs.YteikpeaakmbihaaDoor.T
open Go.RowKit
structure Fld where
  nm : ByteArray
  vr : ByteArray
  pl : Int
structure Nd where
  kind : Int
  a : Int
  b : Int
  c : Int
  n : Int
  nm : ByteArray
  s : ByteArray
  l : List Fld
  pos : Int
/-- Fields at an address: each is three cells. -/
def FldsAt (W : World) (b o : Nat) (l : List Fld) : Prop := ∀ j f, l[j]? = some f →
  W.cell? ⟨b, o + j * 3, none⟩ = some (.string f.nm) ∧ W.cell? ⟨b, o + j * 3 + 1, none⟩ = some (.string f.vr) ∧ W.cell? ⟨b, o + j * 3 + 2, none⟩ = some (.int .i64 f.pl)
/-- A slice value holds these fields, in a block below B. -/
def Flds (B : Nat) (W : World) (v : Value) (l : List Fld) : Prop :=
  ∃ A c, v = .slice A l.length c ∧ (l.length ≤ c ∧ c ≤ 9223372036854775807) ∧ (A = none → c = 0) ∧ (0 < l.length → ∃ b o, A = some ⟨b, o, none⟩ ∧ b < B ∧ FldsAt W b o l)
/-- A node's nine cells, but for its parts' slice. -/
def ndArr (x : Nd) (v : Value) : Array Value := #[.int .i64 x.kind, .int .i64 x.a, .int .i64 x.b, .int .i64 x.c, .int .i64 x.n, .string x.nm, .string x.s, v, .int .i64 x.pos]
/-- A node at an address: nine cells, its parts in a block below B. -/
def NdAt (B : Nat) (W : World) (b o : Nat) (x : Nd) : Prop := ∃ v, Flds B W v x.l ∧
  W.cell? ⟨b, o, none⟩ = some (.int .i64 x.kind) ∧ W.cell? ⟨b, o + 1, none⟩ = some (.int .i64 x.a) ∧ W.cell? ⟨b, o + 2, none⟩ = some (.int .i64 x.b) ∧ W.cell? ⟨b, o + 3, none⟩ = some (.int .i64 x.c) ∧ W.cell? ⟨b, o + 4, none⟩ = some (.int .i64 x.n) ∧
  W.cell? ⟨b, o + 5, none⟩ = some (.string x.nm) ∧ W.cell? ⟨b, o + 6, none⟩ = some (.string x.s) ∧ W.cell? ⟨b, o + 7, none⟩ = some v ∧ W.cell? ⟨b, o + 8, none⟩ = some (.int .i64 x.pos)
/-- A slice value holds these nodes, in blocks below B. -/
def Nodes (B : Nat) (W : World) (v : Value) (l : List Nd) : Prop :=
  ∃ A c, v = .slice A l.length c ∧ (l.length ≤ c ∧ c ≤ 9223372036854775807) ∧ (A = none → c = 0) ∧ (0 < l.length → ∃ b o, A = some ⟨b, o, none⟩ ∧ b < B ∧ ∀ j x, l[j]? = some x → NdAt B W b (o + j * 9) x)
theorem FldsAt.below {B : Nat} {W W' : World} {b o : Nat} {l : List Fld} (h : FldsAt W b o l) (hb : Below B W W') (hlt : b < B) : FldsAt W' b o l := fun j f hj => by
  obtain ⟨h0, h1, h2⟩ := h j f hj
  exact ⟨(hb.cell (p := ⟨b, _, none⟩) hlt).trans h0, (hb.cell (p := ⟨b, _, none⟩) hlt).trans h1, (hb.cell (p := ⟨b, _, none⟩) hlt).trans h2⟩
theorem Flds.below {B : Nat} {W W' : World} {v : Value} {l : List Fld} (h : Flds B W v l) (hb : Below B W W') : Flds B W' v l := by
  obtain ⟨A, c, h1, h2, h3, h4⟩ := h
  exact ⟨A, c, h1, h2, h3, fun hl => by obtain ⟨b, o, e1, e2, e3⟩ := h4 hl; exact ⟨b, o, e1, e2, e3.below hb e2⟩⟩
theorem Flds.mono {B B' : Nat} {W : World} {v : Value} {l : List Fld} (h : Flds B W v l) (hb : B ≤ B') : Flds B' W v l := by
  obtain ⟨A, c, h1, h2, h3, h4⟩ := h
  exact ⟨A, c, h1, h2, h3, fun hl => by obtain ⟨b, o, e1, e2, e3⟩ := h4 hl; exact ⟨b, o, e1, by omega, e3⟩⟩
theorem NdAt.below {B : Nat} {W W' : World} {b o : Nat} {x : Nd} (h : NdAt B W b o x) (hb : Below B W W') (hlt : b < B) : NdAt B W' b o x := by
  obtain ⟨v, hv, h0, h1, h2, h3, h4, h5, h6, h7, h8⟩ := h
  have e : ∀ k, W'.cell? ⟨b, k, none⟩ = W.cell? ⟨b, k, none⟩ := fun k => hb.cell (p := ⟨b, k, none⟩) hlt
  exact ⟨v, hv.below hb, (e _).trans h0, (e _).trans h1, (e _).trans h2, (e _).trans h3, (e _).trans h4, (e _).trans h5, (e _).trans h6, (e _).trans h7, (e _).trans h8⟩
theorem NdAt.mono {B B' : Nat} {W : World} {b o : Nat} {x : Nd} (h : NdAt B W b o x) (hb : B ≤ B') : NdAt B' W b o x := by
  obtain ⟨v, hv, h⟩ := h
  exact ⟨v, hv.mono hb, h⟩
theorem Nodes.below {B : Nat} {W W' : World} {v : Value} {l : List Nd} (h : Nodes B W v l) (hb : Below B W W') : Nodes B W' v l := by
  obtain ⟨A, c, h1, h2, h3, h4⟩ := h
  exact ⟨A, c, h1, h2, h3, fun hl => by obtain ⟨b, o, e1, e2, e3⟩ := h4 hl; exact ⟨b, o, e1, e2, fun j x hj => (e3 j x hj).below hb e2⟩⟩
theorem Nodes.mono {B B' : Nat} {W : World} {v : Value} {l : List Nd} (h : Nodes B W v l) (hb : B ≤ B') : Nodes B' W v l := by
  obtain ⟨A, c, h1, h2, h3, h4⟩ := h
  exact ⟨A, c, h1, h2, h3, fun hl => by obtain ⟨b, o, e1, e2, e3⟩ := h4 hl; exact ⟨b, o, e1, by omega, fun j x hj => (e3 j x hj).mono hb⟩⟩
/-- A node's children, in order. -/
def kids0 (x : Nd) : List Int :=
  if x.kind = 5 ∨ x.kind = 12 ∨ x.kind = 13 ∨ x.kind = 14 then [x.a] else if x.kind = 6 ∨ x.kind = 7 ∨ x.kind = 8 ∨ x.kind = 10 then [x.a, x.b] else if x.kind = 9 then [x.a, x.b, x.c] else []
def many (x : Nd) : Bool := decide (x.kind = 11 ∨ x.kind = 14)
def kids (x : Nd) : List Int := kids0 x ++ if many x = true then x.l.map Fld.pl else []
end Go.Proofs.YteikpeaakmbihaaDoor.T
/- Trees in plain mathematics: how deep, which may be, what is below a node, in order. -/
namespace Go.Proofs.YteikpeaakmbihaaDoor.T
open Go.RowKit
/-- How deep a node is, of the depths of those ahead of it. -/
def dp (ds : List Nat) (x : Nd) : Nat := ((kids x).map fun k => ds.getD k.toNat 0).foldl max 0 + 1
def deeps (l : List Nd) : List Nat := l.foldl (fun ds x => ds ++ [dp ds x]) []
theorem deeps_snoc (l : List Nd) (x : Nd) : deeps (l ++ [x]) = deeps l ++ [dp (deeps l) x] := by simp [deeps]
theorem snocInd {α : Type} {P : List α → Prop} (h0 : P []) (h1 : ∀ l x, P l → P (l ++ [x])) (l : List α) : P l := by
  have h : ∀ n (l : List α), l.length = n → P l := by
    intro n
    induction n with
    | zero => intro l hl; rw [List.length_eq_zero_iff.1 hl]; exact h0
    | succ n ih =>
      intro l hl
      have hne : l ≠ [] := by intro e; rw [e] at hl; simp at hl
      rw [← List.dropLast_concat_getLast hne]
      exact h1 _ _ (ih _ (by simp [hl]))
  exact h _ l rfl
theorem deeps_len (l : List Nd) : (deeps l).length = l.length := by
  induction l using snocInd with
  | h0 => rfl
  | h1 l x ih => rw [deeps_snoc]; simp [ih]
theorem deeps_app (l m : List Nd) : ∃ r, deeps (l ++ m) = deeps l ++ r := by
  induction m using snocInd with
  | h0 => exact ⟨[], by simp⟩
  | h1 m x ih =>
    obtain ⟨r, hr⟩ := ih
    rw [← List.append_assoc, deeps_snoc, hr]
    exact ⟨_, List.append_assoc _ _ _⟩
theorem deeps_take (l : List Nd) (k : Nat) : deeps (l.take k) = (deeps l).take k := by
  obtain ⟨r, hr⟩ := deeps_app (l.take k) (l.drop k)
  rw [List.take_append_drop] at hr
  by_cases h : k ≤ l.length
  · have e : (deeps (l.take k)).length = k := by rw [deeps_len, List.length_take]; omega
    rw [hr, List.take_append_of_le_length (by omega)]
    exact (List.take_of_length_le (Nat.le_of_eq e)).symm
  · rw [List.take_of_length_le (by omega), List.take_of_length_le (by rw [deeps_len]; omega)]
theorem take_snoc {α : Type} (l : List α) (k : Nat) (x : α) (h : l[k]? = some x) : l.take (k + 1) = l.take k ++ [x] := by
  rw [List.take_add_one, h]; rfl
theorem lt_of_some {α : Type} {l : List α} {k : Nat} {x : α} (h : l[k]? = some x) : k < l.length := (List.getElem?_eq_some_iff.1 h).1
theorem deeps_at {l : List Nd} {i : Nat} {x : Nd} (h : l[i]? = some x) : (deeps l)[i]? = some (dp ((deeps l).take i) x) := by
  have h1 := lt_of_some h
  have h2 : (deeps l).take (i + 1) = (deeps l).take i ++ [dp ((deeps l).take i) x] := by rw [← deeps_take, take_snoc l i x h, deeps_snoc, deeps_take]
  have h3 : ((deeps l).take (i + 1))[i]? = (deeps l)[i]? := by rw [List.getElem?_take]; simp
  rw [← h3, h2, List.getElem?_append_right (by simp [deeps_len]; omega)]
  simp [deeps_len, Nat.min_eq_left (Nat.le_of_lt h1)]
/-- A node's children stand ahead of it. -/
def ahead (i : Nat) (x : Nd) : Prop := ∀ k ∈ kids x, 0 ≤ k ∧ k < (i : Int)
def kidsOk (l : List Nd) : Prop := ∀ (i : Nat) (x : Nd), l[i]? = some x → ahead i x
def allKids (l : List Nd) : List Int := l.flatMap kids
/-- Each node but the last one is a child once. -/
def onceOk (l : List Nd) : Prop := (allKids l).Nodup ∧ ∀ j : Nat, j + 1 < l.length → (j : Int) ∈ allKids l
def recAt (l : List Nd) (x : Nd) : Prop := x.kind = 8 → ∃ y, l[x.a.toNat]? = some y ∧ y.kind = 5
def recOk (l : List Nd) : Prop := ∀ (i : Nat) (x : Nd), l[i]? = some x → recAt l x
theorem allKids_snoc (l : List Nd) (x : Nd) : allKids (l ++ [x]) = allKids l ++ kids x := by simp [allKids]
theorem mem_allKids {l : List Nd} {m : Int} : m ∈ allKids l ↔ ∃ (i : Nat) (x : Nd), l[i]? = some x ∧ m ∈ kids x := by
  simp only [allKids, List.mem_flatMap]
  constructor
  · rintro ⟨x, hx, hm⟩
    obtain ⟨i, hi⟩ := List.getElem?_of_mem hx
    exact ⟨i, x, hi, hm⟩
  · rintro ⟨i, x, hi, hm⟩
    exact ⟨x, List.mem_of_getElem? hi, hm⟩
theorem nodup_at {l : List Nd} (h : (allKids l).Nodup) : ∀ {i j : Nat} {x y : Nd} {m : Int}, l[i]? = some x → l[j]? = some y → m ∈ kids x → m ∈ kids y → i = j := by
  induction l using snocInd with
  | h0 => intro i j x y m hx; simp at hx
  | h1 l z ih =>
    intro i j x y m hx hy hmx hmy
    rw [allKids_snoc, List.nodup_append] at h
    have hi := lt_of_some hx
    have hj := lt_of_some hy
    simp only [List.length_append, List.length_cons, List.length_nil] at hi hj
    have key : ∀ {i : Nat} {x : Nd}, (l ++ [z])[i]? = some x → i < l.length + (0 + 1) → (i < l.length ∧ l[i]? = some x) ∨ (i = l.length ∧ x = z) := by
      intro i x hx hi
      by_cases hl : i < l.length
      · rw [List.getElem?_append_left hl] at hx; exact .inl ⟨hl, hx⟩
      · have e : i = l.length := by omega
        subst e
        simp at hx
        exact .inr ⟨rfl, hx.symm⟩
    rcases key hx hi with ⟨h1, h2⟩ | ⟨h1, h2⟩ <;> rcases key hy hj with ⟨h3, h4⟩ | ⟨h3, h4⟩
    · exact ih h.1 h2 h4 hmx hmy
    · exact absurd rfl (h.2.2 m (mem_allKids.2 ⟨i, x, h2, hmx⟩) m (h4 ▸ hmy))
    · exact absurd rfl (h.2.2 m (mem_allKids.2 ⟨j, y, h4, hmy⟩) m (h2 ▸ hmx))
    · omega
theorem kids_nodup {l : List Nd} (h : (allKids l).Nodup) {i : Nat} {x : Nd} (hx : l[i]? = some x) : (kids x).Nodup := by
  induction l using snocInd with
  | h0 => simp at hx
  | h1 l z ih =>
    rw [allKids_snoc, List.nodup_append] at h
    by_cases hl : i < l.length
    · rw [List.getElem?_append_left hl] at hx; exact ih h.1 hx
    · have hi := lt_of_some hx
      simp only [List.length_append, List.length_cons, List.length_nil] at hi
      have e : i = l.length := by omega
      subst e
      simp at hx
      exact hx ▸ h.2.1
/-- A node with other children. -/
def own (x : Nd) : Nat := (kids0 x).length
def relab (l : List Fld) (ks : List Int) : List Fld := List.zipWith (fun f k => { f with pl := k }) l ks
def wk (x : Nd) (ks : List Int) : Nd :=
  { x with a := if 0 < own x then ks.getD 0 0 else 0, b := if 1 < own x then ks.getD 1 0 else 0, c := if 2 < own x then ks.getD 2 0 else 0, l := if many x = true then relab x.l (ks.drop (own x)) else [] }
/-- What is below a node, in order, behind others. -/
def cp (l : List Nd) (i : Nat) (out : List Nd) : List Nd :=
  match l[i]? with
  | none => out
  | some x =>
    let r := (kids x).foldl (fun (p : List Nd × List Int) k => if _h : k.toNat < i then (let o := cp l k.toNat p.1; (o, p.2 ++ [(o.length : Int) - 1])) else p) (out, [])
    r.1 ++ [wk x r.2]
termination_by i
/-- The places of what is below a node, in order, and its own. -/
def post (l : List Nd) (i : Nat) : List Nat :=
  match l[i]? with
  | none => []
  | some x => ((kids x).flatMap fun k => if _h : k.toNat < i then post l k.toNat else []) ++ [i]
termination_by i
/-- The copies of some children, and their places. -/
def cps (l : List Nd) (p : List Nd × List Int) (ks : List Int) : List Nd × List Int :=
  ks.foldl (fun p k => (cp l k.toNat p.1, p.2 ++ [((cp l k.toNat p.1).length : Int) - 1])) p
theorem cps_snoc (l : List Nd) (p : List Nd × List Int) (ks : List Int) (k : Int) : cps l p (ks ++ [k]) = (cp l k.toNat (cps l p ks).1, (cps l p ks).2 ++ [((cp l k.toNat (cps l p ks).1).length : Int) - 1]) := by simp [cps]
theorem toNat_lt {k : Int} {i : Nat} (h : 0 ≤ k ∧ k < (i : Int)) : k.toNat < i := by omega
theorem cp_eq {l : List Nd} {i : Nat} {x : Nd} (h : l[i]? = some x) (ha : ahead i x) (out : List Nd) : cp l i out = (cps l (out, []) (kids x)).1 ++ [wk x (cps l (out, []) (kids x)).2] := by
  rw [cp, h]
  have e : ∀ (ks : List Int) (p : List Nd × List Int), (∀ k ∈ ks, 0 ≤ k ∧ k < (i : Int)) → ks.foldl (fun (p : List Nd × List Int) k => if _h : k.toNat < i then (cp l k.toNat p.1, p.2 ++ [((cp l k.toNat p.1).length : Int) - 1]) else p) p = cps l p ks := by
    intro ks
    induction ks with
    | nil => intro p _; rfl
    | cons k ks ih =>
      intro p hks
      have h1 := toNat_lt (hks k (by simp))
      simp only [List.foldl_cons, cps]
      rw [dif_pos h1]
      exact ih _ fun m hm => hks m (by simp [hm])
  have e' := e (kids x) (out, []) ha
  simp only [e']
theorem post_eq {l : List Nd} {i : Nat} {x : Nd} (h : l[i]? = some x) (ha : ahead i x) : post l i = ((kids x).flatMap fun k => post l k.toNat) ++ [i] := by
  rw [post, h]
  simp only []
  congr 1
  have e : ∀ ks : List Int, (∀ k ∈ ks, 0 ≤ k ∧ k < (i : Int)) → (ks.flatMap fun k => if _h : k.toNat < i then post l k.toNat else []) = ks.flatMap fun k => post l k.toNat := by
    intro ks
    induction ks with
    | nil => intro _; rfl
    | cons k ks ih =>
      intro hks
      have h1 := toNat_lt (hks k (by simp))
      simp only [List.flatMap_cons]
      rw [dif_pos h1, ih fun m hm => hks m (by simp [hm])]
  exact e _ ha
/-- A node's copy stands last. -/
theorem cp_ne {l : List Nd} (hk : kidsOk l) {i : Nat} (hi : i < l.length) (out : List Nd) : ∃ m y, cp l i out = m ++ [y] := by
  rw [cp_eq (List.getElem?_eq_getElem hi) (hk _ _ (List.getElem?_eq_getElem hi))]
  exact ⟨_, _, rfl⟩
/-- All that is below a node stands ahead of it. -/
theorem post_le {l : List Nd} (hk : kidsOk l) : ∀ i, i < l.length → ∀ m ∈ post l i, m ≤ i := by
  intro i
  induction i using Nat.strongRecOn with
  | ind i ih =>
    intro hi m hm
    rw [post_eq (List.getElem?_eq_getElem hi) (hk _ _ (List.getElem?_eq_getElem hi))] at hm
    simp only [List.mem_append, List.mem_flatMap, List.mem_singleton] at hm
    rcases hm with ⟨k, hk1, hk2⟩ | rfl
    · have h1 := toNat_lt (hk _ _ (List.getElem?_eq_getElem hi) k hk1)
      have := ih _ h1 (by omega) m hk2
      omega
    · omega
theorem post_up {l : List Nd} (hk : kidsOk l) : ∀ i, i < l.length → ∀ m ∈ post l i, m = i ∨ ∃ (p : Nat) (x : Nd), p ∈ post l i ∧ l[p]? = some x ∧ (m : Int) ∈ kids x := by
  intro i
  induction i using Nat.strongRecOn with
  | ind i ih =>
    intro hi m hm
    have hx := List.getElem?_eq_getElem hi
    have ha := hk _ _ hx
    have hm' := hm
    rw [post_eq hx ha] at hm'
    simp only [List.mem_append, List.mem_flatMap, List.mem_singleton] at hm'
    rcases hm' with ⟨k, hk1, hk2⟩ | rfl
    · have h1 := toNat_lt (ha k hk1)
      have hsub : ∀ q ∈ post l k.toNat, q ∈ post l i := by
        intro q hq
        rw [post_eq hx ha]
        simp only [List.mem_append, List.mem_flatMap]
        exact .inl ⟨k, hk1, hq⟩
      rcases ih _ h1 (by omega) m hk2 with rfl | ⟨p, x, hp, hpx, hpk⟩
      · refine .inr ⟨i, _, ?_, hx, ?_⟩
        · rw [post_eq hx ha]; simp
        · have := (ha k hk1).1; rw [Int.toNat_of_nonneg this]; exact hk1
      · exact .inr ⟨p, x, hsub p hp, hpx, hpk⟩
    · exact .inl rfl
/-- A child lies below no other child of the same node. -/
theorem apart {l : List Nd} (hk : kidsOk l) (hn : (allKids l).Nodup) {i : Nat} {x : Nd} (hx : l[i]? = some x) {k m : Int} (h1 : k ∈ kids x) (h2 : m ∈ kids x) (hne : m ≠ k) : m.toNat ∉ post l k.toNat := by
  intro hm
  have ha := hk _ _ hx
  have hk1 := toNat_lt (ha k h1)
  have hi := lt_of_some hx
  have e1 := (ha k h1).1
  have e2 := (ha m h2).1
  rcases post_up hk k.toNat (by omega) _ hm with h | ⟨p, y, hp, hy, hpk⟩
  · exact hne (by omega)
  · rw [Int.toNat_of_nonneg e2] at hpk
    have := nodup_at hn hx hy h2 hpk
    have := post_le hk k.toNat (by omega) p hp
    omega
/-- What the places told one by one make. -/
def stp (l : List Nd) (s : List Nd × List Int) (p : Nat) : List Nd × List Int :=
  match l[p]? with
  | none => s
  | some x => (s.1 ++ [wk x ((kids x).map fun k => s.2.getD k.toNat 0)], s.2.set p (s.1.length : Int))
theorem stp_post {l : List Nd} (hk : kidsOk l) (hn : (allKids l).Nodup) : ∀ i, i < l.length → ∀ s : List Nd × List Int, s.2.length = l.length →
    ((post l i).foldl (stp l) s).1 = cp l i s.1 ∧ ((post l i).foldl (stp l) s).2.length = l.length ∧ ((post l i).foldl (stp l) s).2.getD i 0 = ((cp l i s.1).length : Int) - 1 ∧ ∀ m, m ∉ post l i → ((post l i).foldl (stp l) s).2.getD m 0 = s.2.getD m 0 := by
  intro i
  induction i using Nat.strongRecOn with
  | ind i ih =>
    intro hi s hs
    have hx := List.getElem?_eq_getElem hi
    generalize l[i] = x at hx
    have ha := hk _ _ hx
    -- the children, one by one
    have key : ∀ (done rest : List Int), done ++ rest = kids x → ∀ s' : List Nd × List Int, s' = (done.flatMap fun k => post l k.toNat).foldl (stp l) s →
        s'.1 = (cps l (s.1, []) done).1 ∧ s'.2.length = l.length ∧ done.map (fun k => s'.2.getD k.toNat 0) = (cps l (s.1, []) done).2 ∧ ∀ m, m ∉ (done.flatMap fun k => post l k.toNat) → s'.2.getD m 0 = s.2.getD m 0 := by
      intro done
      induction done using snocInd with
      | h0 => rintro rest _ s' rfl; exact ⟨rfl, hs, rfl, fun _ _ => rfl⟩
      | h1 done k ihd =>
        intro rest hr s' hs'
        have hkx : k ∈ kids x := by rw [← hr]; simp
        obtain ⟨a1, a2, a3, a4⟩ := ihd (k :: rest) (by rw [← hr]; simp) _ rfl
        rw [List.flatMap_append, List.foldl_append] at hs'
        simp only [List.flatMap_cons, List.flatMap_nil, List.append_nil] at hs'
        have h1 := toNat_lt (ha k hkx)
        obtain ⟨b1, b2, b3, b4⟩ := ih _ h1 (by omega) _ a2
        rw [← hs'] at b1 b2 b3 b4
        rw [a1] at b1 b3
        refine ⟨by rw [cps_snoc]; exact b1, b2, ?_, ?_⟩
        · rw [cps_snoc, List.map_append]
          simp only [List.map_cons, List.map_nil]
          rw [b3, ← a3]
          congr 1
          apply List.map_congr_left
          intro m hm
          apply b4
          have hmx : m ∈ kids x := by rw [← hr]; simp [hm]
          apply apart hk hn hx hkx hmx
          have := kids_nodup hn hx
          rw [← hr, List.append_assoc, List.nodup_append] at this
          exact this.2.2 m hm k (by simp)
        · intro m hm
          rw [List.flatMap_append, List.mem_append] at hm
          simp only [List.flatMap_cons, List.flatMap_nil, List.append_nil, not_or] at hm
          rw [b4 m hm.2, a4 m hm.1]
    obtain ⟨a1, a2, a3, a4⟩ := key (kids x) [] (by simp) _ rfl
    rw [post_eq hx ha, List.foldl_append, cp_eq hx ha]
    generalize hS : ((kids x).flatMap fun k => post l k.toNat).foldl (stp l) s = S at a1 a2 a3 a4
    simp only [List.foldl_cons, List.foldl_nil, stp, hx, a3, a1]
    refine ⟨trivial, by simp [a2], ?_, ?_⟩
    · rw [List.getD_eq_getElem?_getD, List.getElem?_set_self (by omega)]
      simp
    · intro m hm
      simp only [List.mem_append, List.mem_singleton, not_or] at hm
      rw [List.getD_eq_getElem?_getD, List.getElem?_set_ne (Ne.symm hm.2), ← List.getD_eq_getElem?_getD]
      exact a4 m hm.1
end Go.Proofs.YteikpeaakmbihaaDoor.T
/- Parents, in plain mathematics. -/
namespace Go.Proofs.YteikpeaakmbihaaDoor.T
open Go.RowKit
/-- Each child with its parent. -/
def prs (l : List Nd) : List (Int × Nat) := l.zipIdx.flatMap fun p => (kids p.1).map fun k => (k, p.2)
theorem prs_snoc (l : List Nd) (x : Nd) : prs (l ++ [x]) = prs l ++ (kids x).map fun k => (k, l.length) := by simp [prs, List.zipIdx_append]
theorem prs_fst (l : List Nd) : (prs l).map Prod.fst = allKids l := by
  induction l using snocInd with
  | h0 => rfl
  | h1 l x ih => rw [prs_snoc, allKids_snoc, List.map_append, ih]; congr 1; simp [Function.comp_def]
theorem prs_mem {l : List Nd} {i : Nat} {x : Nd} {k : Int} (h : l[i]? = some x) (hk : k ∈ kids x) : (k, i) ∈ prs l := by
  simp only [prs, List.mem_flatMap, List.mem_map]
  exact ⟨(x, i), List.mem_zipIdx_iff_getElem?.2 h, k, hk, rfl⟩
def UInv (n : Nat) (P : List (Int × Nat)) (U : List Int) : Prop :=
  U.length = n ∧ (P.map Prod.fst).Nodup ∧ (∀ p ∈ P, 0 ≤ p.1 ∧ p.1 < (n : Int) ∧ U[p.1.toNat]? = some (p.2 : Int)) ∧ ∀ m : Nat, m < n → (m : Int) ∉ P.map Prod.fst → U[m]? = some (-1)
theorem UInv.start (n : Nat) : UInv n [] (List.replicate n (-1)) := ⟨by simp, by simp, by simp, fun m hm _ => by simp [hm]⟩
theorem UInv.step {n : Nat} {P : List (Int × Nat)} {U : List Int} (h : UInv n P U) {k i : Nat} (hk : k < n) (hn : (k : Int) ∉ P.map Prod.fst) : UInv n (P ++ [((k : Int), i)]) (U.set k (i : Int)) := by
  obtain ⟨h1, h2, h3, h4⟩ := h
  refine ⟨by simp [h1], ?_, ?_, ?_⟩
  · rw [List.map_append, List.nodup_append]
    refine ⟨h2, by simp, ?_⟩
    intro a ha b hb e
    simp only [List.map_cons, List.map_nil, List.mem_singleton] at hb
    subst e hb
    exact hn ha
  · intro p hp
    rw [List.mem_append, List.mem_singleton] at hp
    rcases hp with hp | rfl
    · obtain ⟨a1, a2, a3⟩ := h3 p hp
      refine ⟨a1, a2, ?_⟩
      have hne : k ≠ p.1.toNat := by
        intro e
        apply hn
        have : p.1 = (k : Int) := by omega
        rw [← this]
        exact List.mem_map_of_mem hp
      rw [List.getElem?_set_ne hne]; exact a3
    · refine ⟨by simp, by simpa using hk, ?_⟩
      simp only [Int.toNat_natCast]
      rw [List.getElem?_set_self (by omega)]
  · intro m hm hnm
    rw [List.map_append, List.mem_append, not_or] at hnm
    have hne : k ≠ m := by
      rintro rfl
      exact hnm.2 (by simp)
    rw [List.getElem?_set_ne hne]
    exact h4 m hm hnm.1
theorem UInv.old {n : Nat} {P : List (Int × Nat)} {U : List Int} (h : UInv n P U) {k : Nat} (hk : k < n) {z : Int} (hz : U[k]? = some z) : 0 ≤ z ↔ (k : Int) ∈ P.map Prod.fst := by
  obtain ⟨h1, h2, h3, h4⟩ := h
  constructor
  · intro h0
    refine Classical.byContradiction fun hn => ?_
    rw [h4 k hk hn] at hz
    injection hz with hz
    omega
  · intro hm
    obtain ⟨p, hp, he⟩ := List.mem_map.1 hm
    obtain ⟨a1, a2, a3⟩ := h3 p hp
    rw [he] at a3
    simp only [Int.toNat_natCast] at a3
    rw [a3] at hz
    injection hz with hz
    omega
theorem UInv.fin {l : List Nd} {U : List Int} (h : UInv l.length (prs l) U) : (U.take (l.length - 1)).contains (-1) = false ↔ ∀ j : Nat, j + 1 < l.length → (j : Int) ∈ allKids l := by
  have hf := prs_fst l
  rw [← hf]
  constructor
  · intro hc j hj
    refine Classical.byContradiction fun hn => ?_
    have h1 := h.2.2.2 j (by omega) hn
    have : (-1 : Int) ∈ U.take (l.length - 1) := List.mem_of_getElem? (i := j) (by rw [List.getElem?_take, if_pos (by omega), h1])
    simp [this] at hc
  · intro hall
    simp only [List.contains_eq_mem, decide_eq_false_iff_not]
    intro hm
    obtain ⟨j, hj⟩ := List.getElem?_of_mem hm
    rw [List.getElem?_take] at hj
    split at hj
    · rename_i hlt
      have := (h.old (k := j) (by omega) hj).2 (hall j (by omega))
      omega
    · cases hj
theorem UInv.root {l : List Nd} {U : List Int} (h : UInv l.length (prs l) U) (hk : kidsOk l) (h0 : 0 < l.length) : U[l.length - 1]? = some (-1) := by
  apply h.2.2.2 _ (by omega)
  rw [prs_fst, mem_allKids]
  rintro ⟨i, x, hx, hm⟩
  have h1 := lt_of_some hx
  have h2 := (hk i x hx _ hm).2
  omega
theorem UInv.par {l : List Nd} {U : List Int} {n : Nat} (h : UInv n (prs l) U) {i : Nat} {x : Nd} (hx : l[i]? = some x) {k : Int} (hk : k ∈ kids x) : U[k.toNat]? = some (i : Int) := (h.2.2.1 _ (prs_mem hx hk)).2.2
theorem UInv.nodup {l : List Nd} {U : List Int} {n : Nat} (h : UInv n (prs l) U) : (allKids l).Nodup := by rw [← prs_fst]; exact h.2.1
theorem prs_take {l : List Nd} {i : Nat} {x : Nd} (h : l[i]? = some x) : prs (l.take (i + 1)) = prs (l.take i) ++ (kids x).map fun k => (k, i) := by
  rw [take_snoc l i x h, prs_snoc]
  have := lt_of_some h
  rw [List.length_take, Nat.min_eq_left (by omega)]
/-- A child that is one already. -/
theorem not_nodup {l : List Nd} {i j : Nat} {x : Nd} {k : Int} (hx : l[i]? = some x) (hk : (kids x)[j]? = some k) (hm : k ∈ (prs (l.take i) ++ ((kids x).take j).map fun k => (k, i)).map Prod.fst) : ¬ (allKids l).Nodup := by
  intro hn
  rw [List.map_append, prs_fst, List.mem_append] at hm
  rcases hm with hm | hm
  · obtain ⟨i', x', hx', hm'⟩ := mem_allKids.1 hm
    rw [List.getElem?_take] at hx'
    split at hx'
    · rename_i hlt
      have := nodup_at hn hx' hx hm' (List.mem_of_getElem? hk)
      omega
    · cases hx'
  · rw [List.map_map] at hm
    have hm2 : k ∈ (kids x).take j := by
      obtain ⟨a, ha, e⟩ := List.mem_map.1 hm
      simp at e
      exact e ▸ ha
    have h1 := kids_nodup hn hx
    obtain ⟨j', hj'⟩ := List.getElem?_of_mem hm2
    rw [List.getElem?_take] at hj'
    split at hj'
    · rename_i hlt
      have h2 := (List.getElem?_inj (i := j') (j := j) (lt_of_some hj') h1).1 (hj'.trans hk.symm)
      omega
    · cases hj'
end Go.Proofs.YteikpeaakmbihaaDoor.T
/- What is below a node is told once each: not too many. -/
namespace Go.Proofs.YteikpeaakmbihaaDoor.T
open Go.RowKit
theorem pigeon : ∀ (n : Nat) (ms : List Nat), ms.Nodup → (∀ m ∈ ms, m < n) → ms.length ≤ n
  | 0, ms, _, h => by
    cases ms with
    | nil => simp
    | cons m ms => exact absurd (h m (by simp)) (by omega)
  | n + 1, ms, hn, h => by
    have h2 := pigeon n (ms.erase n) (hn.erase n) (fun m hm => by
      have h3 := (hn.mem_erase_iff).1 hm
      have := h m h3.2
      have := h3.1
      omega)
    by_cases hm : n ∈ ms
    · rw [List.length_erase_of_mem hm] at h2; omega
    · rw [List.erase_of_not_mem hm] at h2; omega
theorem post_disj {l : List Nd} (hk : kidsOk l) (hn : (allKids l).Nodup) {i : Nat} {x : Nd} (hx : l[i]? = some x) {k m : Int} (h1 : k ∈ kids x) (h2 : m ∈ kids x) (hne : m ≠ k) : ∀ d q : Nat, k.toNat - q ≤ d → q ∈ post l k.toNat → q ∈ post l m.toNat → False := by
  have ha := hk _ _ hx
  have hi := lt_of_some hx
  have hkl := toNat_lt (ha k h1)
  have hml := toNat_lt (ha m h2)
  intro d
  induction d with
  | zero =>
    intro q hd hq1 hq2
    have := post_le hk _ (by omega) q hq1
    have e : q = k.toNat := by omega
    rw [e] at hq2
    exact apart hk hn hx h2 h1 (fun h => hne h.symm) hq2
  | succ d ih =>
    intro q hd hq1 hq2
    rcases post_up hk _ (by omega) q hq1 with e | ⟨p, y, hp, hy, hpk⟩
    · rw [e] at hq2
      exact apart hk hn hx h2 h1 (fun h => hne h.symm) hq2
    · rcases post_up hk _ (by omega) q hq2 with e | ⟨p', y', hp', hy', hpk'⟩
      · rw [e] at hq1
        exact apart hk hn hx h1 h2 hne hq1
      · have e := nodup_at hn hy hy' hpk hpk'
        subst e
        have hlt := (hk _ _ hy _ hpk).2
        have := post_le hk _ (by omega) p hp
        exact ih p (by omega) hp hp'
theorem post_nodup {l : List Nd} (hk : kidsOk l) (hn : (allKids l).Nodup) : ∀ i, i < l.length → (post l i).Nodup := by
  intro i
  induction i using Nat.strongRecOn with
  | ind i ih =>
    intro hi
    have hx := List.getElem?_eq_getElem hi
    generalize l[i] = x at hx
    have ha := hk _ _ hx
    rw [post_eq hx ha, List.nodup_append]
    refine ⟨?_, by simp, ?_⟩
    · have hkn := kids_nodup hn hx
      have key : ∀ ks : List Int, ks.Nodup → (∀ k ∈ ks, k ∈ kids x) → (ks.flatMap fun k => post l k.toNat).Nodup := by
        intro ks
        induction ks with
        | nil => intro _ _; simp
        | cons k ks ihk =>
          intro h1 h2
          rw [List.flatMap_cons, List.nodup_append]
          rw [List.nodup_cons] at h1
          have hk1 := toNat_lt (ha k (h2 k (by simp)))
          refine ⟨ih _ hk1 (by omega), ihk h1.2 (fun m hm => h2 m (by simp [hm])), ?_⟩
          intro a hA b hB e
          subst e
          obtain ⟨m, hm, hB⟩ := List.mem_flatMap.1 hB
          exact post_disj hk hn hx (h2 k (by simp)) (h2 m (by simp [hm])) (fun e => h1.1 (e ▸ hm)) _ a (Nat.le_refl _) hA hB
      exact key _ hkn (fun k h => h)
    · intro a hA b hB e
      simp only [List.mem_singleton] at hB
      obtain ⟨k, hkx, hA⟩ := List.mem_flatMap.1 hA
      have hk1 := toNat_lt (ha k hkx)
      have := post_le hk _ (by omega) a hA
      omega
theorem post_len {l : List Nd} (hk : kidsOk l) (hn : (allKids l).Nodup) {i : Nat} (hi : i < l.length) : (post l i).length ≤ l.length :=
  pigeon _ _ (post_nodup hk hn i hi) (fun m hm => by have := post_le hk i hi m hm; omega)
theorem stp_len (l : List Nd) (ps : List Nat) : ∀ s : List Nd × List Int, (ps.foldl (stp l) s).1.length ≤ s.1.length + ps.length ∧ (ps.foldl (stp l) s).2.length = s.2.length := by
  induction ps with
  | nil => intro s; simp
  | cons p ps ih =>
    intro s
    rw [List.foldl_cons]
    have h1 := ih (stp l s p)
    have h2 : (stp l s p).1.length ≤ s.1.length + 1 ∧ (stp l s p).2.length = s.2.length := by
      unfold stp
      split
      · exact ⟨by omega, rfl⟩
      · exact ⟨by simp, by simp⟩
    rw [List.length_cons]
    exact ⟨by omega, by omega⟩
end Go.Proofs.YteikpeaakmbihaaDoor.T
/- Scope: reaches and binders, the plain mathematics. -/
namespace Go.Proofs.YteikpeaakmbihaaDoor.T
/-- The reach of one binder's name. -/
structure Rch where
  nm : ByteArray
  nd : Int
  br : Int
/-- The innermost one of a name. -/
def look : List Rch → ByteArray → Int × Int
  | [], _ => (-1, -1)
  | r :: rs, s => if (r.nm.toList == s.toList) = true then (r.nd, r.br) else look rs s
def vrAt (x : Nd) (k : Nat) : ByteArray := (x.l[k]?.map Fld.vr).getD ⟨#[]⟩
/-- Where the k-th child stands. -/
def ofK (x : Nd) (i k : Nat) (env : List Rch) : List Rch :=
  if x.kind = 5 ∨ x.kind = 8 then ⟨x.nm, i, -1⟩ :: env
  else if x.kind = 7 then (if k = 1 then ⟨x.nm, i, -1⟩ :: env else env)
  else if x.kind = 14 then (if 0 < k then ⟨vrAt x (k - 1), i, (k : Int) - 1⟩ :: env else env)
  else env
/-- Binders below a node, laid into a row. -/
def dn (l : List Nd) (i : Nat) (env : List Rch) (xs : List (Int × Int)) : List (Int × Int) :=
  match l[i]? with
  | none => xs
  | some x => (kids x).zipIdx.foldl (fun xs (p : Int × Nat) => if _h : p.1.toNat < i then dn l p.1.toNat (ofK x i p.2 env) xs else xs) (if x.kind = 4 then xs.set i (look env x.nm) else xs)
termination_by i
def dns (l : List Nd) (x : Nd) (i : Nat) (env : List Rch) (ps : List (Int × Nat)) (xs : List (Int × Int)) : List (Int × Int) :=
  ps.foldl (fun xs p => dn l p.1.toNat (ofK x i p.2 env) xs) xs
theorem dns_snoc (l : List Nd) (x : Nd) (i : Nat) (env : List Rch) (ps : List (Int × Nat)) (p : Int × Nat) (xs : List (Int × Int)) : dns l x i env (ps ++ [p]) xs = dn l p.1.toNat (ofK x i p.2 env) (dns l x i env ps xs) := by simp [dns]
theorem foldl_same {α β : Type} {f g : β → α → β} : ∀ (l : List α) (b : β), (∀ a ∈ l, ∀ b, f b a = g b a) → l.foldl f b = l.foldl g b
  | [], _, _ => rfl
  | a :: l, b, h => by rw [List.foldl_cons, List.foldl_cons, h a (by simp)]; exact foldl_same l _ fun a' ha b' => h a' (by simp [ha]) b'
theorem dn_eq {l : List Nd} {i : Nat} {x : Nd} (h : l[i]? = some x) (ha : ahead i x) (env : List Rch) (xs : List (Int × Int)) : dn l i env xs = dns l x i env (kids x).zipIdx (if x.kind = 4 then xs.set i (look env x.nm) else xs) := by
  rw [dn, h]
  refine foldl_same _ _ fun p hp b => ?_
  have hm : p.1 ∈ kids x := by
    have := List.mem_zipIdx hp
    exact List.mem_of_getElem (this.2.2.symm)
  have := ha _ hm
  rw [dif_pos (by omega)]
/-- Does a node bind a name for a child? which branch it is. -/
def bnd (x : Nd) (c : Int) (s : ByteArray) : Int :=
  if (x.nm.toList == s.toList) = true ∧ (x.kind = 5 ∨ x.kind = 7 ∧ c = x.b ∨ x.kind = 8) then -1
  else if x.kind = 14 then (match x.l.findIdx? (fun f => f.pl == c && f.vr.toList == s.toList) with | some k => (k : Int) | none => -2) else -2
theorem look_ofK {x : Nd} (hn : (kids x).Nodup) {i j : Nat} {c : Int} (hc : (kids x)[j]? = some c) (env : List Rch) (s : ByteArray) :
    look (ofK x i j env) s = if -2 < bnd x c s then ((i : Int), bnd x c s) else look env s := by
  by_cases h5 : x.kind = 5 ∨ x.kind = 8
  · rw [ofK, if_pos h5]
    have h14 : x.kind ≠ 14 := by omega
    by_cases hs : (x.nm.toList == s.toList) = true
    · have e : bnd x c s = -1 := by rw [bnd, if_pos ⟨hs, by omega⟩]
      rw [e, look, if_pos hs, if_pos (by omega)]
    · have e : bnd x c s = -2 := by rw [bnd, if_neg (fun h => hs h.1), if_neg h14]
      rw [e, look, if_neg hs, if_neg (by omega)]
  · by_cases h7 : x.kind = 7
    · have hk : kids x = [x.a, x.b] := by simp [kids, kids0, many, h7]
      rw [hk] at hc hn
      rw [ofK, if_neg h5, if_pos h7]
      match j, hc with
      | 0, hc =>
        obtain rfl : x.a = c := by simpa using hc
        have hab : x.a ≠ x.b := by intro h; rw [h] at hn; simp at hn
        have e : bnd x x.a s = -2 := by rw [bnd, if_neg (by rintro ⟨_, h | h | h⟩ <;> omega), if_neg (by omega)]
        rw [e, if_neg (by omega), if_neg (by omega)]
      | 1, hc =>
        obtain rfl : x.b = c := by simpa using hc
        rw [if_pos rfl]
        by_cases hs : (x.nm.toList == s.toList) = true
        · have e : bnd x x.b s = -1 := by rw [bnd, if_pos ⟨hs, .inr (.inl ⟨h7, rfl⟩)⟩]
          rw [e, look, if_pos hs, if_pos (by omega)]
        · have e : bnd x x.b s = -2 := by rw [bnd, if_neg (fun h => hs h.1), if_neg (by omega)]
          rw [e, look, if_neg hs, if_neg (by omega)]
      | j + 2, hc => simp at hc
    · by_cases h14 : x.kind = 14
      · have hk : kids x = x.a :: x.l.map Fld.pl := by simp [kids, kids0, many, h14]
        rw [hk] at hc hn
        have hb : bnd x c s = (match x.l.findIdx? (fun f => f.pl == c && f.vr.toList == s.toList) with | some k => (k : Int) | none => -2) := by
          rw [bnd, if_neg (by rintro ⟨_, h | h | h⟩ <;> omega), if_pos h14]
        rw [ofK, if_neg h5, if_neg h7, if_pos h14]
        match j, hc with
        | 0, hc =>
          obtain rfl : x.a = c := by simpa using hc
          have e : x.l.findIdx? (fun f => f.pl == x.a && f.vr.toList == s.toList) = none := by
            rw [List.findIdx?_eq_none_iff]
            intro f hf
            have : f.pl ≠ x.a := fun h => (List.nodup_cons.1 hn).1 (List.mem_map.2 ⟨f, hf, h⟩)
            simp [this]
          rw [hb, e, if_neg (by omega), if_neg (by simp)]
        | m + 1, hc =>
          rw [List.getElem?_cons_succ, List.getElem?_map] at hc
          obtain ⟨f, hf, rfl⟩ := Option.map_eq_some_iff.1 hc
          have hv : vrAt x (m + 1 - 1) = f.vr := by simp [vrAt, hf]
          rw [if_pos (by omega), look, hv, hb]
          have huniq : ∀ (q : Nat) (g : Fld), x.l[q]? = some g → g.pl = f.pl → q = m := fun q g hg he => by
            have h1 := (List.nodup_cons.1 hn).2
            have hq := (List.getElem?_eq_some_iff.1 hg).1
            have hm := (List.getElem?_eq_some_iff.1 hf).1
            exact (List.getElem?_inj (l := x.l.map Fld.pl) (i := q) (j := m) (by simpa using hq) h1).1 (by rw [List.getElem?_map, List.getElem?_map, hg, hf]; simp [he])
          by_cases hs : (f.vr.toList == s.toList) = true
          · have e : x.l.findIdx? (fun g => g.pl == f.pl && g.vr.toList == s.toList) = some m := by
              rw [List.findIdx?_eq_some_iff_getElem]
              have hm := (List.getElem?_eq_some_iff.1 hf)
              obtain ⟨hm1, hm2⟩ := hm
              refine ⟨hm1, by rw [hm2, hs]; simp, fun q hq => ?_⟩
              have hq1 : q < x.l.length := by omega
              have : (x.l[q]).pl ≠ f.pl := fun h => by
                have := huniq q x.l[q] (List.getElem?_eq_getElem hq1) h
                omega
              simp [this]
            rw [e, if_pos hs, if_pos (by simp; omega)]
            simp
          · have e : x.l.findIdx? (fun g => g.pl == f.pl && g.vr.toList == s.toList) = none := by
              rw [List.findIdx?_eq_none_iff]
              intro g hg
              by_cases he : g.pl = f.pl
              · obtain ⟨q, hq⟩ := List.getElem?_of_mem hg
                obtain rfl := huniq q g hq he
                rw [hf] at hq
                obtain rfl := Option.some.inj hq
                have := eq_false_of_ne_true hs
                simp [this]
              · simp [he]
            rw [e, if_neg hs, if_neg (by simp)]
      · have e : bnd x c s = -2 := by rw [bnd, if_neg (by rintro ⟨_, h | h | h⟩ <;> omega), if_neg h14]
        rw [e, ofK, if_neg h5, if_neg h7, if_neg h14, if_neg (by omega)]
/-- Upwards, node by node. -/
def upw (l : List Nd) (U : List Int) (c : Nat) (s : ByteArray) : Int × Int :=
  if h : (c : Int) < U.getD c (-1) ∧ U.getD c (-1) < (l.length : Int) then
    (if -2 < bnd (l[(U.getD c (-1)).toNat]'(by omega)) c s then (U.getD c (-1), bnd (l[(U.getD c (-1)).toNat]'(by omega)) c s) else upw l U (U.getD c (-1)).toNat s)
  else (-1, -1)
termination_by l.length - c
decreasing_by omega
theorem upw_kid {l : List Nd} {U : List Int} {c i : Nat} {x : Nd} (hU : U[c]? = some (i : Int)) (hx : l[i]? = some x) (hc : c < i) (s : ByteArray) :
    upw l U c s = if -2 < bnd x c s then ((i : Int), bnd x c s) else upw l U i s := by
  have e : U.getD c (-1) = (i : Int) := by rw [List.getD_eq_getElem?_getD, hU]; rfl
  obtain ⟨h1, h2⟩ := List.getElem?_eq_some_iff.1 hx
  rw [upw]
  simp only [e, Int.toNat_natCast, h2]
  rw [dif_pos (by omega)]
theorem upw_root {l : List Nd} {U : List Int} {c : Nat} (hU : U[c]? = some (-1)) (s : ByteArray) : upw l U c s = (-1, -1) := by
  have e : U.getD c (-1) = -1 := by rw [List.getD_eq_getElem?_getD, hU]; rfl
  rw [upw, dif_neg (by rw [e]; omega)]
/-- A node's binder. -/
def bv (l : List Nd) (U : List Int) (m : Nat) : Option (Int × Int) := l[m]?.bind fun y => if y.kind = 4 then some (upw l U m y.nm) else none
theorem zip_snoc {α : Type} (ks : List α) (k : α) : (ks ++ [k]).zipIdx = ks.zipIdx ++ [(k, ks.length)] := by rw [List.zipIdx_append]; simp
theorem dn_look {l : List Nd} {U : List Int} (hk : kidsOk l) (hn : (allKids l).Nodup) (hU : ∀ (i : Nat) (x : Nd) (k : Int), l[i]? = some x → k ∈ kids x → U[k.toNat]? = some (i : Int)) :
    ∀ i, i < l.length → ∀ (env : List Rch), (∀ s, look env s = upw l U i s) → ∀ xs : List (Int × Int), xs.length = l.length →
      (dn l i env xs).length = l.length ∧ ∀ m, (dn l i env xs)[m]? = if m ∈ post l i then (bv l U m).or xs[m]? else xs[m]? := by
  intro i
  induction i using Nat.strongRecOn with
  | ind i ih =>
    intro hi env he xs hxs
    obtain ⟨x, hx⟩ : ∃ x, l[i]? = some x := ⟨_, List.getElem?_eq_getElem hi⟩
    have ha := hk i x hx
    rw [dn_eq hx ha, post_eq hx ha]
    have hnd := kids_nodup hn hx
    have key : ∀ (ks r : List Int), ks ++ r = kids x → ∀ ys : List (Int × Int), ys.length = l.length →
        (dns l x i env ks.zipIdx ys).length = l.length ∧ ∀ m, (dns l x i env ks.zipIdx ys)[m]? = if m ∈ ks.flatMap (fun k => post l k.toNat) then (bv l U m).or ys[m]? else ys[m]? := by
      intro ks
      induction ks using snocInd with
      | h0 => intro r _ ys hys; simp [dns, hys]
      | h1 ks k ihk =>
        intro r hr ys hys
        obtain ⟨h1, h2⟩ := ihk (k :: r) (by simpa using hr) ys hys
        have hkm : (kids x)[ks.length]? = some k := by rw [← hr]; simp
        have hkk := ha k (List.mem_of_getElem? hkm)
        rw [zip_snoc, dns_snoc]
        have hki : k.toNat < i := by omega
        have hup : ∀ s, look (ofK x i ks.length env) s = upw l U k.toNat s := fun s => by
          rw [look_ofK hnd hkm, upw_kid (hU i x k hx (List.mem_of_getElem? hkm)) hx hki, he s]
          rw [show ((k.toNat : Nat) : Int) = k by omega]
        obtain ⟨h3, h4⟩ := ih k.toNat hki (by omega) _ hup _ h1
        refine ⟨h3, fun m => ?_⟩
        rw [h4, h2]
        simp only [List.flatMap_append, List.mem_append, List.flatMap_cons, List.flatMap_nil, List.append_nil]
        by_cases q1 : m ∈ post l k.toNat <;> by_cases q2 : m ∈ ks.flatMap (fun k => post l k.toNat) <;> simp only [q1, q2, if_true, if_false, or_true, or_false]
        cases bv l U m <;> rfl
    obtain ⟨h1, h2⟩ := key (kids x) [] (by simp) (if x.kind = 4 then xs.set i (look env x.nm) else xs) (by split <;> simp [hxs])
    refine ⟨h1, fun m => ?_⟩
    rw [h2]
    have hbi : bv l U i = if x.kind = 4 then some (look env x.nm) else none := by rw [bv, hx, he]; rfl
    simp only [List.mem_append, List.mem_singleton]
    by_cases hmi : m = i
    · subst hmi
      rw [hbi]
      by_cases h4 : x.kind = 4
      · simp [h4, hxs, hi]
      · simp [h4]
    · have e : (if x.kind = 4 then xs.set i (look env x.nm) else xs)[m]? = xs[m]? := by
        split
        · rw [List.getElem?_set_ne (by omega)]
        · rfl
      rw [e]
      simp [hmi]
theorem post_down {l : List Nd} (hk : kidsOk l) : ∀ r, r < l.length → ∀ (i : Nat) (x : Nd) (k : Int), i ∈ post l r → l[i]? = some x → k ∈ kids x → k.toNat ∈ post l r := by
  intro r
  induction r using Nat.strongRecOn with
  | ind r ih =>
    intro hr i x k hi hx hkk
    obtain ⟨y, hy⟩ : ∃ y, l[r]? = some y := ⟨_, List.getElem?_eq_getElem hr⟩
    have ha := hk r y hy
    rw [post_eq hy ha] at hi ⊢
    rcases List.mem_append.1 hi with h | h
    · obtain ⟨c, hc, hic⟩ := List.mem_flatMap.1 h
      have := ha c hc
      refine List.mem_append_left _ (List.mem_flatMap.2 ⟨c, hc, ih c.toNat (by omega) (by omega) i x k hic hx hkk⟩)
    · obtain rfl : i = r := by simpa using h
      rw [hx] at hy
      obtain rfl := Option.some.inj hy
      have := ha k hkk
      refine List.mem_append_left _ (List.mem_flatMap.2 ⟨k, hkk, ?_⟩)
      obtain ⟨z, hz⟩ : ∃ z, l[k.toNat]? = some z := ⟨_, List.getElem?_eq_getElem (by omega)⟩
      rw [post_eq hz (hk _ z hz)]
      simp
/-- Each node is below the root. -/
theorem post_root {l : List Nd} (hk : kidsOk l) (ho : onceOk l) : ∀ d j, l.length - 1 - j ≤ d → j < l.length → j ∈ post l (l.length - 1) := by
  intro d
  induction d with
  | zero =>
    intro j hd hj
    obtain rfl : j = l.length - 1 := by omega
    obtain ⟨z, hz⟩ : ∃ z, l[l.length - 1]? = some z := ⟨_, List.getElem?_eq_getElem (by omega)⟩
    rw [post_eq hz (hk _ z hz)]
    simp
  | succ d ih =>
    intro j hd hj
    by_cases hj1 : j + 1 < l.length
    · obtain ⟨i, x, hx, hm⟩ := mem_allKids.1 (ho.2 j hj1)
      have := hk i x hx _ hm
      have hi := (List.getElem?_eq_some_iff.1 hx).1
      have := post_down hk (l.length - 1) (by omega) i x (j : Int) (ih i (by omega) hi) hx hm
      simpa using this
    · exact ih j (by omega) hj
/-- All binders. -/
def bds (l : List Nd) (U : List Int) : List (Int × Int) := l.zipIdx.map fun p => if p.1.kind = 4 then upw l U p.2 p.1.nm else (-1, -1)
theorem bds_len (l : List Nd) (U : List Int) : (bds l U).length = l.length := by simp [bds]
theorem bds_at {l : List Nd} {U : List Int} {m : Nat} {x : Nd} (h : l[m]? = some x) : (bds l U)[m]? = some (if x.kind = 4 then upw l U m x.nm else (-1, -1)) := by
  rw [bds, List.getElem?_map, List.getElem?_zipIdx, h]; simp
theorem dn_bds {l : List Nd} {U : List Int} (h0 : 0 < l.length) (hk : kidsOk l) (ho : onceOk l) (hU : ∀ (i : Nat) (x : Nd) (k : Int), l[i]? = some x → k ∈ kids x → U[k.toNat]? = some (i : Int)) (hr : U[l.length - 1]? = some (-1)) :
    dn l (l.length - 1) [] (List.replicate l.length (-1, -1)) = bds l U := by
  obtain ⟨h1, h2⟩ := dn_look hk ho.1 hU (l.length - 1) (by omega) [] (fun s => by rw [upw_root hr]; rfl) (List.replicate l.length (-1, -1)) (by simp)
  refine List.ext_getElem? fun m => ?_
  rw [h2]
  by_cases hm : m < l.length
  · rw [if_pos (post_root hk ho _ m (Nat.le_refl _) hm)]
    obtain ⟨x, hx⟩ : ∃ x, l[m]? = some x := ⟨_, List.getElem?_eq_getElem hm⟩
    rw [bds_at hx, bv, hx]
    by_cases h4 : x.kind = 4 <;> simp [h4, hm]
  · rw [List.getElem?_eq_none (l := bds l U) (by rw [bds_len]; omega)]
    have : m ∉ post l (l.length - 1) := fun h => by have := post_le hk _ (by omega) m h; omega
    rw [if_neg this, List.getElem?_eq_none (by simp; omega)]
/-- A binder stands somewhere, or is none. -/
theorem upw_or (l : List Nd) (U : List Int) : ∀ d c s, l.length - c ≤ d → upw l U c s = (-1, -1) ∨ (c : Int) < (upw l U c s).1 ∧ (upw l U c s).1 < (l.length : Int) ∧ -1 ≤ (upw l U c s).2 := by
  intro d
  induction d with
  | zero => intro c s hd; left; rw [upw, dif_neg (by omega)]
  | succ d ih =>
    intro c s hd
    rw [upw]
    by_cases h : (c : Int) < U.getD c (-1) ∧ U.getD c (-1) < (l.length : Int)
    · rw [dif_pos h]
      by_cases hb : -2 < bnd (l[(U.getD c (-1)).toNat]'(by omega)) c s
      · rw [if_pos hb]
        exact .inr ⟨h.1, h.2, by show -1 ≤ bnd _ _ _; omega⟩
      · rw [if_neg hb]
        rcases ih (U.getD c (-1)).toNat s (by omega) with h' | ⟨h1, h2, h3⟩
        · exact .inl h'
        · exact .inr ⟨by omega, h2, h3⟩
    · rw [dif_neg h]; exact .inl rfl
end Go.Proofs.YteikpeaakmbihaaDoor.T
