/- Joined by program: RCopyA, PJoinA, TStayA, TStayB, TStayC, TStayD, KOrd, KGram, RCopy. -/
import Derived.Test.YtjakeidbajkdcaaGreatDoorG21
import Derived.Test.YtjakeidbajkdcaaGreatDoorG23
import Derived.Test.YtjakeidbajkdcaaGreatDoorG20
import Derived.Test.YtjakeidbajkdcaaGreatDoorG15
/- copyOf, the document's: what stays through it. -/
namespace Go.Proofs.YtjakeidbajkdcaaGreatDoor.T
open Go.RowKit Go.Shelf
theorem ne_none (v : Value) : v.ownBlock = none ∨ v.ownBlock ≠ none := by cases v.ownBlock with | none => exact .inl rfl | some g => exact .inr (by simp)
theorem grown_alloc (W : World) (o : Obj) : W.grownBy (W.alloc o) none := ⟨rfl, rfl, rfl, by simp, fun _ hk _ => Below.heap_alloc _ _ _ hk⟩
theorem grown_of {W W' : World} (h : Below W.heap.size W W') : W.grownBy W' none := ⟨h.os, h.tape, h.output, h.size, fun k hk _ => h.block k hk⟩
/-- What lay below B, and every block but such as hold nodes, is as it was. -/
def Kp (B : Nat) (w w' : World) : Prop := Below B w w' ∧ ∀ (k : Nat) (cs : Array Value) (t : TypeId) (fr : Nat × Nat), w.heap[k]? = some (.cells cs t fr) → t ≠ 37 → w'.heap[k]? = some (.cells cs t fr)
theorem Kp.refl (B : Nat) (w : World) : Kp B w w := ⟨Below.refl _ _, fun _ _ _ _ h _ => h⟩
theorem Kp.trans {B : Nat} {a b c : World} (h : Kp B a b) (k : Kp B b c) : Kp B a c := ⟨h.1.trans k.1, fun i cs t fr hi ht => k.2 i cs t fr (h.2 i cs t fr hi ht) ht⟩
theorem Kp.of {B : Nat} {w w' : World} (h : Below w.heap.size w w') (hB : B ≤ w.heap.size) : Kp B w w' := ⟨h.mono hB, fun k _ _ _ hk _ => (h.block k (Array.getElem?_eq_some_iff.1 hk).1).trans hk⟩
theorem Kp.alloc (B : Nat) (w : World) (o : Obj) (hB : B ≤ w.heap.size) : Kp B w (w.alloc o) := Kp.of ((Below.refl _ w).alloc (Nat.le_refl _) o) hB
theorem row_kp {B B1 e s n : Nat} {w w' : World} {v : Value} {xs : List Value} (h : w.ownsRow B1 e s v n xs) (he : e ≠ 37) (hk : Kp B w w') : w'.ownsRow B1 e s v n xs := by
  refine ⟨h.1, ?_⟩
  rcases h.2 with h0 | ⟨g, cap, cur, h1, h2, h3, h4⟩
  · exact .inl h0
  · exact .inr ⟨g, cap, cur, h1, h2, hk.2 _ _ _ _ h3 he, h4⟩
theorem ownN_kept3 {w w' : World} {B B2 n2 : Nat} {v v2 : Value} {ps : List (Nd × Value)} {x2 : List Value} (h : OwnN B w v ps) (h2 : w.ownsRow B2 3 1 v2 n2 x2) (hg : w.grownBy w' v2.ownBlock) : OwnN B w' v ps :=
  ⟨h.1.kept hg (rows_ne h.1 h2 (by decide)), fun x hx => (h.2 x hx).kept hg (rows_ne (h.2 x hx) h2 (by decide))⟩
theorem ownN_grow {w w' : World} {B : Nat} {v : Value} {ps : List (Nd × Value)} (h : OwnN B w v ps) (hg : w.grownBy w' none) : OwnN B w' v ps :=
  ⟨h.1.kept hg (ne_none _), fun x hx => (h.2 x hx).kept hg (ne_none _)⟩
/-- Where the loop stands. -/
def CSt (N : List Nd) (J : List Int) (K : List Int) (B BK : Nat) (w W : World) (v' u : Value) (gk KL ck q : Nat) (bx : Value) : Prop :=
  (∃ ps, ps.map Prod.fst = N ∧ OwnN B W v' ps) ∧ W.ownsRow BK 3 1 u q (J.map (Value.int .i64)) ∧ Kp B w W ∧
    W.ownsRow w.heap.size 3 1 (.slice (some ⟨gk, 0, none⟩) KL ck) KL (K.map (Value.int .i64)) ∧ gk < BK ∧ W.heap[w.heap.size]? = some (.cells #[bx] 25 (0, 0)) ∧ w.heap.size < BK ∧ BK ≤ W.heap.size ∧ B ≤ w.heap.size
section
variable {N N' : List Nd} {J K : List Int} {B BK : Nat} {w W W' : World} {v' v2 u u' : Value} {gk KL ck q : Nat} {bx : Value}
theorem CSt.drew (h : CSt N J K B BK w W v' u gk KL ck q bx) : CSt N J K B BK w W.drew v' u gk KL ck q bx := by
  have hb : Below W.heap.size W W.drew := (Below.refl W.heap.size W).drew
  have hg := grown_of hb
  obtain ⟨⟨ps, a0, a1⟩, a2, a3, a5, a6, a7, a8, a9, a10⟩ := h
  exact ⟨⟨ps, a0, ownN_grow a1 hg⟩, a2.kept hg (ne_none _), a3.trans (Kp.of hb (by omega)), a5.kept hg (ne_none _), a6, a7, a8, a9, a10⟩
/-- Behind a child's copy. -/
theorem CSt.call (h : CSt N J K B BK w W v' u gk KL ck q bx) {ps' : List (Nd × Value)} (h1 : ps'.map Prod.fst = N') (h2 : OwnN B W' v2 ps') (h3 : Kp B W W') : CSt N' J K B BK w W' v2 u gk KL ck q bx := by
  obtain ⟨⟨ps, _, a1⟩, a2, a3, a5, a6, a7, a8, a9, a10⟩ := h
  exact ⟨⟨ps', h1, h2⟩, row_kp a2 (by decide) h3, a3.trans h3, row_kp a5 (by decide) h3, a6, h3.2 _ _ _ _ a7 (by decide), a8, Nat.le_trans a9 h3.1.size, a10⟩
/-- Behind the append of a child's place. -/
theorem CSt.app (h : CSt N J K B BK w W v' u gk KL ck q bx) {z : Int} {o : Obj} (h1 : W'.ownsRow BK 3 1 u' (q + 1) (J.map (Value.int .i64) ++ [.int .i64 z])) (h2 : (W.alloc o).grownBy W' u.ownBlock) : CSt N (J ++ [z]) K B BK w W' v' u' gk KL ck (q + 1) bx := by
  obtain ⟨⟨ps, a0, a1⟩, a2, a3, a5, a6, a7, a8, a9, a10⟩ := h
  have hu := a2.lt
  have hs := h2.size
  simp only [World.size_alloc] at hs
  have hbl : ∀ k, k < BK → W'.heap[k]? = W.heap[k]? := fun k hk => (h2.block k (by simp; omega) (fun e => by have := (hu k e.symm).1; omega)).trans (Below.heap_alloc _ _ _ (by omega))
  refine ⟨⟨ps, a0, ownN_kept3 (ownN_grow a1 (grown_alloc W o)) (a2.alloc o) h2⟩, by rw [List.map_append]; exact h1, ⟨⟨h2.os.trans a3.1.os, h2.tape.trans a3.1.tape, h2.output.trans a3.1.output, by have := a3.1.size; omega, fun k hk => (hbl k (by omega)).trans (a3.1.block k hk)⟩, fun k cs t fr hk ht => (hbl k (by have := (Array.getElem?_eq_some_iff.1 hk).1; omega)).trans (a3.2 k cs t fr hk ht)⟩, ?_, a6, (hbl _ (by omega)).trans a7, a8, by omega, a10⟩
  refine (a5.alloc o).kept h2 (.inr ?_)
  intro e
  have := (hu gk e.symm).1
  omega
end
end Go.Proofs.YtjakeidbajkdcaaGreatDoor.T
/- Join: trees put behind one another; what stays through its walk. -/
namespace Go.Proofs.YtjakeidbajkdcaaGreatDoor.T
open Go.RowKit Go.Shelf
/-- A node whose children stand further on. -/
def sh (f : Nat) (m : Nd) : Nd := wk m ((kids m).map (· + (f : Int)))
/-- One tree more behind the others, and its root's place. -/
def jstep (p : List Nd × List Int) (e : List Nd) : List Nd × List Int := (p.1 ++ e.map (sh p.1.length), p.2 ++ [((p.1.length + e.length : Nat) : Int) - 1])
def jn (ll : List (List Nd)) : List Nd × List Int := ll.foldl jstep ([], [])
theorem jn_snoc (ll : List (List Nd)) (e : List Nd) : jn (ll ++ [e]) = jstep (jn ll) e := by simp [jn]
theorem jn_len : ∀ ll : List (List Nd), (jn ll).1.length = (ll.map List.length).sum ∧ (jn ll).2.length = ll.length := by
  intro ll
  induction ll using snocInd with
  | h0 => exact ⟨rfl, rfl⟩
  | h1 ll e ih =>
    rw [jn_snoc]
    refine ⟨?_, ?_⟩
    · simp [jstep, ih.1]
    · simp [jstep, ih.2]
def joinN (x : Nd) (ll : List (List Nd)) : List Nd := (jn ll).1 ++ [wk x (jn ll).2]
/-- Expressions in memory. -/
def Exprs (B : Nat) (W : World) (v : Value) (ll : List (List Nd)) : Prop :=
  ∃ A c, v = .slice A ll.length c ∧ ll.length ≤ c ∧ (A = none → c = 0) ∧ (0 < ll.length → ∃ b o, A = some ⟨b, o, none⟩ ∧ b < B ∧ ∀ j e, ll[j]? = some e → ∃ Ae ce, W.cell? ⟨b, o + j, none⟩ = some (.slice Ae e.length ce) ∧ Nodes B W (.slice Ae e.length ce) e)
theorem Exprs.below {B : Nat} {W W' : World} {v : Value} {ll : List (List Nd)} (h : Exprs B W v ll) (hb : Below B W W') : Exprs B W' v ll := by
  obtain ⟨A, c, h1, h2, h3, h4⟩ := h
  refine ⟨A, c, h1, h2, h3, fun h0 => ?_⟩
  obtain ⟨b, o, e1, e2, e3⟩ := h4 h0
  refine ⟨b, o, e1, e2, fun j e he => ?_⟩
  obtain ⟨Ae, ce, c1, c2⟩ := e3 j e he
  exact ⟨Ae, ce, (hb.cell (p := ⟨b, o + j, none⟩) e2).trans c1, c2.below hb⟩
theorem Exprs.mono {B B' : Nat} {W : World} {v : Value} {ll : List (List Nd)} (h : Exprs B W v ll) (hB : B ≤ B') : Exprs B' W v ll := by
  obtain ⟨A, c, h1, h2, h3, h4⟩ := h
  refine ⟨A, c, h1, h2, h3, fun h0 => ?_⟩
  obtain ⟨b, o, e1, e2, e3⟩ := h4 h0
  exact ⟨b, o, e1, by omega, fun j e he => by obtain ⟨Ae, ce, c1, c2⟩ := e3 j e he; exact ⟨Ae, ce, c1, c2.mono hB⟩⟩
/-- Where Join stands: what is put together, the roots, the boxes. -/
def JSt (N : List Nd) (J : List Int) (cx : Array Value) (w W : World) (v u : Value) (q : Nat) : Prop :=
  (∃ ps, ps.map Prod.fst = N ∧ OwnN (w.heap.size + 3) W v ps) ∧ W.ownsRow (w.heap.size + 3) 3 1 u q (J.map (Value.int .i64)) ∧ W.heap[w.heap.size]? = some (.cells cx 37 (0, 0)) ∧ W.heap[w.heap.size + 1]? = some (.cells #[.slice none 0 0] 25 (0, 0)) ∧ W.heap[w.heap.size + 2]? = some (.cells #[v] 25 (0, 0)) ∧ Below w.heap.size w W
section
variable {N : List Nd} {J : List Int} {cx : Array Value} {w W W' : World} {v v2 u u2 : Value} {q : Nat}
theorem JSt.size (h : JSt N J cx w W v u q) : w.heap.size + 3 ≤ W.heap.size := (Array.getElem?_eq_some_iff.1 h.2.2.2.2.1).1
theorem JSt.next (h : JSt N J cx w W v u q) (hb : Below W.heap.size W W') : JSt N J cx w W' v u q := by
  have hs := h.size
  obtain ⟨⟨ps, a0, a1⟩, a2, a3, a4, a5, a6⟩ := h
  have hg := grown_of hb
  exact ⟨⟨ps, a0, ownN_grow a1 hg⟩, a2.kept hg (ne_none _), blk_next a3 hb, blk_next a4 hb, blk_next a5 hb, below_next a6 hb (Nat.le_refl _)⟩
theorem JSt.drew (h : JSt N J cx w W v u q) : JSt N J cx w W.drew v u q := h.next (Below.refl _ _).drew
theorem JSt.c (h : JSt N J cx w W v u q) : W.cell? ⟨w.heap.size + 2, 0, none⟩ = some v := (Blk_cell h.2.2.2.2.1 0).trans rfl
end
end Go.Proofs.YtjakeidbajkdcaaGreatDoor.T
/- A copy of what is below a node, behind others, is the copy alone with its children further on; a node and the copies of its children, joined, are the copy of the node. -/
namespace Go.Proofs.YtjakeidbajkdcaaGreatDoor.T
open Go.RowKit
theorem relab_pl : ∀ (l : List Fld) (ks : List Int), ks.length = l.length → (relab l ks).map Fld.pl = ks
  | [], [], _ => rfl
  | [], _ :: _, h => by simp at h
  | _ :: _, [], h => by simp at h
  | f :: l, k :: ks, h => by
    have := relab_pl l ks (by simpa using h)
    simpa [relab] using this
theorem relab_two : ∀ (l : List Fld) (ks js : List Int), ks.length = l.length → relab (relab l ks) js = relab l js
  | [], [], _, _ => by simp [relab]
  | [], _ :: _, _, h => by simp at h
  | _ :: _, [], _, h => by simp at h
  | f :: l, k :: ks, [], _ => by simp [relab]
  | f :: l, k :: ks, j :: js, h => by
    have := relab_two l ks js (by simpa using h)
    simpa [relab] using this
theorem own_wk (x : Nd) (ks : List Int) : own (wk x ks) = own x := by
  unfold own kids0 wk
  simp only
  repeat' split
  all_goals simp_all
theorem many_wk (x : Nd) (ks : List Int) : many (wk x ks) = many x := rfl
theorem kids_length (x : Nd) : (kids x).length = own x + if many x = true then x.l.length else 0 := by
  rw [kids, List.length_append, own]
  split <;> simp
theorem kids_wk {x : Nd} {ks : List Int} (h : ks.length = (kids x).length) : kids (wk x ks) = ks := by
  rw [kids_length] at h
  have hd : many x = true → (ks.drop (own x)).length = x.l.length := fun hm => by rw [List.length_drop, h, if_pos hm]; omega
  rw [kids, many_wk]
  have e0 : kids0 (wk x ks) = ks.take (own x) := by
    have hl : own x ≤ ks.length := by omega
    unfold wk
    unfold own at hl ⊢
    by_cases h1 : x.kind = 5 ∨ x.kind = 12 ∨ x.kind = 13 ∨ x.kind = 14
    · simp only [kids0, if_pos h1, List.length_cons, List.length_nil] at hl ⊢
      match ks, hl with
      | [], hl => simp at hl
      | a :: _, _ => simp
    · by_cases h2 : x.kind = 6 ∨ x.kind = 7 ∨ x.kind = 8 ∨ x.kind = 10
      · simp only [kids0, if_neg h1, if_pos h2, List.length_cons, List.length_nil] at hl ⊢
        match ks, hl with
        | [], hl => simp at hl
        | [_], hl => simp at hl
        | a :: b :: _, _ => simp
      · by_cases h3 : x.kind = 9
        · simp only [kids0, if_neg h1, if_neg h2, if_pos h3, List.length_cons, List.length_nil] at hl ⊢
          match ks, hl with
          | [], hl => simp at hl
          | [_], hl => simp at hl
          | [_, _], hl => simp at hl
          | a :: b :: c :: _, _ => simp
        · simp only [kids0, if_neg h1, if_neg h2, if_neg h3, List.length_nil] at hl ⊢
          simp
  rw [e0]
  by_cases hm : many x = true
  · rw [if_pos hm]
    have e1 : (wk x ks).l = relab x.l (ks.drop (own x)) := by show (if many x = true then _ else _) = _; rw [if_pos hm]
    rw [e1, relab_pl _ _ (hd hm), List.take_append_drop]
  · rw [if_neg hm, List.append_nil]
    rw [if_neg hm] at h
    exact List.take_of_length_le (by omega)
theorem wk_two {x : Nd} {ks js : List Int} (h : ks.length = (kids x).length) : wk (wk x ks) js = wk x js := by
  rw [kids_length] at h
  have ho := own_wk x ks
  show ({ wk x ks with a := _, b := _, c := _, l := _ } : Nd) = _
  rw [ho, many_wk]
  unfold wk
  by_cases hm : many x = true
  · rw [if_pos hm] at h
    simp only [hm, if_true]
    rw [relab_two _ _ _ (by rw [List.length_drop]; omega)]
  · simp only [hm]
    simp
theorem sh_sh (f g : Nat) (m : Nd) : sh f (sh g m) = sh (g + f) m := by
  have hl : ((kids m).map (· + (g : Int))).length = (kids m).length := List.length_map _
  unfold sh
  rw [kids_wk hl, wk_two hl, List.map_map]
  congr 1
  apply List.map_congr_left
  intro k _
  simp only [Function.comp]
  omega
theorem cps_len2 (l : List Nd) : ∀ (ks : List Int) (p : List Nd × List Int), (cps l p ks).2.length = p.2.length + ks.length := by
  intro ks
  induction ks using snocInd with
  | h0 => intro p; simp [cps]
  | h1 ks k ih => intro p; rw [cps_snoc]; simp [ih p]; omega
theorem cp_shift {l : List Nd} (hk : kidsOk l) : ∀ i, i < l.length → ∀ out : List Nd, cp l i out = out ++ (cp l i []).map (sh out.length) := by
  intro i
  induction i using Nat.strongRecOn with
  | ind i ih =>
    intro hi out
    have hx : l[i]? = some (l[i]'hi) := List.getElem?_eq_getElem hi
    obtain ⟨x, hx'⟩ : ∃ x, l[i]'hi = x := ⟨_, rfl⟩
    rw [hx'] at hx
    have ha : ahead i x := fun k hk' => hk i x hx k hk'
    have key : ∀ ks : List Int, (∀ k ∈ ks, 0 ≤ k ∧ k < (i : Int)) → cps l (out, []) ks = (out ++ (cps l ([], []) ks).1.map (sh out.length), (cps l ([], []) ks).2.map (· + (out.length : Int))) := by
      intro ks
      induction ks using snocInd with
      | h0 => intro _; simp [cps]
      | h1 ks k ih2 =>
        intro hks
        have h1 := ih2 fun k' hk' => hks k' (by simp [hk'])
        have hkk := hks k (by simp)
        have hlt : k.toNat < i := toNat_lt hkk
        have e : cp l k.toNat (out ++ (cps l ([], []) ks).1.map (sh out.length)) = out ++ (cp l k.toNat (cps l ([], []) ks).1).map (sh out.length) := by
          rw [ih k.toNat hlt (by omega) (out ++ (cps l ([], []) ks).1.map (sh out.length)), ih k.toNat hlt (by omega) (cps l ([], []) ks).1, List.map_append, List.map_map, List.append_assoc]
          congr 2
          apply List.map_congr_left
          intro m _
          simp only [Function.comp]
          rw [sh_sh, List.length_append, List.length_map, Nat.add_comm]
        rw [cps_snoc, cps_snoc, h1]
        simp only
        rw [e]
        simp only [List.map_append, List.map_cons, List.map_nil, List.length_append, List.length_map]
        congr 2
        simp only [List.cons.injEq, and_true]
        omega
    have hks : ∀ k ∈ kids x, 0 ≤ k ∧ k < (i : Int) := fun k hk' => ha k hk'
    have hlen : (cps l ([], []) (kids x)).2.length = (kids x).length := by rw [cps_len2]; simp
    rw [cp_eq hx ha out, cp_eq hx ha [], key _ hks, List.map_append, List.append_assoc]
    simp only [List.map_cons, List.map_nil]
    congr 3
    unfold sh
    rw [kids_wk hlen, wk_two hlen]
end Go.Proofs.YtjakeidbajkdcaaGreatDoor.T
/- The copy of what is below a node is in order: its children stand ahead, each node but the last one is a child once. -/
namespace Go.Proofs.YtjakeidbajkdcaaGreatDoor.T
open Go.RowKit
theorem kidsOk_snoc {N : List Nd} {y : Nd} (h : kidsOk N) (hy : ∀ k ∈ kids y, 0 ≤ k ∧ k < (N.length : Int)) : kidsOk (N ++ [y]) := by
  intro i x hx k hk
  by_cases hi : i < N.length
  · rw [List.getElem?_append_left hi] at hx
    exact h i x hx k hk
  · rw [List.getElem?_append_right (by omega)] at hx
    have hl := (List.getElem?_eq_some_iff.1 hx).1
    simp only [List.length_singleton] at hl
    obtain rfl : i = N.length := by omega
    simp only [Nat.sub_self, List.getElem?_cons_zero, Option.some.injEq] at hx
    subst hx
    exact hy k hk
end Go.Proofs.YtjakeidbajkdcaaGreatDoor.T
/- The copy of what is below a node: a let rec's function stays a function; it is as deep. -/
namespace Go.Proofs.YtjakeidbajkdcaaGreatDoor.T
open Go.RowKit
/-- The kind and the depth of a place. -/
def kd (N : List Nd) (m : Nat) : Option Int × Nat := (N[m]?.map Nd.kind, (deeps N).getD m 0)
end Go.Proofs.YtjakeidbajkdcaaGreatDoor.T
/- In order, a tree stays as it is. -/
namespace Go.Proofs.YtjakeidbajkdcaaGreatDoor.T
open Go.RowKit
theorem relab_nm (k : Int) : ∀ (l : List Fld) (ks : List Int), ks.length = l.length → (relab l ks).length = l.length ∧ (relab l ks).map Fld.nm = l.map Fld.nm ∧ (relab l ks).all (fok k) = l.all (fok k)
  | [], [], _ => ⟨rfl, rfl, rfl⟩
  | [], _ :: _, h => by simp at h
  | _ :: _, [], h => by simp at h
  | f :: l, q :: ks, h => by
    obtain ⟨h1, h2, h3⟩ := relab_nm k l ks (by simpa using h)
    have e : relab (f :: l) (q :: ks) = { f with pl := q } :: relab l ks := rfl
    rw [e]
    refine ⟨by simp [h1], by simp [h2], ?_⟩
    rw [List.all_cons, List.all_cons, h3]
    rfl
end Go.Proofs.YtjakeidbajkdcaaGreatDoor.T
/- Trees in order, joined, are in order. -/
namespace Go.Proofs.YtjakeidbajkdcaaGreatDoor.T
/-- A tree in order. -/
def inOrd (e : List Nd) : Prop := e ≠ [] ∧ kidsOk e ∧ cp e (e.length - 1) [] = e
theorem kids_sh (f : Nat) (x : Nd) : kids (sh f x) = (kids x).map (· + (f : Int)) := by unfold sh; exact kids_wk (List.length_map _)
/-- A copy out of the midst of a list. -/
theorem cp_mid {e : List Nd} (hk : kidsOk e) (P r : List Nd) : ∀ i, i < e.length → ∀ out, cp (P ++ e.map (sh P.length) ++ r) (P.length + i) out = cp e i out := by
  intro i
  induction i using Nat.strongRecOn with
  | ind i ih =>
    intro hi out
    obtain ⟨x, hx⟩ : ∃ x, e[i]? = some x := ⟨_, List.getElem?_eq_getElem hi⟩
    have ha : ahead i x := fun k hk' => hk i x hx k hk'
    have hl : ((kids x).map (· + (P.length : Int))).length = (kids x).length := List.length_map _
    have hy : (P ++ e.map (sh P.length) ++ r)[P.length + i]? = some (sh P.length x) := by
      rw [List.append_assoc, List.getElem?_append_right (by omega), Nat.add_sub_cancel_left, List.getElem?_append_left (by rw [List.length_map]; exact hi), List.getElem?_map, hx]; rfl
    have hb : ahead (P.length + i) (sh P.length x) := fun k hk' => by
      rw [kids_sh, List.mem_map] at hk'
      obtain ⟨m, hm, rfl⟩ := hk'
      have := ha m hm
      omega
    have key : ∀ ks : List Int, (∀ k ∈ ks, 0 ≤ k ∧ k < (i : Int)) → ∀ p, cps (P ++ e.map (sh P.length) ++ r) p (ks.map (· + (P.length : Int))) = cps e p ks := by
      intro ks
      induction ks using snocInd with
      | h0 => intro _ p; rfl
      | h1 ks k ih2 =>
        intro hks p
        have hkk := hks k (by simp)
        have hn : (k + (P.length : Int)).toNat = P.length + k.toNat := by omega
        have hlt := toNat_lt hkk
        rw [List.map_append, List.map_cons, List.map_nil, cps_snoc, cps_snoc, ih2 (fun k' h' => hks k' (by simp [h'])) p, hn, ih k.toNat hlt (by omega)]
    rw [cp_eq hy hb, cp_eq hx ha, kids_sh, key _ ha]
    congr 2
    unfold sh
    rw [wk_two hl]
theorem kidsOk_shift {N e : List Nd} (h1 : kidsOk N) (h2 : kidsOk e) : kidsOk (N ++ e.map (sh N.length)) := by
  intro i x hx k hk
  by_cases hi : i < N.length
  · rw [List.getElem?_append_left hi] at hx; exact h1 i x hx k hk
  · rw [List.getElem?_append_right (by omega), List.getElem?_map, Option.map_eq_some_iff] at hx
    obtain ⟨y, hy, rfl⟩ := hx
    rw [kids_sh, List.mem_map] at hk
    obtain ⟨m, hm, rfl⟩ := hk
    have := h2 _ y hy m hm
    omega
theorem jn_ord : ∀ ll : List (List Nd), (∀ e ∈ ll, inOrd e) → kidsOk (jn ll).1 ∧ (∀ k ∈ (jn ll).2, 0 ≤ k ∧ k < ((jn ll).1.length : Int)) ∧ ∀ r, cps ((jn ll).1 ++ r) ([], []) (jn ll).2 = jn ll := by
  intro ll
  induction ll using snocInd with
  | h0 => intro _; exact ⟨fun i x hx => by simp [jn] at hx, fun k hk => by simp [jn] at hk, fun r => rfl⟩
  | h1 ll e ih =>
    intro h
    obtain ⟨h1, h2, h3⟩ := ih fun x hx => h x (by simp [hx])
    obtain ⟨e0, ek, ec⟩ := h e (by simp)
    have hle : 0 < e.length := List.length_pos_iff.2 e0
    rw [jn_snoc, jstep]
    refine ⟨kidsOk_shift h1 ek, fun k hk => ?_, fun r => ?_⟩
    · simp only [List.mem_append, List.mem_singleton] at hk
      simp only [List.length_append, List.length_map]
      rcases hk with hk | rfl
      · have := h2 k hk; omega
      · omega
    · have e1 := h3 (e.map (sh (jn ll).1.length) ++ r)
      rw [← List.append_assoc] at e1
      have hn : (((((jn ll).1.length + e.length : Nat) : Int) - 1)).toNat = (jn ll).1.length + (e.length - 1) := by omega
      simp only
      rw [cps_snoc, e1, hn, cp_mid ek _ _ _ (by omega), cp_shift ek _ (by omega), ec]
      simp
/-- Trees in order, joined, are in order. -/
theorem ord_join {x : Nd} {ll : List (List Nd)} (h : ∀ e ∈ ll, inOrd e) (hl : ll.length = (kids x).length) : inOrd (joinN x ll) := by
  obtain ⟨h1, h2, h3⟩ := jn_ord ll h
  have hJ : (jn ll).2.length = (kids x).length := (jn_len ll).2.trans hl
  have hk := kids_wk hJ
  refine ⟨by simp [joinN], kidsOk_snoc h1 (by rw [hk]; exact h2), ?_⟩
  have hy : (joinN x ll)[(jn ll).1.length]? = some (wk x (jn ll).2) := by simp [joinN]
  have hn : (joinN x ll).length - 1 = (jn ll).1.length := by simp [joinN]
  rw [hn, cp_eq hy (by intro k hk'; rw [hk] at hk'; exact h2 k hk'), hk]
  unfold joinN
  rw [h3, wk_two hJ]
theorem ord_nrm {e : List Nd} (h : inOrd e) (hm : may e = 0) : nrm e = e := by rw [nrm, if_pos hm]; exact h.2.2
end Go.Proofs.YtjakeidbajkdcaaGreatDoor.T
/- The language of programs, as a function over lists of tokens: what each row reads, what is left then, or the first error and its place. By fuel; 12 for each token and 12 more are enough. -/
namespace Go.Proofs.YtjakeidbajkdcaaGreatDoor.T
/-- A token: kind, text, number, place. -/
structure Tk where
  k : Int
  s : ByteArray
  n : Int
  p : Int
inductive Rs where
  | ok (t : List Nd) (l : List Tk)
  | bad (e p : Int)
inductive Pr where
  | expr | cmp | sum | prod | app | post | atom
  | sumL (a : List Nd) | prodL (a : List Nd) | appL (a : List Nd) | postL (a : List Nd)
  | recL (p : Int) (fs : List Fld) (ts : List (List Nd)) | casL (p : Int) (fs : List Fld) (ts : List (List Nd))
def Rs.go (r : Rs) (f : List Nd → List Tk → Rs) : Rs := match r with | .ok t l => f t l | .bad e p => .bad e p
/-- The place of what is next. -/
def plc (E : Int) (l : List Tk) : Int := match l with | [] => E | t :: _ => t.p
def isT (k : Int) (s : List UInt8) (l : List Tk) : Bool := match l with | [] => false | t :: _ => decide (t.k = k) && (t.s.toList == s)
def kindT (k : Int) (l : List Tk) : Bool := match l with | [] => false | t :: _ => decide (t.k = k)
def must (E k : Int) (s : List UInt8) (l : List Tk) (f : List Tk → Rs) : Rs := if isT k s l = true then f l.tail else .bad 5 (plc E l)
def textT (E k : Int) (l : List Tk) (f : ByteArray → List Tk → Rs) : Rs := match l with | [] => .bad 5 E | t :: r => if t.k = k then f t.s r else .bad 5 t.p
def labelT (E k : Int) (fs : List Fld) (l : List Tk) (f : ByteArray → List Tk → Rs) : Rs :=
  textT E k l fun x r => if 30 ≤ fs.length then .bad 8 (plc E l) else if (fs.any fun y => y.nm.toList == x.toList) = true then .bad 5 (plc E l) else f x r
/-- The primitive whose sign is next. -/
def opOf (ops : List (List UInt8 × Int)) (l : List Tk) : Option Int := match l with | [] => none | t :: _ => if t.k = 7 then (ops.find? fun o => t.s.toList == o.1).map Prod.snd else none
def mk (kind p : Int) : Nd := ⟨kind, 0, 0, 0, 0, ⟨#[]⟩, ⟨#[]⟩, [], p⟩
def lastK (a : List Nd) : Int := (a.getLast?.map Nd.kind).getD 0
def lastP (a : List Nd) : Int := (a.getLast?.map Nd.pos).getD 0
def w_fun : List UInt8 := [102, 117, 110]
def w_let : List UInt8 := [108, 101, 116]
def w_rec : List UInt8 := [114, 101, 99]
def w_in : List UInt8 := [105, 110]
def w_if : List UInt8 := [105, 102]
def w_then : List UInt8 := [116, 104, 101, 110]
def w_else : List UInt8 := [101, 108, 115, 101]
def w_case : List UInt8 := [99, 97, 115, 101]
def w_of : List UInt8 := [111, 102]
def w_end : List UInt8 := [101, 110, 100]
def w_true : List UInt8 := [116, 114, 117, 101]
def w_false : List UInt8 := [102, 97, 108, 115, 101]
def s_arrow : List UInt8 := [45, 62]
def s_eqs : List UInt8 := [61]
def s_lpar : List UInt8 := [40]
def s_rpar : List UInt8 := [41]
def s_lbra : List UInt8 := [123]
def s_rbra : List UInt8 := [125]
def s_comma : List UInt8 := [44]
def s_bar : List UInt8 := [124]
def s_dot : List UInt8 := [46]
def cmpOps : List (List UInt8 × Int) := [([60], 5), ([61, 61], 6)]
def sumOps : List (List UInt8 × Int) := [([43], 1), ([45], 2), ([94], 7)]
def prodOps : List (List UInt8 × Int) := [([42], 3), ([47], 4)]
def begins (l : List Tk) : Bool := kindT 4 l || kindT 5 l || kindT 2 l || isT 1 w_true l || isT 1 w_false l || isT 1 w_case l || isT 7 s_lpar l || isT 7 s_lbra l
def fld (x v : ByteArray) : Fld := ⟨x, v, 0⟩
def G (E : Int) : Nat → Pr → Nat → List Tk → Rs
  | 0, _, _, _ => .bad 0 0
  | f + 1, .expr, d, l =>
    if 100 ≤ d then .bad 6 (plc E l)
    else if isT 1 w_fun l = true then textT E 2 l.tail fun x l1 => must E 7 s_arrow l1 fun l2 => (G E f .expr (d + 1) l2).go fun a l3 => .ok (joinN { mk 5 (plc E l) with nm := x } [a]) l3
    else if isT 1 w_let l = true then
      if isT 1 w_rec l.tail = true then
        textT E 2 l.tail.tail fun x l1 => must E 7 s_eqs l1 fun l2 => (G E f .expr (d + 1) l2).go fun a l3 => if lastK a = 5 then must E 1 w_in l3 fun l4 => (G E f .expr (d + 1) l4).go fun b l5 => .ok (joinN { mk 8 (plc E l) with nm := x } [a, b]) l5 else .bad 5 (plc E l2)
      else textT E 2 l.tail fun x l1 => must E 7 s_eqs l1 fun l2 => (G E f .expr (d + 1) l2).go fun a l3 => must E 1 w_in l3 fun l4 => (G E f .expr (d + 1) l4).go fun b l5 => .ok (joinN { mk 7 (plc E l) with nm := x } [a, b]) l5
    else if isT 1 w_if l = true then
      (G E f .expr (d + 1) l.tail).go fun a l1 => must E 1 w_then l1 fun l2 => (G E f .expr (d + 1) l2).go fun b l3 => must E 1 w_else l3 fun l4 => (G E f .expr (d + 1) l4).go fun c l5 => .ok (joinN (mk 9 (plc E l)) [a, b, c]) l5
    else G E f .cmp (d + 1) l
  | f + 1, .cmp, d, l => (G E f .sum d l).go fun a l1 => match opOf cmpOps l1 with
    | none => .ok a l1
    | some n => (G E f .sum d l1.tail).go fun b l2 => .ok (joinN { mk 10 (plc E l1) with n := n } [a, b]) l2
  | f + 1, .sum, d, l => (G E f .prod d l).go fun a l1 => G E f (.sumL a) d l1
  | f + 1, .sumL a, d, l => match opOf sumOps l with
    | none => .ok a l
    | some n => (G E f .prod d l.tail).go fun b l2 => G E f (.sumL (joinN { mk 10 (plc E l) with n := n } [a, b])) d l2
  | f + 1, .prod, d, l => (G E f .app d l).go fun a l1 => G E f (.prodL a) d l1
  | f + 1, .prodL a, d, l => match opOf prodOps l with
    | none => .ok a l
    | some n => (G E f .app d l.tail).go fun b l2 => G E f (.prodL (joinN { mk 10 (plc E l) with n := n } [a, b])) d l2
  | f + 1, .app, d, l =>
    if kindT 3 l = true then textT E 3 l fun x l1 => (G E f .post d l1).go fun a l2 => .ok (joinN { mk 13 (plc E l) with nm := x } [a]) l2
    else (G E f .post d l).go fun a l1 => G E f (.appL a) d l1
  | f + 1, .appL a, d, l => if begins l = true then (G E f .post d l).go fun b l1 => G E f (.appL (joinN (mk 6 (lastP a)) [a, b])) d l1 else .ok a l
  | f + 1, .post, d, l => (G E f .atom d l).go fun a l1 => G E f (.postL a) d l1
  | f + 1, .postL a, d, l => if isT 7 s_dot l = true then textT E 2 l.tail fun x l1 => G E f (.postL (joinN { mk 12 (plc E l) with nm := x } [a])) d l1 else .ok a l
  | f + 1, .atom, d, l => match l with
    | [] => .bad 5 E
    | t :: r =>
      if t.k = 4 then .ok (joinN { mk 1 t.p with n := t.n } []) r
      else if t.k = 5 then .ok (joinN { mk 3 t.p with s := t.s } []) r
      else if t.k = 2 then .ok (joinN { mk 4 t.p with nm := t.s } []) r
      else if isT 1 w_true (t :: r) = true then .ok (joinN { mk 2 t.p with n := 1 } []) r
      else if isT 1 w_false (t :: r) = true then .ok (joinN (mk 2 t.p) []) r
      else if isT 7 s_lpar (t :: r) = true then (G E f .expr d r).go fun a l1 => must E 7 s_rpar l1 fun l2 => .ok a l2
      else if isT 7 s_lbra (t :: r) = true then (if isT 7 s_rbra r = true then .ok (joinN (mk 11 t.p) []) r.tail else G E f (.recL t.p [] []) d r)
      else if isT 1 w_case (t :: r) = true then (G E f .expr d r).go fun a l1 => must E 1 w_of l1 fun l2 => G E f (.casL t.p [] [a]) d l2
      else .bad 5 t.p
  | f + 1, .recL p fs ts, d, l => labelT E 2 fs l fun x l1 => must E 7 s_eqs l1 fun l2 => (G E f .expr d l2).go fun a l3 =>
    if isT 7 s_comma l3 = true then G E f (.recL p (fs ++ [fld x ⟨#[]⟩]) (ts ++ [a])) d l3.tail
    else must E 7 s_rbra l3 fun l4 => .ok (joinN { mk 11 p with l := fs ++ [fld x ⟨#[]⟩] } (ts ++ [a])) l4
  | f + 1, .casL p fs ts, d, l => labelT E 3 fs l fun x l1 => textT E 2 l1 fun v l2 => must E 7 s_arrow l2 fun l3 => (G E f .expr d l3).go fun a l4 =>
    if isT 7 s_bar l4 = true then G E f (.casL p (fs ++ [fld x v]) (ts ++ [a])) d l4.tail
    else must E 1 w_end l4 fun l5 => .ok (joinN { mk 14 p with l := fs ++ [fld x v] } (ts ++ [a])) l5
theorem go_ok {r : Rs} {f : List Nd → List Tk → Rs} {t : List Nd} {l : List Tk} (h : r.go f = .ok t l) : ∃ a m, r = .ok a m ∧ f a m = .ok t l := by
  cases r with
  | ok a m => exact ⟨a, m, rfl, h⟩
  | bad e p => cases h
theorem isT_cons {k : Int} {s : List UInt8} {l : List Tk} (h : isT k s l = true) : ∃ y r, l = y :: r := by
  cases l with
  | nil => cases h
  | cons y r => exact ⟨y, r, rfl⟩
theorem isT_len {k : Int} {s : List UInt8} {l : List Tk} (h : isT k s l = true) : l.tail.length + 1 = l.length := by obtain ⟨y, r, rfl⟩ := isT_cons h; rfl
theorem must_ok {E k : Int} {s : List UInt8} {l r : List Tk} {f : List Tk → Rs} {t : List Nd} (h : must E k s l f = .ok t r) : l.tail.length + 1 = l.length ∧ f l.tail = .ok t r := by
  unfold must at h
  split at h
  · exact ⟨isT_len (by assumption), h⟩
  · cases h
theorem text_ok {E k : Int} {l r : List Tk} {f : ByteArray → List Tk → Rs} {t : List Nd} (h : textT E k l f = .ok t r) : ∃ x m, m.length + 1 = l.length ∧ f x m = .ok t r := by
  cases l with
  | nil => cases h
  | cons y m =>
    simp only [textT] at h
    split at h
    · exact ⟨y.s, m, rfl, h⟩
    · cases h
theorem label_ok {E k : Int} {fs : List Fld} {l r : List Tk} {f : ByteArray → List Tk → Rs} {t : List Nd} (h : labelT E k fs l f = .ok t r) : ∃ x m, m.length + 1 = l.length ∧ f x m = .ok t r := by
  obtain ⟨x, m, hm, h⟩ := text_ok h
  split at h
  · cases h
  · split at h
    · cases h
    · exact ⟨x, m, hm, h⟩
theorem op_len {ops : List (List UInt8 × Int)} {l : List Tk} {n : Int} (h : opOf ops l = some n) : l.tail.length + 1 = l.length := by
  cases l with
  | nil => cases h
  | cons y r => rfl
/-- What a loop begins with. -/
def fit : Pr → Prop
  | .sumL a => inOrd a
  | .prodL a => inOrd a
  | .appL a => inOrd a
  | .postL a => inOrd a
  | .recL _ fs ts => ts.length = fs.length ∧ ∀ e ∈ ts, inOrd e
  | .casL _ fs ts => ts.length = fs.length + 1 ∧ ∀ e ∈ ts, inOrd e
  | _ => True
def eats : Pr → Nat
  | .sumL _ => 0
  | .prodL _ => 0
  | .appL _ => 0
  | .postL _ => 0
  | _ => 1
theorem ord0 {x : Nd} (h : (kids x).length = 0) : inOrd (joinN x []) := ord_join (by simp) h.symm
theorem ord1 {x : Nd} {a : List Nd} (h : (kids x).length = 1) (ha : inOrd a) : inOrd (joinN x [a]) := ord_join (by simpa using ha) h.symm
theorem ord2 {x : Nd} {a b : List Nd} (h : (kids x).length = 2) (ha : inOrd a) (hb : inOrd b) : inOrd (joinN x [a, b]) := ord_join (by simp [ha, hb]) h.symm
theorem ord3 {x : Nd} {a b c : List Nd} (h : (kids x).length = 3) (ha : inOrd a) (hb : inOrd b) (hc : inOrd c) : inOrd (joinN x [a, b, c]) := ord_join (by simp [ha, hb, hc]) h.symm
/-- What is read is in order, and tokens have gone by. -/
theorem G_ok (E : Int) : ∀ (f : Nat) (X : Pr) (d : Nat) (l : List Tk) (t : List Nd) (r : List Tk), fit X → G E f X d l = .ok t r → inOrd t ∧ r.length + eats X ≤ l.length := by
  intro f
  induction f with
  | zero => intro X d l t r _ h; cases h
  | succ f ih =>
    intro X d l t r hX h
    cases X with
    | expr =>
      rw [G] at h
      split at h
      · cases h
      split at h
      · rename_i _ hw
        have h0 := isT_len hw
        obtain ⟨x, l1, h1, h⟩ := text_ok h
        obtain ⟨h2, h⟩ := must_ok h
        obtain ⟨a, l3, ha, h⟩ := go_ok h
        obtain ⟨oa, h3⟩ := ih .expr _ _ _ _ trivial ha
        cases h
        simp only [eats] at h3 ⊢
        exact ⟨ord1 rfl oa, by omega⟩
      split at h
      · rename_i _ _ hw
        have h0 := isT_len hw
        split at h
        · rename_i hr
          have h0' := isT_len hr
          obtain ⟨x, l1, h1, h⟩ := text_ok h
          obtain ⟨h2, h⟩ := must_ok h
          obtain ⟨a, l3, ha, h⟩ := go_ok h
          obtain ⟨oa, h3⟩ := ih .expr _ _ _ _ trivial ha
          split at h
          · obtain ⟨h4, h⟩ := must_ok h
            obtain ⟨b, l5, hb, h⟩ := go_ok h
            obtain ⟨ob, h5⟩ := ih .expr _ _ _ _ trivial hb
            cases h
            simp only [eats] at h3 h5 ⊢
            exact ⟨ord2 rfl oa ob, by omega⟩
          · cases h
        · obtain ⟨x, l1, h1, h⟩ := text_ok h
          obtain ⟨h2, h⟩ := must_ok h
          obtain ⟨a, l3, ha, h⟩ := go_ok h
          obtain ⟨oa, h3⟩ := ih .expr _ _ _ _ trivial ha
          obtain ⟨h4, h⟩ := must_ok h
          obtain ⟨b, l5, hb, h⟩ := go_ok h
          obtain ⟨ob, h5⟩ := ih .expr _ _ _ _ trivial hb
          cases h
          simp only [eats] at h3 h5 ⊢
          exact ⟨ord2 rfl oa ob, by omega⟩
      split at h
      · rename_i _ _ _ hw
        have h0 := isT_len hw
        obtain ⟨a, l1, ha, h⟩ := go_ok h
        obtain ⟨oa, h1⟩ := ih .expr _ _ _ _ trivial ha
        obtain ⟨h2, h⟩ := must_ok h
        obtain ⟨b, l3, hb, h⟩ := go_ok h
        obtain ⟨ob, h3⟩ := ih .expr _ _ _ _ trivial hb
        obtain ⟨h4, h⟩ := must_ok h
        obtain ⟨c, l5, hc, h⟩ := go_ok h
        obtain ⟨oc, h5⟩ := ih .expr _ _ _ _ trivial hc
        cases h
        simp only [eats] at h1 h3 h5 ⊢
        exact ⟨ord3 rfl oa ob oc, by omega⟩
      · exact ih .cmp _ _ _ _ trivial h
    | cmp =>
      rw [G] at h
      obtain ⟨a, l1, ha, h⟩ := go_ok h
      obtain ⟨oa, h1⟩ := ih .sum _ _ _ _ trivial ha
      simp only [eats] at h1 ⊢
      split at h
      · cases h; exact ⟨oa, h1⟩
      · rename_i n hn
        have h0 := op_len hn
        obtain ⟨b, l2, hb, h⟩ := go_ok h
        obtain ⟨ob, h2⟩ := ih .sum _ _ _ _ trivial hb
        cases h
        simp only [eats] at h2
        exact ⟨ord2 rfl oa ob, by omega⟩
    | sum =>
      rw [G] at h
      obtain ⟨a, l1, ha, h⟩ := go_ok h
      obtain ⟨oa, h1⟩ := ih .prod _ _ _ _ trivial ha
      obtain ⟨ot, h2⟩ := ih (.sumL a) _ _ _ _ oa h
      simp only [eats] at h1 h2 ⊢
      exact ⟨ot, by omega⟩
    | sumL a =>
      rw [G] at h
      have oa : inOrd a := hX
      split at h
      · cases h; exact ⟨oa, Nat.le_refl _⟩
      · rename_i n hn
        have h0 := op_len hn
        obtain ⟨b, l2, hb, h⟩ := go_ok h
        obtain ⟨ob, h2⟩ := ih .prod _ _ _ _ trivial hb
        obtain ⟨ot, h3⟩ := ih (.sumL _) _ _ _ _ (ord2 (x := { mk 10 (plc E l) with n := n }) rfl oa ob) h
        simp only [eats] at h2 h3 ⊢
        exact ⟨ot, by omega⟩
    | prod =>
      rw [G] at h
      obtain ⟨a, l1, ha, h⟩ := go_ok h
      obtain ⟨oa, h1⟩ := ih .app _ _ _ _ trivial ha
      obtain ⟨ot, h2⟩ := ih (.prodL a) _ _ _ _ oa h
      simp only [eats] at h1 h2 ⊢
      exact ⟨ot, by omega⟩
    | prodL a =>
      rw [G] at h
      have oa : inOrd a := hX
      split at h
      · cases h; exact ⟨oa, Nat.le_refl _⟩
      · rename_i n hn
        have h0 := op_len hn
        obtain ⟨b, l2, hb, h⟩ := go_ok h
        obtain ⟨ob, h2⟩ := ih .app _ _ _ _ trivial hb
        obtain ⟨ot, h3⟩ := ih (.prodL _) _ _ _ _ (ord2 (x := { mk 10 (plc E l) with n := n }) rfl oa ob) h
        simp only [eats] at h2 h3 ⊢
        exact ⟨ot, by omega⟩
    | app =>
      rw [G] at h
      split at h
      · obtain ⟨x, l1, h1, h⟩ := text_ok h
        obtain ⟨a, l2, ha, h⟩ := go_ok h
        obtain ⟨oa, h2⟩ := ih .post _ _ _ _ trivial ha
        cases h
        simp only [eats] at h2 ⊢
        exact ⟨ord1 rfl oa, by omega⟩
      · obtain ⟨a, l1, ha, h⟩ := go_ok h
        obtain ⟨oa, h1⟩ := ih .post _ _ _ _ trivial ha
        obtain ⟨ot, h2⟩ := ih (.appL a) _ _ _ _ oa h
        simp only [eats] at h1 h2 ⊢
        exact ⟨ot, by omega⟩
    | appL a =>
      rw [G] at h
      have oa : inOrd a := hX
      split at h
      · obtain ⟨b, l1, hb, h⟩ := go_ok h
        obtain ⟨ob, h1⟩ := ih .post _ _ _ _ trivial hb
        obtain ⟨ot, h2⟩ := ih (.appL _) _ _ _ _ (ord2 (x := mk 6 (lastP a)) rfl oa ob) h
        simp only [eats] at h1 h2 ⊢
        exact ⟨ot, by omega⟩
      · cases h; exact ⟨oa, Nat.le_refl _⟩
    | post =>
      rw [G] at h
      obtain ⟨a, l1, ha, h⟩ := go_ok h
      obtain ⟨oa, h1⟩ := ih .atom _ _ _ _ trivial ha
      obtain ⟨ot, h2⟩ := ih (.postL a) _ _ _ _ oa h
      simp only [eats] at h1 h2 ⊢
      exact ⟨ot, by omega⟩
    | postL a =>
      rw [G] at h
      have oa : inOrd a := hX
      split at h
      · rename_i hw
        have h0 := isT_len hw
        obtain ⟨x, l1, h1, h⟩ := text_ok h
        obtain ⟨ot, h2⟩ := ih (.postL _) _ _ _ _ (ord1 (x := { mk 12 (plc E l) with nm := x }) rfl oa) h
        simp only [eats] at h2 ⊢
        exact ⟨ot, by omega⟩
      · cases h; exact ⟨oa, Nat.le_refl _⟩
    | atom =>
      cases l with
      | nil => rw [G] at h; cases h
      | cons y m =>
        rw [G] at h
        simp only [eats, List.length_cons]
        split at h
        · cases h; exact ⟨ord0 rfl, Nat.le_refl _⟩
        split at h
        · cases h; exact ⟨ord0 rfl, Nat.le_refl _⟩
        split at h
        · cases h; exact ⟨ord0 rfl, Nat.le_refl _⟩
        split at h
        · cases h; exact ⟨ord0 rfl, Nat.le_refl _⟩
        split at h
        · cases h; exact ⟨ord0 rfl, Nat.le_refl _⟩
        split at h
        · obtain ⟨a, l1, ha, h⟩ := go_ok h
          obtain ⟨oa, h1⟩ := ih .expr _ _ _ _ trivial ha
          obtain ⟨h2, h⟩ := must_ok h
          cases h
          simp only [eats] at h1
          exact ⟨oa, by omega⟩
        split at h
        · split at h
          · rename_i hr
            have h0 := isT_len hr
            cases h
            exact ⟨ord0 rfl, by omega⟩
          · obtain ⟨ot, h1⟩ := ih (.recL _ _ _) _ _ _ _ ⟨rfl, by simp⟩ h
            simp only [eats] at h1
            exact ⟨ot, by omega⟩
        split at h
        · obtain ⟨a, l1, ha, h⟩ := go_ok h
          obtain ⟨oa, h1⟩ := ih .expr _ _ _ _ trivial ha
          obtain ⟨h2, h⟩ := must_ok h
          obtain ⟨ot, h3⟩ := ih (.casL _ _ _) _ _ _ _ ⟨rfl, by simpa using oa⟩ h
          simp only [eats] at h1 h3
          exact ⟨ot, by omega⟩
        · cases h
    | recL p fs ts =>
      rw [G] at h
      obtain ⟨hl, ho⟩ : ts.length = fs.length ∧ ∀ e ∈ ts, inOrd e := hX
      obtain ⟨x, l1, h1, h⟩ := label_ok h
      obtain ⟨h2, h⟩ := must_ok h
      obtain ⟨a, l3, ha, h⟩ := go_ok h
      obtain ⟨oa, h3⟩ := ih .expr _ _ _ _ trivial ha
      have ho' : ∀ e ∈ ts ++ [a], inOrd e := fun e he => by
        rw [List.mem_append, List.mem_singleton] at he
        rcases he with he | rfl
        · exact ho e he
        · exact oa
      split at h
      · rename_i hw
        have h0 := isT_len hw
        obtain ⟨ot, h4⟩ := ih (.recL _ _ _) _ _ _ _ ⟨by simp [hl], ho'⟩ h
        simp only [eats] at h3 h4 ⊢
        exact ⟨ot, by omega⟩
      · obtain ⟨h4, h⟩ := must_ok h
        cases h
        simp only [eats] at h3 ⊢
        exact ⟨ord_join ho' (by simp [kids, kids0, many, mk, hl]), by omega⟩
    | casL p fs ts =>
      rw [G] at h
      obtain ⟨hl, ho⟩ : ts.length = fs.length + 1 ∧ ∀ e ∈ ts, inOrd e := hX
      obtain ⟨x, l1, h1, h⟩ := label_ok h
      obtain ⟨v, l2, h1', h⟩ := text_ok h
      obtain ⟨h2, h⟩ := must_ok h
      obtain ⟨a, l3, ha, h⟩ := go_ok h
      obtain ⟨oa, h3⟩ := ih .expr _ _ _ _ trivial ha
      have ho' : ∀ e ∈ ts ++ [a], inOrd e := fun e he => by
        rw [List.mem_append, List.mem_singleton] at he
        rcases he with he | rfl
        · exact ho e he
        · exact oa
      split at h
      · rename_i hw
        have h0 := isT_len hw
        obtain ⟨ot, h4⟩ := ih (.casL _ _ _) _ _ _ _ ⟨by simp [hl], ho'⟩ h
        simp only [eats] at h3 h4 ⊢
        exact ⟨ot, by omega⟩
      · obtain ⟨h4, h⟩ := must_ok h
        cases h
        simp only [eats] at h3 ⊢
        exact ⟨ord_join ho' (by simp [kids, kids0, many, mk, hl]), by omega⟩
end Go.Proofs.YtjakeidbajkdcaaGreatDoor.T
/- copyOf, Sub and Norm, the document's. -/
namespace Go.Proofs.YtjakeidbajkdcaaGreatDoor.T
open Go.RowKit Go.Shelf
/-- A node's nine cells. -/
def NC (W : World) (b o : Nat) (x : Nd) (v : Value) : Prop := W.cell? ⟨b, o, none⟩ = some (.int .i64 x.kind) ∧ W.cell? ⟨b, o + 1, none⟩ = some (.int .i64 x.a) ∧ W.cell? ⟨b, o + 2, none⟩ = some (.int .i64 x.b) ∧ W.cell? ⟨b, o + 3, none⟩ = some (.int .i64 x.c) ∧ W.cell? ⟨b, o + 4, none⟩ = some (.int .i64 x.n) ∧
  W.cell? ⟨b, o + 5, none⟩ = some (.string x.nm) ∧ W.cell? ⟨b, o + 6, none⟩ = some (.string x.s) ∧ W.cell? ⟨b, o + 7, none⟩ = some v ∧ W.cell? ⟨b, o + 8, none⟩ = some (.int .i64 x.pos)
theorem NC.below {B : Nat} {W W' : World} {b o : Nat} {x : Nd} {v : Value} (h : NC W b o x v) (hb : Below B W W') (hlt : b < B) : NC W' b o x v := by
  have e : ∀ k, W'.cell? ⟨b, k, none⟩ = W.cell? ⟨b, k, none⟩ := fun k => hb.cell (p := ⟨b, k, none⟩) hlt
  obtain ⟨h0, h1, h2, h3, h4, h5, h6, h7, h8⟩ := h
  exact ⟨(e _).trans h0, (e _).trans h1, (e _).trans h2, (e _).trans h3, (e _).trans h4, (e _).trans h5, (e _).trans h6, (e _).trans h7, (e _).trans h8⟩
end Go.Proofs.YtjakeidbajkdcaaGreatDoor.T
