/- Joined by program: TStayB, TStayC, TStayD, RCopy, RNorm. -/
import Derived.Test.YteikpeaakmbihaaDoorG37
import Derived.Test.YteikpeaakmbihaaDoorG20
import Derived.Test.YteikpeaakmbihaaDoorG28
import Derived.Test.YteikpeaakmbihaaDoorG34
import Derived.Test.YteikpeaakmbihaaDoorG31
/- The copy of what is below a node is in order: its children stand ahead, each node but the last one is a child once. -/
namespace Go.Proofs.YteikpeaakmbihaaDoor.T
open Go.RowKit
theorem kidsOk_snoc {N : List Nd} {y : Nd} (h : kidsOk N) (hy : ∀ k ∈ kids y, 0 ≤ k ∧ k < (N.length : Int)) : kidsOk (N ++ [y]) := by
  intro i x hx k hk
  by_cases hi : i < N.length
  · rw [List.getElem?_append_left hi] at hx
    exact h i x hx k hk
  · rw [List.getElem?_append_right (by omega)] at hx
    have hl := (List.getElem?_eq_some_iff.1 hx).1
    simp only [List.length_singleton] at hl
    obtain rfl : i = N.length := by omega
    simp only [Nat.sub_self, List.getElem?_cons_zero, Option.some.injEq] at hx
    subst hx
    exact hy k hk
/-- How often a place is a child in what a copy puts behind others. -/
theorem cp_kids {l : List Nd} (hk : kidsOk l) : ∀ i, i < l.length → ∀ out : List Nd, kidsOk out → kidsOk (cp l i out) ∧ out.length < (cp l i out).length ∧
    ∀ j : Nat, (allKids (cp l i out)).count (j : Int) = (allKids out).count (j : Int) + if out.length ≤ j ∧ j + 1 < (cp l i out).length then 1 else 0 := by
  intro i
  induction i using Nat.strongRecOn with
  | ind i ih =>
    intro hi out ho
    have hx : l[i]? = some (l[i]'hi) := List.getElem?_eq_getElem hi
    obtain ⟨x, hx'⟩ : ∃ x, l[i]'hi = x := ⟨_, rfl⟩
    rw [hx'] at hx
    have ha : ahead i x := fun k hk' => hk i x hx k hk'
    have key : ∀ ks : List Int, (∀ k ∈ ks, 0 ≤ k ∧ k < (i : Int)) → kidsOk (cps l (out, []) ks).1 ∧ out.length ≤ (cps l (out, []) ks).1.length ∧ (∀ m ∈ (cps l (out, []) ks).2, 0 ≤ m ∧ m < ((cps l (out, []) ks).1.length : Int)) ∧
        ∀ j : Nat, (allKids (cps l (out, []) ks).1).count (j : Int) + (cps l (out, []) ks).2.count (j : Int) = (allKids out).count (j : Int) + if out.length ≤ j ∧ j < (cps l (out, []) ks).1.length then 1 else 0 := by
      intro ks
      induction ks using snocInd with
      | h0 => intro _; exact ⟨ho, Nat.le_refl _, fun m hm => by simp [cps] at hm, fun j => by
        have e : cps l (out, []) [] = (out, []) := rfl
        rw [e, if_neg (by simp only; omega)]; rfl⟩
      | h1 ks k ih2 =>
        intro hks
        obtain ⟨b1, b2, b3, b4⟩ := ih2 fun k' hk' => hks k' (by simp [hk'])
        have hkk := hks k (by simp)
        obtain ⟨c1, c2, c3⟩ := ih k.toNat (toNat_lt hkk) (by omega) _ b1
        rw [cps_snoc]
        refine ⟨c1, by simp only; omega, fun m hm => ?_, fun j => ?_⟩
        · simp only at hm ⊢
          rcases List.mem_append.1 hm with hm | hm
          · have := b3 m hm; omega
          · have := List.mem_singleton.1 hm; omega
        · simp only
          rw [List.count_append, c3 j, List.count_singleton]
          have h4 := b4 j
          by_cases hj : (((cp l k.toNat (cps l (out, []) ks).1).length : Int) - 1 == (j : Int)) = true
          · rw [if_pos hj]
            have hj' : ((cp l k.toNat (cps l (out, []) ks).1).length : Int) - 1 = (j : Int) := by simpa using hj
            rw [if_neg (by omega)]
            rw [if_pos (by omega)]
            rw [if_neg (by omega)] at h4
            omega
          · rw [if_neg hj]
            have hj' : ¬ ((cp l k.toNat (cps l (out, []) ks).1).length : Int) - 1 = (j : Int) := by simpa using hj
            split <;> split <;> split at h4 <;> omega
    obtain ⟨b1, b2, b3, b4⟩ := key (kids x) fun k hk' => ha k hk'
    have hlen : (cps l (out, []) (kids x)).2.length = (kids x).length := by rw [cps_len2]; simp
    rw [cp_eq hx ha out]
    have hkw := kids_wk hlen
    refine ⟨kidsOk_snoc b1 (by rw [hkw]; exact b3), by rw [List.length_append]; simp; omega, fun j => ?_⟩
    rw [allKids_snoc, hkw, List.count_append, b4 j, List.length_append, List.length_singleton]
    simp only [Nat.add_lt_add_iff_right]
theorem cp_once {l : List Nd} (hk : kidsOk l) {i : Nat} (hi : i < l.length) : kidsOk (cp l i []) ∧ onceOk (cp l i []) := by
  obtain ⟨h1, h2, h3⟩ := cp_kids hk i hi [] (fun i x hx => by simp at hx)
  have h0 : ∀ j : Nat, (allKids (cp l i [])).count (j : Int) = if j + 1 < (cp l i []).length then 1 else 0 := fun j => by
    rw [h3 j]; simp [allKids]
  refine ⟨h1, List.nodup_iff_count.2 fun k => ?_, fun j hj => ?_⟩
  · by_cases hm : k ∈ allKids (cp l i [])
    · obtain ⟨q, x, hq, hk'⟩ := mem_allKids.1 hm
      have := h1 q x hq k hk'
      obtain ⟨j, rfl⟩ := Int.eq_ofNat_of_zero_le this.1
      rw [h0 j]; split <;> omega
    · rw [List.count_eq_zero.2 hm]; omega
  · have := h0 j
    rw [if_pos hj] at this
    exact List.count_pos_iff.1 (by omega)
end Go.Proofs.YteikpeaakmbihaaDoor.T
/- The copy of what is below a node: a let rec's function stays a function; it is as deep. -/
namespace Go.Proofs.YteikpeaakmbihaaDoor.T
open Go.RowKit
/-- The kind and the depth of a place. -/
def kd (N : List Nd) (m : Nat) : Option Int × Nat := (N[m]?.map Nd.kind, (deeps N).getD m 0)
theorem kd_app {N r : List Nd} {m : Nat} (h : m < N.length) : kd (N ++ r) m = kd N m := by
  obtain ⟨s, hs⟩ := deeps_app N r
  unfold kd
  rw [List.getElem?_append_left h, hs, List.getD_eq_getElem?_getD, List.getElem?_append_left (by rw [deeps_len]; exact h), List.getD_eq_getElem?_getD]
theorem kd_map {N r : List Nd} {J : List Int} (h : ∀ m ∈ J, 0 ≤ m ∧ m < (N.length : Int)) : J.map (fun m => kd (N ++ r) m.toNat) = J.map fun m => kd N m.toNat :=
  List.map_congr_left fun m hm => kd_app (by have := h m hm; omega)
theorem recAt_app {N r : List Nd} {y : Nd} (h : recAt N y) : recAt (N ++ r) y := fun hy => by
  obtain ⟨z, hz, hk⟩ := h hy
  exact ⟨z, by rw [List.getElem?_append_left (List.getElem?_eq_some_iff.1 hz).1]; exact hz, hk⟩
theorem recOk_snoc {N : List Nd} {y : Nd} (h : recOk N) (hy : recAt (N ++ [y]) y) : recOk (N ++ [y]) := by
  intro i x hx
  by_cases hi : i < N.length
  · rw [List.getElem?_append_left hi] at hx
    exact recAt_app (h i x hx)
  · rw [List.getElem?_append_right (by omega)] at hx
    have hl := (List.getElem?_eq_some_iff.1 hx).1
    simp only [List.length_singleton] at hl
    obtain rfl : i = N.length := by omega
    simp only [Nat.sub_self, List.getElem?_cons_zero, Option.some.injEq] at hx
    subst hx
    exact hy
theorem mx_kd (N : List Nd) (J : List Int) : mx N J = ((J.map fun m => kd N m.toNat).map Prod.snd).foldl max 0 := by
  unfold mx
  rw [List.map_map]
  rfl
theorem cp_like {l : List Nd} (hk : kidsOk l) (hr : recOk l) : ∀ i, i < l.length → ∀ out : List Nd, kidsOk out → recOk out → recOk (cp l i out) ∧ kd (cp l i out) ((cp l i out).length - 1) = kd l i := by
  intro i
  induction i using Nat.strongRecOn with
  | ind i ih =>
    intro hi out ho hro
    have hx : l[i]? = some (l[i]'hi) := List.getElem?_eq_getElem hi
    obtain ⟨x, hx'⟩ : ∃ x, l[i]'hi = x := ⟨_, rfl⟩
    rw [hx'] at hx
    have ha : ahead i x := fun k hk' => hk i x hx k hk'
    have key : ∀ ks : List Int, (∀ k ∈ ks, 0 ≤ k ∧ k < (i : Int)) → kidsOk (cps l (out, []) ks).1 ∧ recOk (cps l (out, []) ks).1 ∧ (∀ m ∈ (cps l (out, []) ks).2, 0 ≤ m ∧ m < ((cps l (out, []) ks).1.length : Int)) ∧
        (cps l (out, []) ks).2.map (fun m => kd (cps l (out, []) ks).1 m.toNat) = ks.map fun k => kd l k.toNat := by
      intro ks
      induction ks using snocInd with
      | h0 => intro _; exact ⟨ho, hro, fun m hm => by simp [cps] at hm, rfl⟩
      | h1 ks k ih2 =>
        intro hks
        obtain ⟨b1, b2, b3, b4⟩ := ih2 fun k' hk' => hks k' (by simp [hk'])
        have hkk := hks k (by simp)
        obtain ⟨c1, c2, _⟩ := cp_kids hk k.toNat (by omega) _ b1
        obtain ⟨d1, d2⟩ := ih k.toNat (toNat_lt hkk) (by omega) _ b1 b2
        rw [cps_snoc]
        refine ⟨c1, d1, fun m hm => ?_, ?_⟩
        · simp only at hm ⊢
          rcases List.mem_append.1 hm with hm | hm
          · have := b3 m hm; omega
          · have := List.mem_singleton.1 hm; omega
        · simp only
          rw [List.map_append, List.map_append, List.map_singleton, List.map_singleton]
          congr 1
          · have e := cp_shift hk k.toNat (by omega) (cps l (out, []) ks).1
            rw [e, kd_map b3, b4]
          · rw [← d2]
            congr 2
            omega
    obtain ⟨b1, b2, b3, b4⟩ := key (kids x) fun k hk' => ha k hk'
    have hlen : (cps l (out, []) (kids x)).2.length = (kids x).length := by rw [cps_len2]; simp
    have hkw := kids_wk hlen
    rw [cp_eq hx ha out]
    obtain ⟨N, hN⟩ : ∃ N, (cps l (out, []) (kids x)).1 = N := ⟨_, rfl⟩
    obtain ⟨J, hJ⟩ : ∃ J, (cps l (out, []) (kids x)).2 = J := ⟨_, rfl⟩
    rw [hN, hJ] at b3 b4
    rw [hN] at b1 b2 ⊢
    rw [hJ] at hlen hkw ⊢
    have hat : (N ++ [wk x J])[N.length]? = some (wk x J) := by simp
    have hah : ahead N.length (wk x J) := fun k hk' => by rw [hkw] at hk'; exact b3 k hk'
    refine ⟨recOk_snoc b2 fun h8 => ?_, ?_⟩
    · have h8' : x.kind = 8 := h8
      obtain ⟨y, hy, hy5⟩ := hr i x hx h8'
      have hks : kids x = [x.a, x.b] := by simp [kids, kids0, many, h8']
      rw [hks] at hlen b4
      match J, hlen with
      | [p, q], _ =>
        have e1 : (wk x [p, q]).a = p := by simp [wk, own, kids0, h8']
        rw [e1]
        simp only [List.map_cons, List.map_nil, List.cons.injEq, Prod.mk.injEq, kd] at b4
        have hp := b3 p (by simp)
        have h1 := b4.1.1
        rw [hy] at h1
        obtain ⟨z, hz, hzk⟩ := Option.map_eq_some_iff.1 h1
        exact ⟨z, by rw [List.getElem?_append_left (by omega)]; exact hz, hzk.trans hy5⟩
    · have e : (N ++ [wk x J]).length - 1 = N.length := by simp
      rw [e]
      unfold kd
      rw [hat, hx, deeps_mx hat hah, deeps_mx hx ha, hkw, mx_kd, mx_kd, kd_map b3, b4]
      rfl
end Go.Proofs.YteikpeaakmbihaaDoor.T
/- In order, a tree stays as it is. -/
namespace Go.Proofs.YteikpeaakmbihaaDoor.T
open Go.RowKit
theorem relab_nm (k : Int) : ∀ (l : List Fld) (ks : List Int), ks.length = l.length → (relab l ks).length = l.length ∧ (relab l ks).map Fld.nm = l.map Fld.nm ∧ (relab l ks).all (fok k) = l.all (fok k)
  | [], [], _ => ⟨rfl, rfl, rfl⟩
  | [], _ :: _, h => by simp at h
  | _ :: _, [], h => by simp at h
  | f :: l, q :: ks, h => by
    obtain ⟨h1, h2, h3⟩ := relab_nm k l ks (by simpa using h)
    have e : relab (f :: l) (q :: ks) = { f with pl := q } :: relab l ks := rfl
    rw [e]
    refine ⟨by simp [h1], by simp [h2], ?_⟩
    rw [List.all_cons, List.all_cons, h3]
    rfl
theorem labB_relab (k : Int) (l : List Fld) (ks : List Int) (h : ks.length = l.length) : labB k (relab l ks) = labB k l := by
  obtain ⟨h1, h2, h3⟩ := relab_nm k l ks h
  unfold labB
  rw [h1, h2, h3]
theorem right_wk {x : Nd} {ks : List Int} (h : ks.length = (kids x).length) (hx : rightB x = true) : rightB (wk x ks) = true := by
  rw [kids_length] at h
  unfold rightB at hx ⊢
  have hL : (wk x ks).l = if many x = true then relab x.l (ks.drop (own x)) else [] := rfl
  have hl : many x = true → (wk x ks).l.length = x.l.length ∧ labB x.kind (wk x ks).l = labB x.kind x.l := fun hm => by
    rw [if_pos hm] at h
    rw [hL, if_pos hm]
    have hd : (ks.drop (own x)).length = x.l.length := by rw [List.length_drop]; omega
    exact ⟨(relab_nm 0 _ _ hd).1, labB_relab _ _ _ hd⟩
  have hn : ¬ many x = true → (wk x ks).l.length = 0 := fun hm => by rw [hL, if_neg hm]; rfl
  have ha : (wk x ks).a = if 0 < own x then ks.getD 0 0 else 0 := rfl
  have hb : (wk x ks).b = if 1 < own x then ks.getD 1 0 else 0 := rfl
  have hc : (wk x ks).c = if 2 < own x then ks.getD 2 0 else 0 := rfl
  have hm : many x = true ↔ x.kind = 11 ∨ x.kind = 14 := by unfold many; exact decide_eq_true_iff
  have hk : (wk x ks).kind = x.kind := rfl
  have hown : (0 < own x → one x.kind = true ∨ two x.kind = true ∨ x.kind = 9) ∧ (1 < own x → two x.kind = true ∨ x.kind = 9) ∧ (2 < own x → x.kind = 9) := by
    unfold own kids0 one two
    split
    · simp_all
    · split
      · simp_all
      · split <;> simp_all
  unfold rB at hx ⊢
  simp only [Bool.and_eq_true] at hx ⊢
  obtain ⟨⟨⟨⟨⟨p1, p2⟩, p3⟩, p4⟩, p5⟩, p6⟩ := hx
  refine ⟨⟨⟨⟨⟨p1, ?_⟩, ?_⟩, p4⟩, p5⟩, ?_⟩
  · rw [hk]
    by_cases hmx : many x = true
    · rw [(hl hmx).1]; exact p2
    · rw [hn hmx]
      simp only [Bool.not_eq_true', Bool.or_eq_false_iff, decide_eq_false_iff_not] at p2 ⊢
      refine ⟨p2.1, p2.2.1, ?_⟩
      omega
  · rw [hk, ha, hb, hc]
    simp only [Bool.not_eq_true', Bool.or_eq_false_iff, Bool.and_eq_false_iff, decide_eq_false_iff_not, Bool.not_eq_false']
    obtain ⟨o1, o2, o3⟩ := hown
    refine ⟨?_, ?_, ?_⟩
    · by_cases h0 : 0 < own x
      · rcases o1 h0 with h | h | h
        · exact .inl h
        · exact .inr (.inl h)
        · exact .inr (.inr (by omega))
      · rw [if_neg h0]; exact .inr (.inr (by omega))
    · by_cases h0 : 1 < own x
      · rcases o2 h0 with h | h
        · exact .inl h
        · exact .inr (by omega)
      · rw [if_neg h0]; exact .inr (by omega)
    · by_cases h0 : 2 < own x
      · have := o3 h0; omega
      · rw [if_neg h0]; omega
  · rw [hk]
    by_cases hmx : many x = true
    · rw [(hl hmx).2]; exact p6
    · simp only [Bool.or_eq_true, decide_eq_true_eq]
      exact .inl (by rw [hm] at hmx; omega)
theorem cp_right {l : List Nd} (hk : kidsOk l) (hr : ∀ x ∈ l, rightB x = true) : ∀ i, i < l.length → ∀ out : List Nd, (∀ x ∈ out, rightB x = true) → ∀ x ∈ cp l i out, rightB x = true := by
  intro i
  induction i using Nat.strongRecOn with
  | ind i ih =>
    intro hi out ho
    have hx : l[i]? = some (l[i]'hi) := List.getElem?_eq_getElem hi
    obtain ⟨x, hx'⟩ : ∃ x, l[i]'hi = x := ⟨_, rfl⟩
    rw [hx'] at hx
    have ha : ahead i x := fun k hk' => hk i x hx k hk'
    have key : ∀ ks : List Int, (∀ k ∈ ks, 0 ≤ k ∧ k < (i : Int)) → ∀ y ∈ (cps l (out, []) ks).1, rightB y = true := by
      intro ks
      induction ks using snocInd with
      | h0 => intro _; exact ho
      | h1 ks k ih2 =>
        intro hks
        have hkk := hks k (by simp)
        rw [cps_snoc]
        exact ih k.toNat (toNat_lt hkk) (by omega) _ (ih2 fun k' hk' => hks k' (by simp [hk']))
    have hlen : (cps l (out, []) (kids x)).2.length = (kids x).length := by rw [cps_len2]; simp
    rw [cp_eq hx ha out]
    intro y hy
    rcases List.mem_append.1 hy with hy | hy
    · exact key _ (fun k hk' => ha k hk') y hy
    · obtain rfl := List.mem_singleton.1 hy
      exact right_wk hlen (hr x (List.mem_of_getElem? hx))
/-- A copy of a copy is the copy. -/
theorem cp_cp {l : List Nd} (hk : kidsOk l) : ∀ i, i < l.length → ∀ (out r o : List Nd), kidsOk out → cp (cp l i out ++ r) ((cp l i out).length - 1) o = cp l i o := by
  intro i
  induction i using Nat.strongRecOn with
  | ind i ih =>
    intro hi out r o ho
    have hx : l[i]? = some (l[i]'hi) := List.getElem?_eq_getElem hi
    obtain ⟨x, hx'⟩ : ∃ x, l[i]'hi = x := ⟨_, rfl⟩
    rw [hx'] at hx
    have ha : ahead i x := fun k hk' => hk i x hx k hk'
    have key : ∀ ks : List Int, (∀ k ∈ ks, 0 ≤ k ∧ k < (i : Int)) → ∀ r : List Nd, kidsOk (cps l (out, []) ks).1 ∧ (∀ m ∈ (cps l (out, []) ks).2, 0 ≤ m ∧ m < ((cps l (out, []) ks).1.length : Int)) ∧ cps ((cps l (out, []) ks).1 ++ r) (o, []) (cps l (out, []) ks).2 = cps l (o, []) ks := by
      intro ks
      induction ks using snocInd with
      | h0 => intro _ r; exact ⟨ho, fun m hm => by simp [cps] at hm, rfl⟩
      | h1 ks k ih2 =>
        intro hks r
        have hkk := hks k (by simp)
        have e := cp_shift hk k.toNat (by omega) (cps l (out, []) ks).1
        obtain ⟨b1, b3, b4⟩ := ih2 (fun k' hk' => hks k' (by simp [hk'])) ((cp l k.toNat []).map (sh (cps l (out, []) ks).1.length) ++ r)
        obtain ⟨c1, c2, _⟩ := cp_kids hk k.toNat (by omega) _ b1
        have h2 := ih k.toNat (toNat_lt hkk) (by omega) (cps l (out, []) ks).1 r (cps l (o, []) ks).1 b1
        rw [cps_snoc]
        refine ⟨c1, fun m hm => ?_, ?_⟩
        · simp only at hm ⊢
          rcases List.mem_append.1 hm with hm | hm
          · have := b3 m hm; omega
          · have := List.mem_singleton.1 hm; omega
        · simp only
          rw [cps_snoc, cps_snoc]
          have e3 : (((cp l k.toNat (cps l (out, []) ks).1).length : Int) - 1).toNat = (cp l k.toNat (cps l (out, []) ks).1).length - 1 := by omega
          have e4 : cps (cp l k.toNat (cps l (out, []) ks).1 ++ r) (o, []) (cps l (out, []) ks).2 = cps l (o, []) ks := by
            rw [e, List.append_assoc]; exact b4
          rw [e4, e3, h2]
    have hlen : ∀ o : List Nd, (cps l (o, []) (kids x)).2.length = (kids x).length := fun o => by rw [cps_len2]; simp
    obtain ⟨_, b3, b4⟩ := key (kids x) (fun k hk' => ha k hk') ([wk x (cps l (out, []) (kids x)).2] ++ r)
    rw [cp_eq hx ha o]
    have e5 : cp l i out ++ r = (cps l (out, []) (kids x)).1 ++ ([wk x (cps l (out, []) (kids x)).2] ++ r) := by rw [cp_eq hx ha out, List.append_assoc]
    have e6 : (cp l i out).length - 1 = (cps l (out, []) (kids x)).1.length := by rw [cp_eq hx ha out]; simp
    rw [e5, e6]
    have hat : ((cps l (out, []) (kids x)).1 ++ ([wk x (cps l (out, []) (kids x)).2] ++ r))[(cps l (out, []) (kids x)).1.length]? = some (wk x (cps l (out, []) (kids x)).2) := by simp
    have hkw := kids_wk (hlen out)
    rw [cp_eq hat (fun k hk' => by rw [hkw] at hk'; exact b3 k hk') o, hkw, b4, wk_two (hlen out)]
/-- The copy of a tree may be, and is in order. -/
theorem may_cp {l : List Nd} (h : may l = 0) : may (nrm l) = 0 ∧ nrm (nrm l) = nrm l := by
  obtain ⟨h1, h6⟩ := may_big h
  obtain ⟨_, ⟨f1, f2, f3, f4⟩, hd⟩ := may_zero h
  have hi : l.length - 1 < l.length := by omega
  obtain ⟨N, hN⟩ : ∃ N, cp l (l.length - 1) [] = N := ⟨_, rfl⟩
  have e : nrm l = N := by rw [nrm, if_pos h, hN]
  have hl : 1 ≤ N.length ∧ N.length ≤ 600 := by
    have h2 := (cp_kids f2 _ hi [] (fun i x hx => by simp at hx)).2.1
    have hlen := cp_len f2 _ hi []
    have hp := post_len f2 f3.1 hi
    rw [hN] at h2 hlen
    simp at h2 hlen
    omega
  obtain ⟨o1, o2⟩ := cp_once f2 hi
  obtain ⟨r1, r2⟩ := cp_like f2 f4 _ hi [] (fun i x hx => by simp at hx) (fun i x hx => by simp at hx)
  have r3 := cp_right f2 f1 _ hi [] (fun x hx => by simp at hx)
  rw [hN] at o1 o2 r1 r2 r3
  have hm : may N = 0 := by
    have hroot : root N = root l := congrArg Prod.snd r2
    unfold may
    rw [if_neg (by omega), if_neg (fun hh => hh ⟨r3, o1, o2, r1⟩), if_neg (by omega)]
  have hc := cp_cp f2 _ hi [] [] [] (fun i x hx => by simp at hx)
  rw [hN, List.append_nil] at hc
  rw [e]
  exact ⟨hm, by rw [nrm, if_pos hm, hc]⟩
end Go.Proofs.YteikpeaakmbihaaDoor.T
/- copyOf, Sub and Norm, the document's. -/
namespace Go.Proofs.YteikpeaakmbihaaDoor.T
open Go.RowKit Go.Shelf
theorem copy_len {l : List Nd} (hk : kidsOk l) {i : Nat} {x : Nd} (hx : l[i]? = some x) (N0 : List Nd) (h : N0.length + (post l i).length ≤ 1000000) :
    (∀ (q m : Nat), (kids x)[q]? = some (m : Int) → (cps l (N0, []) ((kids x).take q)).1.length + (post l m).length ≤ 1000000) ∧ (cps l (N0, []) (kids x)).1.length + 1 ≤ 1000000 ∧ ∀ q, q ≤ (kids x).length → (cps l (N0, []) ((kids x).take q)).2.length = q := by
  have ha := hk _ _ hx
  have hi := lt_of_some hx
  have hc : ∀ k ∈ kids x, ∀ out : List Nd, (cp l k.toNat out).length = out.length + (post l k.toNat).length := fun k hk1 out => cp_len hk k.toNat (by have := toNat_lt (ha k hk1); omega) out
  rw [post_eq hx ha, List.length_append] at h
  simp only [List.length_singleton] at h
  refine ⟨fun q m hm => ?_, ?_, fun q hq => ?_⟩
  · rw [(cps_len _ _ fun k hk1 => hc k (List.mem_of_mem_take hk1)).1]
    have hsum : ((kids x).flatMap fun k => post l k.toNat).length = (((kids x).take q).flatMap fun k => post l k.toNat).length + (post l m).length + (((kids x).drop (q + 1)).flatMap fun k => post l k.toNat).length := by
      conv => lhs; rw [← List.take_append_drop (q + 1) (kids x), take_snoc _ _ _ hm]
      simp [List.flatMap_append]
      omega
    simp only at *
    omega
  · rw [(cps_len _ _ hc).1]
    simp only at *
    omega
  · rw [(cps_len _ _ fun k hk1 => hc k (List.mem_of_mem_take hk1)).2]
    simp; omega
/-- A node's nine cells. -/
def NC (W : World) (b o : Nat) (x : Nd) (v : Value) : Prop := W.cell? ⟨b, o, none⟩ = some (.int .i64 x.kind) ∧ W.cell? ⟨b, o + 1, none⟩ = some (.int .i64 x.a) ∧ W.cell? ⟨b, o + 2, none⟩ = some (.int .i64 x.b) ∧ W.cell? ⟨b, o + 3, none⟩ = some (.int .i64 x.c) ∧ W.cell? ⟨b, o + 4, none⟩ = some (.int .i64 x.n) ∧
  W.cell? ⟨b, o + 5, none⟩ = some (.string x.nm) ∧ W.cell? ⟨b, o + 6, none⟩ = some (.string x.s) ∧ W.cell? ⟨b, o + 7, none⟩ = some v ∧ W.cell? ⟨b, o + 8, none⟩ = some (.int .i64 x.pos)
theorem NC.below {B : Nat} {W W' : World} {b o : Nat} {x : Nd} {v : Value} (h : NC W b o x v) (hb : Below B W W') (hlt : b < B) : NC W' b o x v := by
  have e : ∀ k, W'.cell? ⟨b, k, none⟩ = W.cell? ⟨b, k, none⟩ := fun k => hb.cell (p := ⟨b, k, none⟩) hlt
  obtain ⟨h0, h1, h2, h3, h4, h5, h6, h7, h8⟩ := h
  exact ⟨(e _).trans h0, (e _).trans h1, (e _).trans h2, (e _).trans h3, (e _).trans h4, (e _).trans h5, (e _).trans h6, (e _).trans h7, (e _).trans h8⟩
theorem CSt.start {B : Nat} {w w1 : World} {v : Value} {ps : List (Nd × Value)} {K : List Int} {g c : Nat} {bx : Value} (hB : B ≤ w.heap.size) (hO : OwnN B w v ps) (hi : Ints (w.heap.size + 1) w1 (.slice (some ⟨g, 0, none⟩) K.length c) K) (hb : Below (w.heap.size + 1) (w.alloc (.cells #[bx] 24)) w1) :
    CSt (ps.map Prod.fst) [] K B w1.heap.size w (w1.alloc (.cells #[] 3)) v (.slice (some ⟨w1.heap.size, 0, none⟩) 0 0) g K.length c 0 bx := by
  have hs := hb.size
  simp only [World.size_alloc] at hs
  have hgl := hi.lt g rfl
  have hb1 : Below (w.alloc (.cells #[bx] 24)).heap.size (w.alloc (.cells #[bx] 24)) w1 := by simpa using hb
  have k1 : Kp B w w1 := (Kp.alloc B w _ hB).trans (Kp.of hb1 (by simp; omega))
  refine ⟨⟨ps, rfl, ownN_grow (ownN_grow (ownN_grow hO (grown_alloc w _)) (grown_of hb1)) (grown_alloc _ _)⟩, World.ownsRow_made _ _ _ (Nat.le_refl _) (by decide) rfl, k1.trans (Kp.alloc B w1 _ (by omega)), row_mono (hi.alloc _) (by omega), hgl.2, ?_, by omega, by simp, hB⟩
  exact nextAt ((hb.block _ (by omega)).trans (newAt rfl))
set_option maxRecDepth 100000 in
set_option maxHeartbeats 8000000 in
theorem copyOf_any (l : List Nd) (L c b o B : Nat) (HL : Hid (l.length = L)) (_hL : L ≤ 100000) (HKO : Hid (kidsOk l)) (HLL : Hid (∀ x ∈ l, x.l.length ≤ 1000000)) (hbB : b < B) :
    ∀ i, i < L → ∀ (w : World) (v : Value) (ps : List (Nd × Value)), B ≤ w.heap.size → NdsAt B w b o l → OwnN B w v ps → ps.length + (post l i).length ≤ 1000000 →
      Calls Tryd.prog 52 #[.agg #[.slice (some ⟨b, o, none⟩) L c], .int .i64 (i : Int), v] w (CpPost (cp l i (ps.map Prod.fst)) B w) := by
  intro i
  induction i using Nat.strongRecOn with
  | ind i ih =>
    intro hi w v ps hB hN hO hlen
    have HN := Lib.hid hN
    obtain ⟨x, hx⟩ : ∃ x, l[i]? = some x := ⟨_, List.getElem?_eq_getElem (by rw [HL.out]; exact hi)⟩
    have ha := HKO.out i x hx
    obtain ⟨fv, hfl, hnc⟩ := HN.out i x hx
    have HFL := Lib.hid hfl
    have HNC : Hid (NC w b (o + i * 9) x fv) := Lib.hid hnc
    obtain ⟨FA, fc, rfl, _⟩ := hfl
    obtain ⟨VA, vc, rfl⟩ := own_slice hO
    obtain ⟨hb1, hb2, hb3⟩ := copy_len HKO.out hx (ps.map Prod.fst) (by rw [List.length_map]; exact hlen)
    have HCP : Hid (cp l i (ps.map Prod.fst) = (cps l (ps.map Prod.fst, []) (kids x)).1 ++ [wk x (cps l (ps.map Prod.fst, []) (kids x)).2]) := Lib.hid (cp_eq hx ha _)
    have HWI : Hid (∀ (w1 : World) (ks : List Int) (g cg n : Nat), Below B w w1 → ks.length = n → ks.length = (kids x).length → Rw w1 g ks → Calls Tryd.prog 53 #[.agg (ndArr x (.slice FA x.l.length fc)), .slice (some ⟨g, 0, none⟩) n cg] w1 (RWPost (wk x ks) w1)) := Lib.hid fun w1 ks g cg n hb hn hk hr => rwith_any x _ ks g cg n w1 hn ((HFL.out.below hb).mono (by have := hb.size; omega)) (HLL.out x (List.mem_of_getElem? hx)) hk hr
    have HKD : Hid (Calls Tryd.prog 17 #[.agg (ndArr x (.slice FA x.l.length fc))] (w.alloc (.cells #[.slice (some ⟨b, o, none⟩) L c] 24)) (KidsPost (kids x) (w.heap.size + 1) (w.alloc (.cells #[.slice (some ⟨b, o, none⟩) L c] 24)))) := Lib.hid (kids_any x _ _ (by simp) ((HFL.out.below ((Below.refl B w).alloc hB _)).mono (by simp; omega)) (HLL.out x (List.mem_of_getElem? hx)))
    have hkl : (kids x).length ≤ 1000003 := by have := kids_len x; have := HLL.out x (List.mem_of_getElem? hx); omega
    obtain ⟨N0, hN0⟩ : ∃ N0, ps.map Prod.fst = N0 := ⟨_, rfl⟩
    have HO := Lib.hid hO
    have HN0 := Lib.hid hN0
    rw [hN0] at HCP hb1 hb2 hb3 ⊢
    obtain ⟨K, hK⟩ : ∃ K, kids x = K := ⟨_, rfl⟩
    rw [hK] at HKD HCP HWI hb1 hb2 hb3 hkl
    have HAH : Hid (∀ m ∈ K, 0 ≤ m ∧ m < (i : Int)) := Lib.hid (by rw [← hK]; exact ha)
    have HB1 := Lib.hid hb1
    have HB3 := Lib.hid hb3
    obtain ⟨KL, hKL⟩ : ∃ KL, K.length = KL := ⟨_, rfl⟩
    have HKL := Lib.hid hKL
    rw [hKL] at hkl
    have HKE : Hid (Calls Tryd.prog 17 #[.agg (ndArr x (.slice FA x.l.length fc))] (w.alloc (.cells #[.slice (some ⟨b, o, none⟩) L c] 24)) fun e w1 => ∃ g c1, e = .returned (.slice (some ⟨g, 0, none⟩) KL c1) ∧ Ints (w.heap.size + 1) w1 (.slice (some ⟨g, 0, none⟩) K.length c1) K ∧ Below (w.heap.size + 1) (w.alloc (.cells #[.slice (some ⟨b, o, none⟩) L c] 24)) w1) := Lib.hid (HKD.out.mono (by rintro e w1 ⟨g, c1, rfl, h⟩; exact ⟨g, c1, by rw [hKL], h⟩))
    have HIH : Hid (∀ m, m < i → ∀ (w1 : World) (v1 : Value) (N1 : List Nd), Below B w w1 → (∃ ps1, ps1.map Prod.fst = N1 ∧ OwnN B w1 v1 ps1) → N1.length + (post l m).length ≤ 1000000 → Calls Tryd.prog 52 #[.agg #[.slice (some ⟨b, o, none⟩) L c], .int .i64 (m : Int), v1] w1 (CpPost (cp l m N1) B w1)) := Lib.hid fun m hm w1 v1 N1 hb ⟨ps1, hp, ho⟩ hl => by
      subst hp
      exact ih m hm (by omega) w1 v1 ps1 (Nat.le_trans hB hb.size) (HN.out.below hb hbB) ho (by rw [List.length_map] at hl; exact hl)
    obtain ⟨i0, hi0, hz0, hz1, hz2⟩ := info_parts intInfo
    obtain ⟨j0, hj0, hy0, hy1, hy2⟩ := info_parts ndInfo
    have mm : ∀ o1 : Obj, NC (w.alloc o1) b (o + i * 9) x (.slice FA x.l.length fc) := fun o1 => HNC.out.below ((Below.refl w.heap.size w).alloc (Nat.le_refl _) o1) (by omega)
    have m0 := fun o1 => (mm o1).1
    have m1 := fun o1 => (mm o1).2.1
    have m2 := fun o1 => (mm o1).2.2.1
    have m3 := fun o1 => (mm o1).2.2.2.1
    have m4 := fun o1 => (mm o1).2.2.2.2.1
    have m5 := fun o1 => (mm o1).2.2.2.2.2.1
    have m6 := fun o1 => (mm o1).2.2.2.2.2.2.1
    have m7 := fun o1 => (mm o1).2.2.2.2.2.2.2.1
    have m8 := fun o1 => (mm o1).2.2.2.2.2.2.2.2
    clear ih hx ha hK hb1 hb3 hN mm hN0 hO hKL hnc
    go_enter Tryd.func52, Tryd.ntmps52
    go_wp2_with (go_at_call 17; refine HKE.out.mono ?_; rintro e w1 ⟨g1, c1, rfl, hi1, hb1⟩; have HI1 := Lib.hid hi1; have HBW := Lib.hid hb1; clear hi1 hb1)
    go_loopw [2, 8, 9] (fun out kd j wr => ∃ q gu cu : Nat, kd = .slice (some ⟨gu, 0, none⟩) q cu ∧ j = .int .i64 (q : Int) ∧ q ≤ KL ∧ Hid (CSt (cps l (N0, []) (K.take q)).1 (cps l (N0, []) (K.take q)).2 K B w1.heap.size w wr out (.slice (some ⟨gu, 0, none⟩) q cu) g1 KL c1 q (.slice (some ⟨b, o, none⟩) L c))) (fun _ _ j _ => KL - (intOf j).toNat)
    case atStart =>
      refine ⟨0, _, _, rfl, rfl, by omega, Lib.hid ?_⟩
      have h := CSt.start hB HO.out HI1.out HBW.out
      rw [HKL.out, HN0.out] at h
      exact h
    case round =>
      obtain ⟨q, gu, cu, rfl, rfl, hq, HS⟩ := hrel
      have cb := HS.out.box
      have HBB : Hid (Below B w wr) := Lib.hid HS.out.2.2.1.1
      have hsw := HS.out.2.2.2.2.2.2.1
      have hsr := HS.out.2.2.2.2.2.2.2.1
      obtain ⟨ps1, hp1, ho1⟩ := HS.out.1
      obtain ⟨A1, k1, rfl⟩ := own_slice ho1
      by_cases hlt : q < KL
      · obtain ⟨kz, hkz⟩ : ∃ kz, K[q]? = some kz := ⟨_, List.getElem?_eq_getElem (by rw [HKL.out]; exact hlt)⟩
        obtain ⟨m, rfl⟩ : ∃ m : Nat, kz = (m : Int) := ⟨kz.toNat, by have := HAH.out kz (List.mem_of_getElem? hkz); omega⟩
        have hmi : m < i := by have := HAH.out _ (List.mem_of_getElem? hkz); omega
        have ck : wr.cell? ⟨g1, q, none⟩ = some (.int .i64 (m : Int)) := HS.out.at hkz
        have HC := Lib.hid (HIH.out m hmi wr.drew _ _ HBB.out.drew ⟨ps1, hp1, ownN_grow ho1 (grown_of (Below.refl wr.heap.size wr).drew)⟩ (HB1.out q m hkz))
        have hlen5 := cp_len HKO.out m (by have := HL.out; omega) (cps l (N0, []) (K.take q)).1
        have hb5 := HB1.out q m hkz
        obtain ⟨n5, hn5⟩ : ∃ n5, (cp l m (cps l (N0, []) (K.take q)).1).length = n5 := ⟨_, rfl⟩
        have hn6 : n5 ≤ 1000000 := by omega
        have HSN : Hid (cps l (N0, []) (K.take (q + 1)) = (cp l m (cps l (N0, []) (K.take q)).1, (cps l (N0, []) (K.take q)).2 ++ [(n5 : Int) - 1])) := Lib.hid (by rw [take_snoc K q _ hkz, cps_snoc]; simp only [Int.toNat_natCast]; rw [hn5])
        have HN5 := Lib.hid hn5
        clear hkz hlen5 hb5 hn5 hp1
        go_wp2_with fail
        go_region_with (go_at_call 52; refine HC.out.mono ?_; rintro e w5 ⟨v5, ps5, rfl, hp5, ho5, hg5⟩; obtain ⟨A5, k5, rfl⟩ : ∃ A5 k5, v5 = .slice A5 n5 k5 := (own_slice_len ho5 hp5 rfl HN5.out); have HS5 := Lib.hid (HS.out.drew.call hp5 ho5 hg5); have hsr5 := HS5.out.2.2.2.2.2.2.2.1; clear hp5 ho5 hg5)
        all_goals
          go_wp2_with (at_builtin; refine wpList_append_own _ rfl _ _ 34 rfl w1.heap.size 3 i0 (.int .i64 0) 1 8 Tryd.underlying34 hi0 hz0 hz1 hz2 rfl (by decide) _ q _ rfl (HS5.out.2.1.alloc _) ⟨w5.heap.size, 0, none⟩ 1 1 [.int .i64 ((n5 : Int) - 1)] rfl rfl (new1 w5 3 _) (fun u hu => by rw [List.mem_singleton.1 hu]; rfl) (by unfold maxLen; omega) (by omega) (by simp; omega) ?_; intro v6 w6 hown6 hgrow6 _; obtain ⟨g6, c6, rfl⟩ := ownsRow_succ hown6; have HS6 := Lib.hid (HS5.out.app hown6 hgrow6); clear hown6 hgrow6)
          go_roundw
          case rel =>
            refine ⟨q + 1, _, _, rfl, by go_num, by omega, Lib.hid ?_⟩
            rw [HSN.out]; exact HS6.out
          case measure => simp [intOf]; omega
      · obtain rfl : q = KL := by omega
        have htk : K.take q = K := List.take_of_length_le (by rw [HKL.out]; exact Nat.le_refl _)
        have hjl := HB3.out q (by rw [HKL.out]; exact Nat.le_refl _)
        rw [htk] at HS hp1 hjl
        have hpl : ps1.length ≤ 999999 := by have := congrArg List.length hp1; rw [List.length_map] at this; omega
        have hRK : Rw wr gu (cps l (N0, []) K).2 := by
          have h := HS.out.2.1
          have hi2 : Ints w1.heap.size wr (.slice (some ⟨gu, 0, none⟩) (cps l (N0, []) K).2.length cu) (cps l (N0, []) K).2 := by unfold Ints; rw [hjl]; exact h
          exact Rw.of hi2
        have HCW := Lib.hid (HWI.out wr (cps l (N0, []) K).2 gu cu q HBB.out hjl (by rw [hjl]; exact HKL.out.symm) hRK)
        obtain ⟨n0, n1', n2, n3, n4, n5, n6, n7, n8⟩ := HNC.out.below HBB.out hbB
        have HP1 := Lib.hid hp1
        have HO1 := Lib.hid ho1
        obtain ⟨y, hy⟩ : ∃ y, wk x (cps l (N0, []) K).2 = y := ⟨_, rfl⟩
        rw [hy] at HCW HCP
        clear hp1 ho1 hRK hjl htk hy
        have HCX : Hid (Calls Tryd.prog 53 #[.agg #[.int .i64 x.kind, .int .i64 x.a, .int .i64 x.b, .int .i64 x.c, .int .i64 x.n, .string x.nm, .string x.s, .slice FA x.l.length fc, .int .i64 x.pos], .slice (some ⟨gu, 0, none⟩) q cu] wr fun e w6 => ∃ Ay ny ky, e = .returned (.agg #[.int .i64 y.kind, .int .i64 y.a, .int .i64 y.b, .int .i64 y.c, .int .i64 y.n, .string y.nm, .string y.s, .slice Ay ny ky, .int .i64 y.pos]) ∧ OwnF wr.heap.size w6 (.slice Ay ny ky) y.l ∧ Below wr.heap.size wr w6) := Lib.hid (by
          refine Calls.mono HCW.out ?_
          rintro e w6 ⟨vy, rfl, hf6, hb6⟩
          obtain ⟨Ay, ky, rfl, _⟩ := row_slice hf6
          exact ⟨Ay, _, ky, rfl, hf6, hb6⟩)
        clear HCW
        go_wp2_with (first
          | (go_at_call 53; refine HCX.out.mono ?_; rintro e w6 ⟨Ay, ny, ky, rfl, hf6, hb6⟩; have HF6 := Lib.hid hf6; have HB6 := Lib.hid hb6; have HR6 := Lib.hid ((ownN_grow HO1.out (grown_of hb6)).1.alloc (.cells (ndArr y (.slice Ay ny ky)) 27)); have HC6 := Lib.hid (new_cellsT w6 27 (ndArr y (.slice Ay ny ky)).toList w6.heap.size rfl); have hs6 := hb6.size; clear hf6 hb6)
          | (at_builtin; refine wpList_append_own _ rfl _ _ 22 rfl B 27 j0 (.agg #[.int .i64 0, .int .i64 0, .int .i64 0, .int .i64 0, .int .i64 0, .string ⟨#[]⟩, .string ⟨#[]⟩, .slice none 0 0, .int .i64 0]) 9 104 Tryd.underlying22 hj0 hy0 hy1 hy2 rfl (by decide) _ ps1.length _ rfl HR6.out ⟨w6.heap.size, 0, none⟩ 1 1 ((ndArr y (.slice Ay ny ky)).toList) rfl rfl HC6.out (nd_one _ _ _ _) (by unfold maxLen; omega) (by omega) (by simp; omega) ?_; intro v7 w7 hown7 hgrow7 _; obtain ⟨g7, c7, rfl⟩ := ownsRow_succ hown7; have HE7 := Lib.hid (HS.out.fin HP1.out HO1.out rfl HF6.out HB6.out hown7 hgrow7); clear hown7 hgrow7))
        go_ret
        rw [HCP.out]
        exact HE7.out
end Go.Proofs.YteikpeaakmbihaaDoor.T
/- Sub, Norm, SameList, the document's. -/
namespace Go.Proofs.YteikpeaakmbihaaDoor.T
open Go.RowKit Go.Shelf
/-- What is made of nodes: an Expr of the call's own. -/
def NPost (N : List Nd) (w : World) (e : Ending) (w' : World) : Prop := ∃ A c ps, e = .returned (.agg #[.slice A N.length c]) ∧ ps.map Prod.fst = N ∧ OwnN w.heap.size w' (.slice A N.length c) ps ∧ Below w.heap.size w w'
theorem NPost.nodes {N : List Nd} {w : World} {f : Nat} {args : Array Value} (h : Calls Tryd.prog f args w (NPost N w)) : Calls Tryd.prog f args w fun e w' => ∃ A c, e = .returned (.agg #[.slice A N.length c]) ∧ Nodes w'.heap.size w' (.slice A N.length c) N ∧ Below w.heap.size w w' := by
  refine Calls.mono h ?_
  rintro e w' ⟨A, c, ps, rfl, hp, ho, hb⟩
  have hn := own_nodes ho
  rw [hp] at hn
  exact ⟨A, c, rfl, hn, hb⟩
theorem res26 (tmps : Array Value) (W : World) (p : Nat) (A : Option Addr) (n c : Nat) (h2 : tmps[4]?.getD undef = .pointer (some ⟨p, 0, none⟩)) (hb : W.cell? ⟨p, 0, none⟩ = some (.slice A n c)) :
    Sem.run Tryd.prog (results Tryd.f26 tmps) W = .ok (.agg #[.slice A n c]) W := by
  simp [results, Tryd.results26, go_sem, h2, hb]
theorem res25 (tmps : Array Value) (W : World) (p : Nat) (A : Option Addr) (n c : Nat) (h2 : tmps[2]?.getD undef = .pointer (some ⟨p, 0, none⟩)) (hb : W.cell? ⟨p, 0, none⟩ = some (.slice A n c)) :
    Sem.run Tryd.prog (results Tryd.f25 tmps) W = .ok (.agg #[.slice A n c]) W := by
  simp [results, Tryd.results25, go_sem, h2, hb]
theorem ownN_low {B B' : Nat} {W : World} {v : Value} {ps : List (Nd × Value)} (h : OwnN B' W v ps) (hB : B ≤ B') : OwnN B W v ps := ⟨row_mono h.1 hB, fun x hx => row_mono (h.2 x hx) hB⟩
set_option maxRecDepth 100000 in
set_option maxHeartbeats 4000000 in
theorem rsub_any (l N : List Nd) (A : Option Addr) (c : Nat) (i : Nat) (hN : cp l i [] = N) (hm : may l = 0) (hi : i < l.length) (w : World) (hv : Nodes w.heap.size w (.slice A l.length c) l) (HS : ∀ x ∈ l, Small x) :
    Calls Tryd.prog 26 #[.agg #[.slice A l.length c], .int .i64 (i : Int)] w (NPost N w) := by
  obtain ⟨h1, h6⟩ := may_big hm
  have hf := (may_zero hm).2.1
  have hk : kidsOk l := hf.2.1
  have hn : (allKids l).Nodup := hf.2.2.1.1
  have hpl := post_len hk hn hi
  obtain ⟨A', c', e, hc, _, hq⟩ := hv
  cases e
  obtain ⟨b, o, rfl, hb, hnd⟩ := hq (by omega)
  obtain ⟨L, hL⟩ : ∃ L, l.length = L := ⟨_, rfl⟩
  obtain ⟨W2, hW2⟩ : ∃ W2, (w.alloc (.cells #[.slice (some ⟨b, o, none⟩) L c] 24)).alloc (.cells #[.slice none 0 0] 24) = W2 := ⟨_, rfl⟩
  have hB2 : Below w.heap.size w W2 := by rw [← hW2]; exact ((Below.refl _ w).alloc (Nat.le_refl _) _).alloc (by simp) _
  have hs2 : W2.heap.size = w.heap.size + 2 := by rw [← hW2]; simp
  have hc2 : W2.heap[w.heap.size + 1]? = some (.cells #[.slice none 0 0] 24 (0, 0)) := by rw [← hW2]; exact newAt (by simp)
  have hnd2 : NdsAt W2.heap.size W2 b o l := (NdsAt.below hnd hB2 hb).mono hB2.size
  have HC := Lib.hid (copyOf_any l L c b o W2.heap.size (Lib.hid hL) (by omega) (Lib.hid hk) (Lib.hid fun x hx => (HS x hx).2.2.1) (by omega) i (by omega) W2 (.slice none 0 0) [] (Nat.le_refl _) hnd2 (ownN_nil _ _) (by simp; omega))
  have HB2 := Lib.hid hB2
  have HS2 := Lib.hid hs2
  have HC2 := Lib.hid hc2
  rw [List.map_nil, hN] at HC
  rw [hL]
  rw [← hW2] at HC HC2 HB2 HS2
  clear hW2 hB2 hs2 hc2 hnd2 hnd hN hq hk hn hf
  go_enter Tryd.func26, Tryd.ntmps26
  go_wp2_with (go_at_call 52; refine HC.out.mono ?_; rintro e w1 ⟨v1, ps, rfl, hps, hown, hkp⟩; obtain ⟨A1, k1, rfl⟩ := own_slice_len hown hps rfl rfl; have hx1 := (hkp.1.block (w.heap.size + 1) (by simp)).trans HC2.out; have f1 := Blk_frozen hx1 0; have c1 : w1.cell? ⟨w.heap.size + 1, 0, none⟩ = some (.slice none 0 0) := (Blk_cell hx1 0).trans rfl; have HX1 := Lib.hid hx1; have HO1 := Lib.hid hown; have HP1 := Lib.hid hps; have HK1 := Lib.hid hkp; clear hx1 hown hps hkp)
  have hx := blk_put (j := 0) (v := .slice A1 N.length k1) HX1.out
  refine bodyPost_ret (v := .agg #[.slice A1 N.length k1]) (res26 _ _ (w.heap.size + 1) A1 N.length k1 rfl ((Blk_cell hx 0).trans rfl)) rfl ⟨_, _, ps, rfl, HP1.out, ?_, ?_⟩
  · have h := ownN_heap (W' := w1.setCell ⟨w.heap.size + 1, 0, none⟩ (.slice A1 N.length k1)) HO1.out (fun g hg _ => set_far _ _ _ _ _ (by simp at hg; omega))
    exact ownN_low h (by simp; omega)
  · exact (HB2.out.trans (HK1.out.1.mono (by simp; omega))).setCell (p := ⟨w.heap.size + 1, 0, none⟩) (by show w.heap.size ≤ w.heap.size + 1; omega) _
set_option maxRecDepth 100000 in
set_option maxHeartbeats 4000000 in
theorem rnorm_any (l N : List Nd) (A : Option Addr) (c : Nat) (hN : nrm l = N) (hm : may l = 0) (w : World) (hv : Nodes w.heap.size w (.slice A l.length c) l) (HS : ∀ x ∈ l, Small x) :
    Calls Tryd.prog 25 #[.agg #[.slice A l.length c]] w (NPost N w) := by
  obtain ⟨h1, h6⟩ := may_big hm
  obtain ⟨W2, hW2⟩ : ∃ W2, (w.alloc (.cells #[.slice A l.length c] 24)).alloc (.cells #[.slice none 0 0] 24) = W2 := ⟨_, rfl⟩
  have hB2 : Below w.heap.size w W2 := by rw [← hW2]; exact ((Below.refl _ w).alloc (Nat.le_refl _) _).alloc (by simp) _
  have hs2 : W2.heap.size = w.heap.size + 2 := by rw [← hW2]; simp
  have hc2 : W2.heap[w.heap.size + 1]? = some (.cells #[.slice none 0 0] 24 (0, 0)) := by rw [← hW2]; exact newAt (by simp)
  have hcall := rsub_any l N A c (l.length - 1) (by rw [← hN, nrm, if_pos hm]) hm (by omega) W2 ((hv.below hB2).mono hB2.size) HS
  rw [show ((l.length - 1 : Nat) : Int) = (l.length : Int) - 1 by omega] at hcall
  have HC := Lib.hid hcall
  have HB2 := Lib.hid hB2
  have HC2 := Lib.hid hc2
  rw [← hW2] at HC HC2 HB2
  clear hcall hW2 hB2 hs2 hc2 hN hv HS
  go_enter Tryd.func25, Tryd.ntmps25
  go_wp2_with (go_at_call 26; refine HC.out.mono ?_; rintro e w1 ⟨A1, k1, ps, rfl, hps, hn1, hb1⟩; have HP1 := Lib.hid hps; have hx1 := (hb1.block (w.heap.size + 1) (by simp)).trans HC2.out; have f1 := Blk_frozen hx1 0; have c1 : w1.cell? ⟨w.heap.size + 1, 0, none⟩ = some (.slice none 0 0) := (Blk_cell hx1 0).trans rfl; have HX1 := Lib.hid hx1; have HN1 := Lib.hid hn1; have HB1 := Lib.hid hb1; clear hx1 hn1 hb1 hps)
  have hx := blk_put (j := 0) (v := .slice A1 N.length k1) HX1.out
  refine bodyPost_ret (v := .agg #[.slice A1 N.length k1]) (res25 _ _ (w.heap.size + 1) A1 N.length k1 rfl ((Blk_cell hx 0).trans rfl)) rfl ⟨_, _, ps, rfl, HP1.out, ?_, ?_⟩
  · have h := ownN_heap (W' := w1.setCell ⟨w.heap.size + 1, 0, none⟩ (.slice A1 N.length k1)) HN1.out (fun g hg _ => set_far _ _ _ _ _ (by simp at hg; omega))
    exact ownN_low h (by simp; omega)
  · exact (HB2.out.trans (HB1.out.mono (by simp; omega))).setCell (p := ⟨w.heap.size + 1, 0, none⟩) (by show w.heap.size ≤ w.heap.size + 1; omega) _
set_option maxRecDepth 100000 in
set_option maxHeartbeats 8000000 in
theorem rlist_pos (l m : List Nd) (L c1 c2 : Nat) (A C : Option Addr) (HL : Hid (l.length = L)) (HM : Hid (m.length = L)) (hL : L ≤ 1000000) (w : World) (HP : Hid (0 < L → ∃ b1 o1 b2 o2, A = some (⟨b1, o1, none⟩ : Addr) ∧ C = some (⟨b2, o2, none⟩ : Addr) ∧ b1 < w.heap.size ∧ b2 < w.heap.size ∧ NdsAt w.heap.size w b1 o1 l ∧ NdsAt w.heap.size w b2 o2 m)) (HS1 : Hid (∀ x ∈ l, x.l.length ≤ 1000000)) :
    Calls Tryd.prog 24 #[.agg #[.slice A L c1], .agg #[.slice C L c2]] w fun e w' => e = .returned (.bool (lns l m)) ∧ Below w.heap.size w w' := by
  obtain ⟨W2, hW2⟩ : ∃ W2, (w.alloc (.cells #[.slice A L c1] 24)).alloc (.cells #[.slice C L c2] 24) = W2 := ⟨_, rfl⟩
  have HB2 : Hid (Below w.heap.size w W2) := Lib.hid (by rw [← hW2]; exact ((Below.refl _ w).alloc (Nat.le_refl _) _).alloc (by simp) _)
  have HX0 : Hid (W2.heap[w.heap.size]? = some (.cells #[.slice A L c1] 24 (0, 0))) := Lib.hid (by rw [← hW2]; exact nextAt (newAt rfl))
  have HY0 : Hid (W2.heap[w.heap.size + 1]? = some (.cells #[.slice C L c2] 24 (0, 0))) := Lib.hid (by rw [← hW2]; exact newAt (by simp))
  have HW2 := Lib.hid hW2
  have hs2 : W2.heap.size = w.heap.size + 2 := by rw [← hW2]; simp
  clear hW2
  go_enter Tryd.func24, Tryd.ntmps24
  go_wp2
  go_loopw [5] (fun i wr => ∃ q : Nat, i = .int .i64 (q : Int) ∧ q ≤ L ∧ Hid (∀ (j : Nat) (x y : Nd), j < q → l[j]? = some x → m[j]? = some y → sn x y = true) ∧ Hid (Below W2.heap.size W2 wr)) (fun i _ => L - (intOf i).toNat)
  case atStart => exact ⟨0, rfl, Nat.zero_le _, Lib.hid (fun j f g h => absurd h (by omega)), Lib.hid (by rw [HW2.out]; exact Below.refl _ _)⟩
  case round =>
    obtain ⟨q, rfl, hq, HA, HB⟩ := hrel
    have hsz := HB.out.size
    have hx0 := (HB.out.block w.heap.size (by omega)).trans HX0.out
    have hy0 := (HB.out.block (w.heap.size + 1) (by omega)).trans HY0.out
    have cx : wr.cell? ⟨w.heap.size, 0, none⟩ = some (.slice A L c1) := (Blk_cell hx0 0).trans rfl
    have cy : wr.cell? ⟨w.heap.size + 1, 0, none⟩ = some (.slice C L c2) := (Blk_cell hy0 0).trans rfl
    have HBW : Hid (Below w.heap.size w wr) := Lib.hid (HB2.out.trans (HB.out.mono (by omega)))
    clear hx0 hy0
    by_cases hlt : q < L
    · obtain ⟨b1, o1, b2, o2, rfl, rfl, hb1, hb2, hf1, hf2⟩ := HP.out (by omega)
      obtain ⟨x, hx⟩ : ∃ x, l[q]? = some x := ⟨_, List.getElem?_eq_getElem (by rw [HL.out]; exact hlt)⟩
      obtain ⟨y, hy⟩ : ∃ y, m[q]? = some y := ⟨_, List.getElem?_eq_getElem (by rw [HM.out]; exact hlt)⟩
      obtain ⟨fv, hfl, m0, m1, m2, m3, m4, m5, m6, m7, m8⟩ := (hf1.below HBW.out hb1) q x hx
      obtain ⟨gv, hgl, n0, n1, n2, n3, n4, n5, n6, n7, n8⟩ := (hf2.below HBW.out hb2) q y hy
      have HE : Hid (∀ w1, Below wr.heap.size wr w1 → Calls Tryd.prog 51 #[.agg (ndArr x fv), .agg (ndArr y gv)] w1 fun e w' => e = .returned (.bool (sn x y)) ∧ Below w1.heap.size w1 w') := Lib.hid fun w1 hb => rsn_any x y fv gv w1 (((hfl.mono (by omega)).below hb).mono hb.size) (((hgl.mono (by omega)).below hb).mono hb.size) (HS1.out x (List.mem_of_getElem? hx))
      obtain ⟨FA, fc, rfl, _⟩ := hfl
      obtain ⟨GA, gc, rfl, _⟩ := hgl
      have HX := Lib.hid hx
      have HY := Lib.hid hy
      obtain ⟨t, ht⟩ : ∃ t, sn x y = t := ⟨_, rfl⟩
      rw [ht] at HE
      have HT := Lib.hid ht
      clear hx hy ht hf1 hf2
      cases t with
      | false =>
        go_wp2_with fail
        go_region_with (go_at_call 51; refine (HE.out _ (Below.refl _ _).drew).mono ?_; rintro e w1 ⟨rfl, hb⟩; have HBB := Lib.hid (Below.trans (Below.refl wr.heap.size wr).drew hb); clear hb)
        all_goals
          go_wp2
          go_ret
          exact ⟨ret_b (lns_no HX.out HY.out HT.out).symm, HBW.out.trans (HBB.out.mono (by omega))⟩
      | true =>
        go_wp2_with fail
        go_region_with (go_at_call 51; refine (HE.out _ (Below.refl _ _).drew).mono ?_; rintro e w1 ⟨rfl, hb⟩; have HBB := Lib.hid (Below.trans (Below.refl wr.heap.size wr).drew hb); clear hb)
        all_goals
          go_wp2
          go_roundw
          case rel =>
            refine ⟨q + 1, by go_num, by omega, Lib.hid ?_, Lib.hid (HB.out.trans (HBB.out.mono hsz))⟩
            intro j f' g' hj hf' hg'
            by_cases e : j = q
            · subst e
              rw [HX.out] at hf'; rw [HY.out] at hg'
              injection hf' with hf'; injection hg' with hg'
              subst hf' hg'; exact HT.out
            · exact HA.out j f' g' (by omega) hf' hg'
          case measure => simp [intOf]; omega
    · obtain rfl : q = L := by omega
      have HR : Hid (lns l m = true) := Lib.hid (lns_yes (fun j f g h1 h2 => HA.out j f g (by have := lt_of_some h1; rw [HL.out] at this; exact this) h1 h2) (by rw [HL.out, HM.out]))
      go_wp2
      go_ret
      exact ⟨ret_b HR.out.symm, HBW.out⟩
set_option maxHeartbeats 1000000 in
theorem rlist_len (L M c1 c2 : Nat) (A C : Option Addr) (hne : ¬ L = M) (w : World) :
    Calls Tryd.prog 24 #[.agg #[.slice A L c1], .agg #[.slice C M c2]] w fun e w' => e = .returned (.bool false) ∧ Below w.heap.size w w' := by
  have hb : ((L : Int) != (M : Int)) = true := by simpa using (by omega : ¬ (L : Int) = (M : Int))
  go_enter Tryd.func24, Tryd.ntmps24
  go_wp2
  go_ret
  exact ⟨rfl, ((Below.refl _ w).alloc (Nat.le_refl _) _).alloc (by simp) _⟩
theorem rlist_any (l m : List Nd) (v u : Value) (w : World) (hv : Nodes w.heap.size w v l) (hu : Nodes w.heap.size w u m) (hL : l.length ≤ 1000000) (hS1 : ∀ x ∈ l, x.l.length ≤ 1000000) :
    Calls Tryd.prog 24 #[.agg #[v], .agg #[u]] w fun e w' => e = .returned (.bool (ln l m)) ∧ Below w.heap.size w w' := by
  obtain ⟨A, c1, rfl, _, _, hq⟩ := hv
  obtain ⟨C, c2, rfl, _, _, hr⟩ := hu
  by_cases he : l.length = m.length
  · have hb : ln l m = lns l m := by rw [ln, he]; simp
    rw [hb, ← he]
    refine rlist_pos l m _ c1 c2 A C (Lib.hid rfl) (Lib.hid he.symm) hL w (Lib.hid fun h => ?_) (Lib.hid hS1)
    obtain ⟨b1, o1, rfl, hb1, h1⟩ := hq h
    obtain ⟨b2, o2, rfl, hb2, h2⟩ := hr (by omega)
    exact ⟨b1, o1, b2, o2, rfl, rfl, hb1, hb2, h1, h2⟩
  · have hb : ln l m = false := by rw [ln]; simp [he]
    rw [hb]
    exact rlist_len _ _ c1 c2 A C he w
end Go.Proofs.YteikpeaakmbihaaDoor.T
