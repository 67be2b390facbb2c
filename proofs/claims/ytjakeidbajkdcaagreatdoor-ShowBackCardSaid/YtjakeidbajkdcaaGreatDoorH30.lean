/- Joined by program. -/
import Derived.Test.YtjakeidbajkdcaaGreatDoorH18
import Derived.Test.YtjakeidbajkdcaaGreatDoorH10
import Derived.Test.YtjakeidbajkdcaaGreatDoorH13
import Derived.Test.YtjakeidbajkdcaaGreatDoorH16
set_option maxRecDepth 100000
set_option maxHeartbeats 8000000
namespace Go.Proofs.YtjakeidbajkdcaaGreatDoor.T
open Go.RowKit
theorem relab_pl : ∀ (l : List Fld) (ks : List Int), ks.length = l.length -> (relab l ks).map Fld.pl = ks
  | [], [], _ => rfl
  | [], _ :: _, h => by simp at h
  | _ :: _, [], h => by simp at h
  | f :: l, k :: ks, h => by
    have := relab_pl l ks (by simpa using h)
    simpa [relab] using this
theorem relab_two : ∀ (l : List Fld) (ks js : List Int), ks.length = l.length -> relab (relab l ks) js = relab l js
  | [], [], _, _ => by simp [relab]
  | [], _ :: _, _, h => by simp at h
  | _ :: _, [], _, h => by simp at h
  | f :: l, k :: ks, [], _ => by simp [relab]
  | f :: l, k :: ks, j :: js, h => by
    have := relab_two l ks js (by simpa using h)
    simpa [relab] using this
theorem own_wk (x : Nd) (ks : List Int) : own (wk x ks) = own x := by
  unfold own kids0 wk
  simp only
  repeat' split
  all_goals simp_all
theorem many_wk (x : Nd) (ks : List Int) : many (wk x ks) = many x := rfl
theorem kids_length (x : Nd) : (kids x).length = own x + if many x = true then x.l.length else 0 := by
  rw [kids, List.length_append, own]
  split <;> simp
theorem kids_wk {x : Nd} {ks : List Int} (h : ks.length = (kids x).length) : kids (wk x ks) = ks := by
  rw [kids_length] at h
  have hd : many x = true -> (ks.drop (own x)).length = x.l.length := fun hm => by rw [List.length_drop, h, if_pos hm]; omega
  rw [kids, many_wk]
  have e0 : kids0 (wk x ks) = ks.take (own x) := by
    have hl : own x <= ks.length := by omega
    unfold wk
    unfold own at hl ⊢
    by_cases h1 : x.kind = 5 ∨ x.kind = 12 ∨ x.kind = 13 ∨ x.kind = 14
    · simp only [kids0, if_pos h1, List.length_cons, List.length_nil] at hl ⊢
      match ks, hl with
      | [], hl => simp at hl
      | a :: _, _ => simp
    · by_cases h2 : x.kind = 6 ∨ x.kind = 7 ∨ x.kind = 8 ∨ x.kind = 10
      · simp only [kids0, if_neg h1, if_pos h2, List.length_cons, List.length_nil] at hl ⊢
        match ks, hl with
        | [], hl => simp at hl
        | [_], hl => simp at hl
        | a :: b :: _, _ => simp
      · by_cases h3 : x.kind = 9
        · simp only [kids0, if_neg h1, if_neg h2, if_pos h3, List.length_cons, List.length_nil] at hl ⊢
          match ks, hl with
          | [], hl => simp at hl
          | [_], hl => simp at hl
          | [_, _], hl => simp at hl
          | a :: b :: c :: _, _ => simp
        · simp only [kids0, if_neg h1, if_neg h2, if_neg h3, List.length_nil] at hl ⊢
          simp
  rw [e0]
  by_cases hm : many x = true
  · rw [if_pos hm]
    have e1 : (wk x ks).l = relab x.l (ks.drop (own x)) := by show (if many x = true then _ else _) = _; rw [if_pos hm]
    rw [e1, relab_pl _ _ (hd hm), List.take_append_drop]
  · rw [if_neg hm, List.append_nil]
    rw [if_neg hm] at h
    exact List.take_of_length_le (by omega)
theorem wk_two {x : Nd} {ks js : List Int} (h : ks.length = (kids x).length) : wk (wk x ks) js = wk x js := by
  rw [kids_length] at h
  have ho := own_wk x ks
  show ({ wk x ks with a := _, b := _, c := _, l := _ } : Nd) = _
  rw [ho, many_wk]
  unfold wk
  by_cases hm : many x = true
  · rw [if_pos hm] at h
    simp only [hm, if_true]
    rw [relab_two _ _ _ (by rw [List.length_drop]; omega)]
  · simp only [hm]
    simp
theorem sh_sh (f g : Nat) (m : Nd) : sh f (sh g m) = sh (g + f) m := by
  have hl : ((kids m).map (· + (g : Int))).length = (kids m).length := List.length_map _
  unfold sh
  rw [kids_wk hl, wk_two hl, List.map_map]
  congr 1
  apply List.map_congr_left
  intro k _
  simp only [Function.comp]
  omega
theorem cps_len2 (l : List Nd) : ∀ (ks : List Int) (p : List Nd × List Int), (cps l p ks).2.length = p.2.length + ks.length := by
  intro ks
  induction ks using snocInd with
  | h0 => intro p; simp [cps]
  | h1 ks k ih => intro p; rw [cps_snoc]; simp [ih p]; omega
theorem cp_shift {l : List Nd} (hk : kidsOk l) : ∀ i, i < l.length -> ∀ out : List Nd, cp l i out = out ++ (cp l i []).map (sh out.length) := by
  intro i
  induction i using Nat.strongRecOn with
  | ind i ih =>
    intro hi out
    have hx : l[i]? = some (l[i]'hi) := List.getElem?_eq_getElem hi
    obtain ⟨x, hx'⟩ : ∃ x, l[i]'hi = x := ⟨_, rfl⟩
    rw [hx'] at hx
    have ha : ahead i x := fun k hk' => hk i x hx k hk'
    have key : ∀ ks : List Int, (∀ k ∈ ks, 0 <= k /\ k < (i : Int)) -> cps l (out, []) ks = (out ++ (cps l ([], []) ks).1.map (sh out.length), (cps l ([], []) ks).2.map (· + (out.length : Int))) := by
      intro ks
      induction ks using snocInd with
      | h0 => intro _; simp [cps]
      | h1 ks k ih2 =>
        intro hks
        have h1 := ih2 fun k' hk' => hks k' (by simp [hk'])
        have hkk := hks k (by simp)
        have hlt : k.toNat < i := toNat_lt hkk
        have e : cp l k.toNat (out ++ (cps l ([], []) ks).1.map (sh out.length)) = out ++ (cp l k.toNat (cps l ([], []) ks).1).map (sh out.length) := by
          rw [ih k.toNat hlt (by omega) (out ++ (cps l ([], []) ks).1.map (sh out.length)), ih k.toNat hlt (by omega) (cps l ([], []) ks).1, List.map_append, List.map_map, List.append_assoc]
          congr 2
          apply List.map_congr_left
          intro m _
          simp only [Function.comp]
          rw [sh_sh, List.length_append, List.length_map, Nat.add_comm]
        rw [cps_snoc, cps_snoc, h1]
        simp only
        rw [e]
        simp only [List.map_append, List.map_cons, List.map_nil, List.length_append, List.length_map]
        congr 2
        simp only [List.cons.injEq, and_true]
        omega
    have hks : ∀ k ∈ kids x, 0 <= k /\ k < (i : Int) := fun k hk' => ha k hk'
    have hlen : (cps l ([], []) (kids x)).2.length = (kids x).length := by rw [cps_len2]; simp
    rw [cp_eq hx ha out, cp_eq hx ha [], key _ hks, List.map_append, List.append_assoc]
    simp only [List.map_cons, List.map_nil]
    congr 3
    unfold sh
    rw [kids_wk hlen, wk_two hlen]
theorem join_subs {l : List Nd} (hk : kidsOk l) {i : Nat} {x : Nd} (hx : l[i]? = some x) : joinN x ((kids x).map fun k => cp l k.toNat []) = cp l i [] := by
  have hi := (List.getElem?_eq_some_iff.1 hx).1
  have ha : ahead i x := fun k hk' => hk i x hx k hk'
  have key : ∀ ks : List Int, (∀ k ∈ ks, 0 <= k /\ k < (i : Int)) -> jn (ks.map fun k => cp l k.toNat []) = cps l ([], []) ks := by
    intro ks
    induction ks using snocInd with
    | h0 => intro _; simp [cps, jn]
    | h1 ks k ih =>
      intro hks
      have h1 := ih fun k' hk' => hks k' (by simp [hk'])
      have hkk := hks k (by simp)
      rw [List.map_append, cps_snoc]
      simp only [List.map_cons, List.map_nil]
      rw [jn_snoc, h1, jstep, cp_shift hk k.toNat (by omega) (cps l ([], []) ks).1]
      simp
  rw [joinN, key _ fun k hk' => ha k hk', cp_eq hx ha []]
open Go.RowKit
theorem kidsOk_snoc {N : List Nd} {y : Nd} (h : kidsOk N) (hy : ∀ k ∈ kids y, 0 <= k /\ k < (N.length : Int)) : kidsOk (N ++ [y]) := by
  intro i x hx k hk
  by_cases hi : i < N.length
  · rw [List.getElem?_append_left hi] at hx
    exact h i x hx k hk
  · rw [List.getElem?_append_right (by omega)] at hx
    have hl := (List.getElem?_eq_some_iff.1 hx).1
    simp only [List.length_singleton] at hl
    obtain rfl : i = N.length := by omega
    simp only [Nat.sub_self, List.getElem?_cons_zero, Option.some.injEq] at hx
    subst hx
    exact hy k hk
theorem cp_kids {l : List Nd} (hk : kidsOk l) : ∀ i, i < l.length -> ∀ out : List Nd, kidsOk out -> kidsOk (cp l i out) /\ out.length < (cp l i out).length /\
    ∀ j : Nat, (allKids (cp l i out)).count (j : Int) = (allKids out).count (j : Int) + if out.length <= j /\ j + 1 < (cp l i out).length then 1 else 0 := by
  intro i
  induction i using Nat.strongRecOn with
  | ind i ih =>
    intro hi out ho
    have hx : l[i]? = some (l[i]'hi) := List.getElem?_eq_getElem hi
    obtain ⟨x, hx'⟩ : ∃ x, l[i]'hi = x := ⟨_, rfl⟩
    rw [hx'] at hx
    have ha : ahead i x := fun k hk' => hk i x hx k hk'
    have key : ∀ ks : List Int, (∀ k ∈ ks, 0 <= k /\ k < (i : Int)) -> kidsOk (cps l (out, []) ks).1 /\ out.length <= (cps l (out, []) ks).1.length /\ (∀ m ∈ (cps l (out, []) ks).2, 0 <= m /\ m < ((cps l (out, []) ks).1.length : Int)) /\
        ∀ j : Nat, (allKids (cps l (out, []) ks).1).count (j : Int) + (cps l (out, []) ks).2.count (j : Int) = (allKids out).count (j : Int) + if out.length <= j /\ j < (cps l (out, []) ks).1.length then 1 else 0 := by
      intro ks
      induction ks using snocInd with
      | h0 => intro _; exact ⟨ho, Nat.le_refl _, fun m hm => by simp [cps] at hm, fun j => by
        have e : cps l (out, []) [] = (out, []) := rfl
        rw [e, if_neg (by simp only; omega)]; rfl⟩
      | h1 ks k ih2 =>
        intro hks
        obtain ⟨b1, b2, b3, b4⟩ := ih2 fun k' hk' => hks k' (by simp [hk'])
        have hkk := hks k (by simp)
        obtain ⟨c1, c2, c3⟩ := ih k.toNat (toNat_lt hkk) (by omega) _ b1
        rw [cps_snoc]
        refine ⟨c1, by simp only; omega, fun m hm => ?_, fun j => ?_⟩
        · simp only at hm ⊢
          rcases List.mem_append.1 hm with hm | hm
          · have := b3 m hm; omega
          · have := List.mem_singleton.1 hm; omega
        · simp only
          rw [List.count_append, c3 j, List.count_singleton]
          have h4 := b4 j
          by_cases hj : (((cp l k.toNat (cps l (out, []) ks).1).length : Int) - 1 == (j : Int)) = true
          · rw [if_pos hj]
            have hj' : ((cp l k.toNat (cps l (out, []) ks).1).length : Int) - 1 = (j : Int) := by simpa using hj
            rw [if_neg (by omega)]
            rw [if_pos (by omega)]
            rw [if_neg (by omega)] at h4
            omega
          · rw [if_neg hj]
            have hj' : ¬ ((cp l k.toNat (cps l (out, []) ks).1).length : Int) - 1 = (j : Int) := by simpa using hj
            split <;> split <;> split at h4 <;> omega
    obtain ⟨b1, b2, b3, b4⟩ := key (kids x) fun k hk' => ha k hk'
    have hlen : (cps l (out, []) (kids x)).2.length = (kids x).length := by rw [cps_len2]; simp
    rw [cp_eq hx ha out]
    have hkw := kids_wk hlen
    refine ⟨kidsOk_snoc b1 (by rw [hkw]; exact b3), by rw [List.length_append]; simp; omega, fun j => ?_⟩
    rw [allKids_snoc, hkw, List.count_append, b4 j, List.length_append, List.length_singleton]
    simp only [Nat.add_lt_add_iff_right]
theorem cp_once {l : List Nd} (hk : kidsOk l) {i : Nat} (hi : i < l.length) : kidsOk (cp l i []) /\ onceOk (cp l i []) := by
  obtain ⟨h1, h2, h3⟩ := cp_kids hk i hi [] (fun i x hx => by simp at hx)
  have h0 : ∀ j : Nat, (allKids (cp l i [])).count (j : Int) = if j + 1 < (cp l i []).length then 1 else 0 := fun j => by
    rw [h3 j]; simp [allKids]
  refine ⟨h1, List.nodup_iff_count.2 fun k => ?_, fun j hj => ?_⟩
  · by_cases hm : k ∈ allKids (cp l i [])
    · obtain ⟨q, x, hq, hk'⟩ := mem_allKids.1 hm
      have := h1 q x hq k hk'
      obtain ⟨j, rfl⟩ := Int.eq_ofNat_of_zero_le this.1
      rw [h0 j]; split <;> omega
    · rw [List.count_eq_zero.2 hm]; omega
  · have := h0 j
    rw [if_pos hj] at this
    exact List.count_pos_iff.1 (by omega)
open Go.RowKit
def kd (N : List Nd) (m : Nat) : Option Int × Nat := (N[m]?.map Nd.kind, (deeps N).getD m 0)
theorem kd_app {N r : List Nd} {m : Nat} (h : m < N.length) : kd (N ++ r) m = kd N m := by
  obtain ⟨s, hs⟩ := deeps_app N r
  unfold kd
  rw [List.getElem?_append_left h, hs, List.getD_eq_getElem?_getD, List.getElem?_append_left (by rw [deeps_len]; exact h), List.getD_eq_getElem?_getD]
theorem kd_map {N r : List Nd} {J : List Int} (h : ∀ m ∈ J, 0 <= m /\ m < (N.length : Int)) : J.map (fun m => kd (N ++ r) m.toNat) = J.map fun m => kd N m.toNat :=
  List.map_congr_left fun m hm => kd_app (by have := h m hm; omega)
theorem recAt_app {N r : List Nd} {y : Nd} (h : recAt N y) : recAt (N ++ r) y := fun hy => by
  obtain ⟨z, hz, hk⟩ := h hy
  exact ⟨z, by rw [List.getElem?_append_left (List.getElem?_eq_some_iff.1 hz).1]; exact hz, hk⟩
theorem recOk_snoc {N : List Nd} {y : Nd} (h : recOk N) (hy : recAt (N ++ [y]) y) : recOk (N ++ [y]) := by
  intro i x hx
  by_cases hi : i < N.length
  · rw [List.getElem?_append_left hi] at hx
    exact recAt_app (h i x hx)
  · rw [List.getElem?_append_right (by omega)] at hx
    have hl := (List.getElem?_eq_some_iff.1 hx).1
    simp only [List.length_singleton] at hl
    obtain rfl : i = N.length := by omega
    simp only [Nat.sub_self, List.getElem?_cons_zero, Option.some.injEq] at hx
    subst hx
    exact hy
theorem mx_kd (N : List Nd) (J : List Int) : mx N J = ((J.map fun m => kd N m.toNat).map Prod.snd).foldl max 0 := by
  unfold mx
  rw [List.map_map]
  rfl
theorem cp_like {l : List Nd} (hk : kidsOk l) (hr : recOk l) : ∀ i, i < l.length -> ∀ out : List Nd, kidsOk out -> recOk out -> recOk (cp l i out) /\ kd (cp l i out) ((cp l i out).length - 1) = kd l i := by
  intro i
  induction i using Nat.strongRecOn with
  | ind i ih =>
    intro hi out ho hro
    have hx : l[i]? = some (l[i]'hi) := List.getElem?_eq_getElem hi
    obtain ⟨x, hx'⟩ : ∃ x, l[i]'hi = x := ⟨_, rfl⟩
    rw [hx'] at hx
    have ha : ahead i x := fun k hk' => hk i x hx k hk'
    have key : ∀ ks : List Int, (∀ k ∈ ks, 0 <= k /\ k < (i : Int)) -> kidsOk (cps l (out, []) ks).1 /\ recOk (cps l (out, []) ks).1 /\ (∀ m ∈ (cps l (out, []) ks).2, 0 <= m /\ m < ((cps l (out, []) ks).1.length : Int)) /\
        (cps l (out, []) ks).2.map (fun m => kd (cps l (out, []) ks).1 m.toNat) = ks.map fun k => kd l k.toNat := by
      intro ks
      induction ks using snocInd with
      | h0 => intro _; exact ⟨ho, hro, fun m hm => by simp [cps] at hm, rfl⟩
      | h1 ks k ih2 =>
        intro hks
        obtain ⟨b1, b2, b3, b4⟩ := ih2 fun k' hk' => hks k' (by simp [hk'])
        have hkk := hks k (by simp)
        obtain ⟨c1, c2, _⟩ := cp_kids hk k.toNat (by omega) _ b1
        obtain ⟨d1, d2⟩ := ih k.toNat (toNat_lt hkk) (by omega) _ b1 b2
        rw [cps_snoc]
        refine ⟨c1, d1, fun m hm => ?_, ?_⟩
        · simp only at hm ⊢
          rcases List.mem_append.1 hm with hm | hm
          · have := b3 m hm; omega
          · have := List.mem_singleton.1 hm; omega
        · simp only
          rw [List.map_append, List.map_append, List.map_singleton, List.map_singleton]
          congr 1
          · have e := cp_shift hk k.toNat (by omega) (cps l (out, []) ks).1
            rw [e, kd_map b3, b4]
          · rw [<- d2]
            congr 2
            omega
    obtain ⟨b1, b2, b3, b4⟩ := key (kids x) fun k hk' => ha k hk'
    have hlen : (cps l (out, []) (kids x)).2.length = (kids x).length := by rw [cps_len2]; simp
    have hkw := kids_wk hlen
    rw [cp_eq hx ha out]
    obtain ⟨N, hN⟩ : ∃ N, (cps l (out, []) (kids x)).1 = N := ⟨_, rfl⟩
    obtain ⟨J, hJ⟩ : ∃ J, (cps l (out, []) (kids x)).2 = J := ⟨_, rfl⟩
    rw [hN, hJ] at b3 b4
    rw [hN] at b1 b2 ⊢
    rw [hJ] at hlen hkw ⊢
    have hat : (N ++ [wk x J])[N.length]? = some (wk x J) := by simp
    have hah : ahead N.length (wk x J) := fun k hk' => by rw [hkw] at hk'; exact b3 k hk'
    refine ⟨recOk_snoc b2 fun h8 => ?_, ?_⟩
    · have h8' : x.kind = 8 := h8
      obtain ⟨y, hy, hy5⟩ := hr i x hx h8'
      have hks : kids x = [x.a, x.b] := by simp [kids, kids0, many, h8']
      rw [hks] at hlen b4
      match J, hlen with
      | [p, q], _ =>
        have e1 : (wk x [p, q]).a = p := by simp [wk, own, kids0, h8']
        rw [e1]
        simp only [List.map_cons, List.map_nil, List.cons.injEq, Prod.mk.injEq, kd] at b4
        have hp := b3 p (by simp)
        have h1 := b4.1.1
        rw [hy] at h1
        obtain ⟨z, hz, hzk⟩ := Option.map_eq_some_iff.1 h1
        exact ⟨z, by rw [List.getElem?_append_left (by omega)]; exact hz, hzk.trans hy5⟩
    · have e : (N ++ [wk x J]).length - 1 = N.length := by simp
      rw [e]
      unfold kd
      rw [hat, hx, deeps_mx hat hah, deeps_mx hx ha, hkw, mx_kd, mx_kd, kd_map b3, b4]
      rfl
open Go.RowKit
theorem relab_nm (k : Int) : ∀ (l : List Fld) (ks : List Int), ks.length = l.length -> (relab l ks).length = l.length /\ (relab l ks).map Fld.nm = l.map Fld.nm /\ (relab l ks).all (fok k) = l.all (fok k)
  | [], [], _ => ⟨rfl, rfl, rfl⟩
  | [], _ :: _, h => by simp at h
  | _ :: _, [], h => by simp at h
  | f :: l, q :: ks, h => by
    obtain ⟨h1, h2, h3⟩ := relab_nm k l ks (by simpa using h)
    have e : relab (f :: l) (q :: ks) = { f with pl := q } :: relab l ks := rfl
    rw [e]
    refine ⟨by simp [h1], by simp [h2], ?_⟩
    rw [List.all_cons, List.all_cons, h3]
    rfl
theorem labB_relab (k : Int) (l : List Fld) (ks : List Int) (h : ks.length = l.length) : labB k (relab l ks) = labB k l := by
  obtain ⟨h1, h2, h3⟩ := relab_nm k l ks h
  unfold labB
  rw [h1, h2, h3]
theorem right_wk {x : Nd} {ks : List Int} (h : ks.length = (kids x).length) (hx : rightB x = true) : rightB (wk x ks) = true := by
  rw [kids_length] at h
  unfold rightB at hx ⊢
  have hL : (wk x ks).l = if many x = true then relab x.l (ks.drop (own x)) else [] := rfl
  have hl : many x = true -> (wk x ks).l.length = x.l.length /\ labB x.kind (wk x ks).l = labB x.kind x.l := fun hm => by
    rw [if_pos hm] at h
    rw [hL, if_pos hm]
    have hd : (ks.drop (own x)).length = x.l.length := by rw [List.length_drop]; omega
    exact ⟨(relab_nm 0 _ _ hd).1, labB_relab _ _ _ hd⟩
  have hn : ¬ many x = true -> (wk x ks).l.length = 0 := fun hm => by rw [hL, if_neg hm]; rfl
  have ha : (wk x ks).a = if 0 < own x then ks.getD 0 0 else 0 := rfl
  have hb : (wk x ks).b = if 1 < own x then ks.getD 1 0 else 0 := rfl
  have hc : (wk x ks).c = if 2 < own x then ks.getD 2 0 else 0 := rfl
  have hm : many x = true ↔ x.kind = 11 ∨ x.kind = 14 := by unfold many; exact decide_eq_true_iff
  have hk : (wk x ks).kind = x.kind := rfl
  have hown : (0 < own x -> one x.kind = true ∨ two x.kind = true ∨ x.kind = 9) /\ (1 < own x -> two x.kind = true ∨ x.kind = 9) /\ (2 < own x -> x.kind = 9) := by
    unfold own kids0 one two
    split
    · simp_all
    · split
      · simp_all
      · split <;> simp_all
  unfold rB at hx ⊢
  simp only [Bool.and_eq_true] at hx ⊢
  obtain ⟨⟨⟨⟨⟨p1, p2⟩, p3⟩, p4⟩, p5⟩, p6⟩ := hx
  refine ⟨⟨⟨⟨⟨p1, ?_⟩, ?_⟩, p4⟩, p5⟩, ?_⟩
  · rw [hk]
    by_cases hmx : many x = true
    · rw [(hl hmx).1]; exact p2
    · rw [hn hmx]
      simp only [Bool.not_eq_true', Bool.or_eq_false_iff, decide_eq_false_iff_not] at p2 ⊢
      refine ⟨p2.1, p2.2.1, ?_⟩
      omega
  · rw [hk, ha, hb, hc]
    simp only [Bool.not_eq_true', Bool.or_eq_false_iff, Bool.and_eq_false_iff, decide_eq_false_iff_not, Bool.not_eq_false']
    obtain ⟨o1, o2, o3⟩ := hown
    refine ⟨?_, ?_, ?_⟩
    · by_cases h0 : 0 < own x
      · rcases o1 h0 with h | h | h
        · exact .inl h
        · exact .inr (.inl h)
        · exact .inr (.inr (by omega))
      · rw [if_neg h0]; exact .inr (.inr (by omega))
    · by_cases h0 : 1 < own x
      · rcases o2 h0 with h | h
        · exact .inl h
        · exact .inr (by omega)
      · rw [if_neg h0]; exact .inr (by omega)
    · by_cases h0 : 2 < own x
      · have := o3 h0; omega
      · rw [if_neg h0]; omega
  · rw [hk]
    by_cases hmx : many x = true
    · rw [(hl hmx).2]; exact p6
    · simp only [Bool.or_eq_true, decide_eq_true_eq]
      exact .inl (by rw [hm] at hmx; omega)
theorem cp_right {l : List Nd} (hk : kidsOk l) (hr : ∀ x ∈ l, rightB x = true) : ∀ i, i < l.length -> ∀ out : List Nd, (∀ x ∈ out, rightB x = true) -> ∀ x ∈ cp l i out, rightB x = true := by
  intro i
  induction i using Nat.strongRecOn with
  | ind i ih =>
    intro hi out ho
    have hx : l[i]? = some (l[i]'hi) := List.getElem?_eq_getElem hi
    obtain ⟨x, hx'⟩ : ∃ x, l[i]'hi = x := ⟨_, rfl⟩
    rw [hx'] at hx
    have ha : ahead i x := fun k hk' => hk i x hx k hk'
    have key : ∀ ks : List Int, (∀ k ∈ ks, 0 <= k /\ k < (i : Int)) -> ∀ y ∈ (cps l (out, []) ks).1, rightB y = true := by
      intro ks
      induction ks using snocInd with
      | h0 => intro _; exact ho
      | h1 ks k ih2 =>
        intro hks
        have hkk := hks k (by simp)
        rw [cps_snoc]
        exact ih k.toNat (toNat_lt hkk) (by omega) _ (ih2 fun k' hk' => hks k' (by simp [hk']))
    have hlen : (cps l (out, []) (kids x)).2.length = (kids x).length := by rw [cps_len2]; simp
    rw [cp_eq hx ha out]
    intro y hy
    rcases List.mem_append.1 hy with hy | hy
    · exact key _ (fun k hk' => ha k hk') y hy
    · obtain rfl := List.mem_singleton.1 hy
      exact right_wk hlen (hr x (List.mem_of_getElem? hx))
theorem cp_cp {l : List Nd} (hk : kidsOk l) : ∀ i, i < l.length -> ∀ (out r o : List Nd), kidsOk out -> cp (cp l i out ++ r) ((cp l i out).length - 1) o = cp l i o := by
  intro i
  induction i using Nat.strongRecOn with
  | ind i ih =>
    intro hi out r o ho
    have hx : l[i]? = some (l[i]'hi) := List.getElem?_eq_getElem hi
    obtain ⟨x, hx'⟩ : ∃ x, l[i]'hi = x := ⟨_, rfl⟩
    rw [hx'] at hx
    have ha : ahead i x := fun k hk' => hk i x hx k hk'
    have key : ∀ ks : List Int, (∀ k ∈ ks, 0 <= k /\ k < (i : Int)) -> ∀ r : List Nd, kidsOk (cps l (out, []) ks).1 /\ (∀ m ∈ (cps l (out, []) ks).2, 0 <= m /\ m < ((cps l (out, []) ks).1.length : Int)) /\ cps ((cps l (out, []) ks).1 ++ r) (o, []) (cps l (out, []) ks).2 = cps l (o, []) ks := by
      intro ks
      induction ks using snocInd with
      | h0 => intro _ r; exact ⟨ho, fun m hm => by simp [cps] at hm, rfl⟩
      | h1 ks k ih2 =>
        intro hks r
        have hkk := hks k (by simp)
        have e := cp_shift hk k.toNat (by omega) (cps l (out, []) ks).1
        obtain ⟨b1, b3, b4⟩ := ih2 (fun k' hk' => hks k' (by simp [hk'])) ((cp l k.toNat []).map (sh (cps l (out, []) ks).1.length) ++ r)
        obtain ⟨c1, c2, _⟩ := cp_kids hk k.toNat (by omega) _ b1
        have h2 := ih k.toNat (toNat_lt hkk) (by omega) (cps l (out, []) ks).1 r (cps l (o, []) ks).1 b1
        rw [cps_snoc]
        refine ⟨c1, fun m hm => ?_, ?_⟩
        · simp only at hm ⊢
          rcases List.mem_append.1 hm with hm | hm
          · have := b3 m hm; omega
          · have := List.mem_singleton.1 hm; omega
        · simp only
          rw [cps_snoc, cps_snoc]
          have e3 : (((cp l k.toNat (cps l (out, []) ks).1).length : Int) - 1).toNat = (cp l k.toNat (cps l (out, []) ks).1).length - 1 := by omega
          have e4 : cps (cp l k.toNat (cps l (out, []) ks).1 ++ r) (o, []) (cps l (out, []) ks).2 = cps l (o, []) ks := by
            rw [e, List.append_assoc]; exact b4
          rw [e4, e3, h2]
    have hlen : ∀ o : List Nd, (cps l (o, []) (kids x)).2.length = (kids x).length := fun o => by rw [cps_len2]; simp
    obtain ⟨_, b3, b4⟩ := key (kids x) (fun k hk' => ha k hk') ([wk x (cps l (out, []) (kids x)).2] ++ r)
    rw [cp_eq hx ha o]
    have e5 : cp l i out ++ r = (cps l (out, []) (kids x)).1 ++ ([wk x (cps l (out, []) (kids x)).2] ++ r) := by rw [cp_eq hx ha out, List.append_assoc]
    have e6 : (cp l i out).length - 1 = (cps l (out, []) (kids x)).1.length := by rw [cp_eq hx ha out]; simp
    rw [e5, e6]
    have hat : ((cps l (out, []) (kids x)).1 ++ ([wk x (cps l (out, []) (kids x)).2] ++ r))[(cps l (out, []) (kids x)).1.length]? = some (wk x (cps l (out, []) (kids x)).2) := by simp
    have hkw := kids_wk (hlen out)
    rw [cp_eq hat (fun k hk' => by rw [hkw] at hk'; exact b3 k hk') o, hkw, b4, wk_two (hlen out)]
theorem may_cp {l : List Nd} (h : may l = 0) : may (nrm l) = 0 /\ nrm (nrm l) = nrm l := by
  obtain ⟨h1, h6⟩ := may_big h
  obtain ⟨_, ⟨f1, f2, f3, f4⟩, hd⟩ := may_zero h
  have hi : l.length - 1 < l.length := by omega
  obtain ⟨N, hN⟩ : ∃ N, cp l (l.length - 1) [] = N := ⟨_, rfl⟩
  have e : nrm l = N := by rw [nrm, if_pos h, hN]
  have hl : 1 <= N.length /\ N.length <= 600 := by
    have h2 := (cp_kids f2 _ hi [] (fun i x hx => by simp at hx)).2.1
    have hlen := cp_len f2 _ hi []
    have hp := post_len f2 f3.1 hi
    rw [hN] at h2 hlen
    simp at h2 hlen
    omega
  obtain ⟨o1, o2⟩ := cp_once f2 hi
  obtain ⟨r1, r2⟩ := cp_like f2 f4 _ hi [] (fun i x hx => by simp at hx) (fun i x hx => by simp at hx)
  have r3 := cp_right f2 f1 _ hi [] (fun x hx => by simp at hx)
  rw [hN] at o1 o2 r1 r2 r3
  have hm : may N = 0 := by
    have hroot : root N = root l := congrArg Prod.snd r2
    unfold may
    rw [if_neg (by omega), if_neg (fun hh => hh ⟨r3, o1, o2, r1⟩), if_neg (by omega)]
  have hc := cp_cp f2 _ hi [] [] [] (fun i x hx => by simp at hx)
  rw [hN, List.append_nil] at hc
  rw [e]
  exact ⟨hm, by rw [nrm, if_pos hm, hc]⟩
def inOrd (e : List Nd) : Prop := e ≠ [] /\ kidsOk e /\ cp e (e.length - 1) [] = e
theorem kids_sh (f : Nat) (x : Nd) : kids (sh f x) = (kids x).map (· + (f : Int)) := by unfold sh; exact kids_wk (List.length_map _)
theorem cp_mid {e : List Nd} (hk : kidsOk e) (P r : List Nd) : ∀ i, i < e.length -> ∀ out, cp (P ++ e.map (sh P.length) ++ r) (P.length + i) out = cp e i out := by
  intro i
  induction i using Nat.strongRecOn with
  | ind i ih =>
    intro hi out
    obtain ⟨x, hx⟩ : ∃ x, e[i]? = some x := ⟨_, List.getElem?_eq_getElem hi⟩
    have ha : ahead i x := fun k hk' => hk i x hx k hk'
    have hl : ((kids x).map (· + (P.length : Int))).length = (kids x).length := List.length_map _
    have hy : (P ++ e.map (sh P.length) ++ r)[P.length + i]? = some (sh P.length x) := by
      rw [List.append_assoc, List.getElem?_append_right (by omega), Nat.add_sub_cancel_left, List.getElem?_append_left (by rw [List.length_map]; exact hi), List.getElem?_map, hx]; rfl
    have hb : ahead (P.length + i) (sh P.length x) := fun k hk' => by
      rw [kids_sh, List.mem_map] at hk'
      obtain ⟨m, hm, rfl⟩ := hk'
      have := ha m hm
      omega
    have key : ∀ ks : List Int, (∀ k ∈ ks, 0 <= k /\ k < (i : Int)) -> ∀ p, cps (P ++ e.map (sh P.length) ++ r) p (ks.map (· + (P.length : Int))) = cps e p ks := by
      intro ks
      induction ks using snocInd with
      | h0 => intro _ p; rfl
      | h1 ks k ih2 =>
        intro hks p
        have hkk := hks k (by simp)
        have hn : (k + (P.length : Int)).toNat = P.length + k.toNat := by omega
        have hlt := toNat_lt hkk
        rw [List.map_append, List.map_cons, List.map_nil, cps_snoc, cps_snoc, ih2 (fun k' h' => hks k' (by simp [h'])) p, hn, ih k.toNat hlt (by omega)]
    rw [cp_eq hy hb, cp_eq hx ha, kids_sh, key _ ha]
    congr 2
    unfold sh
    rw [wk_two hl]
theorem kidsOk_shift {N e : List Nd} (h1 : kidsOk N) (h2 : kidsOk e) : kidsOk (N ++ e.map (sh N.length)) := by
  intro i x hx k hk
  by_cases hi : i < N.length
  · rw [List.getElem?_append_left hi] at hx; exact h1 i x hx k hk
  · rw [List.getElem?_append_right (by omega), List.getElem?_map, Option.map_eq_some_iff] at hx
    obtain ⟨y, hy, rfl⟩ := hx
    rw [kids_sh, List.mem_map] at hk
    obtain ⟨m, hm, rfl⟩ := hk
    have := h2 _ y hy m hm
    omega
theorem jn_ord : ∀ ll : List (List Nd), (∀ e ∈ ll, inOrd e) -> kidsOk (jn ll).1 /\ (∀ k ∈ (jn ll).2, 0 <= k /\ k < ((jn ll).1.length : Int)) /\ ∀ r, cps ((jn ll).1 ++ r) ([], []) (jn ll).2 = jn ll := by
  intro ll
  induction ll using snocInd with
  | h0 => intro _; exact ⟨fun i x hx => by simp [jn] at hx, fun k hk => by simp [jn] at hk, fun r => rfl⟩
  | h1 ll e ih =>
    intro h
    obtain ⟨h1, h2, h3⟩ := ih fun x hx => h x (by simp [hx])
    obtain ⟨e0, ek, ec⟩ := h e (by simp)
    have hle : 0 < e.length := List.length_pos_iff.2 e0
    rw [jn_snoc, jstep]
    refine ⟨kidsOk_shift h1 ek, fun k hk => ?_, fun r => ?_⟩
    · simp only [List.mem_append, List.mem_singleton] at hk
      simp only [List.length_append, List.length_map]
      rcases hk with hk | rfl
      · have := h2 k hk; omega
      · omega
    · have e1 := h3 (e.map (sh (jn ll).1.length) ++ r)
      rw [<- List.append_assoc] at e1
      have hn : (((((jn ll).1.length + e.length : Nat) : Int) - 1)).toNat = (jn ll).1.length + (e.length - 1) := by omega
      simp only
      rw [cps_snoc, e1, hn, cp_mid ek _ _ _ (by omega), cp_shift ek _ (by omega), ec]
      simp
theorem ord_join {x : Nd} {ll : List (List Nd)} (h : ∀ e ∈ ll, inOrd e) (hl : ll.length = (kids x).length) : inOrd (joinN x ll) := by
  obtain ⟨h1, h2, h3⟩ := jn_ord ll h
  have hJ : (jn ll).2.length = (kids x).length := (jn_len ll).2.trans hl
  have hk := kids_wk hJ
  refine ⟨by simp [joinN], kidsOk_snoc h1 (by rw [hk]; exact h2), ?_⟩
  have hy : (joinN x ll)[(jn ll).1.length]? = some (wk x (jn ll).2) := by simp [joinN]
  have hn : (joinN x ll).length - 1 = (jn ll).1.length := by simp [joinN]
  rw [hn, cp_eq hy (by intro k hk'; rw [hk] at hk'; exact h2 k hk'), hk]
  unfold joinN
  rw [h3, wk_two hJ]
theorem ord_nrm {e : List Nd} (h : inOrd e) (hm : may e = 0) : nrm e = e := by rw [nrm, if_pos hm]; exact h.2.2
open Go.RowKit Go.Shelf
def BSt (w W : World) (A : Option Addr) (ka La : Nat) (la : List Nd) (C : Option Addr) (kc Lc : Nat) (lc : List Nd) : Prop :=
  Below w.heap.size w W /\ Nodes W.heap.size W (.slice A La ka) la /\ Nodes W.heap.size W (.slice C Lc kc) lc /\ W.heap[w.heap.size]? = some (.cells #[.slice A La ka] 25 (0, 0)) /\ W.heap[w.heap.size + 1]? = some (.cells #[.slice C Lc kc] 25 (0, 0))
section
variable {w W W' : World} {A C : Option Addr} {ka La kc Lc : Nat} {la lc : List Nd}
theorem nodes_next {v : Value} {l : List Nd} (h : Nodes W.heap.size W v l) (hb : Below W.heap.size W W') : Nodes W'.heap.size W' v l := (h.below hb).mono hb.size
theorem BSt.next (h : BSt w W A ka La la C kc Lc lc) (hb : Below W.heap.size W W') : BSt w W' A ka La la C kc Lc lc :=
  ⟨below_next h.1 hb (Nat.le_refl _), nodes_next h.2.1 hb, nodes_next h.2.2.1 hb, blk_next h.2.2.2.1 hb, blk_next h.2.2.2.2 hb⟩
theorem BSt.drew (h : BSt w W A ka La la C kc Lc lc) : BSt w W.drew A ka La la C kc Lc lc := h.next (Below.refl _ _).drew
theorem BSt.c2 (h : BSt w W A ka La la C kc Lc lc) : W.cell? ⟨w.heap.size, 0, none⟩ = some (.slice A La ka) := (Blk_cell h.2.2.2.1 0).trans rfl
theorem BSt.c3 (h : BSt w W A ka La la C kc Lc lc) : W.cell? ⟨w.heap.size + 1, 0, none⟩ = some (.slice C Lc kc) := (Blk_cell h.2.2.2.2 0).trans rfl
theorem BSt.start (hA : Nodes w.heap.size w (.slice A La ka) la) (hC : Nodes w.heap.size w (.slice C Lc kc) lc) : BSt w ((w.alloc (.cells #[.slice A La ka] 25)).alloc (.cells #[.slice C Lc kc] 25)) A ka La la C kc Lc lc := by
  have hb : Below w.heap.size w ((w.alloc (.cells #[.slice A La ka] 25)).alloc (.cells #[.slice C Lc kc] 25)) := ((Below.refl _ w).alloc (Nat.le_refl _) _).alloc (by simp) _
  exact ⟨hb, nodes_next hA hb, nodes_next hC hb, nextAt (newAt rfl), newAt (by simp)⟩
end
theorem rsame_any (l m : List Nd) (va vb : Value) (w : World) (hA : Nodes w.heap.size w va l) (hB : Nodes w.heap.size w vb m) (HS : ∀ x ∈ l, Small x) (HS' : ∀ x ∈ m, Small x) :
    Calls Tryz.prog 23 #[.agg #[va], .agg #[vb]] w fun e w' => e = .returned (.bool (tsm l m)) /\ Below w.heap.size w w' := by
  obtain ⟨A, ca, rfl, hxa⟩ := hA
  obtain ⟨C, cc, rfl, hxc⟩ := hB
  have S0 := Lib.hid (BSt.start (w := w) (show Nodes w.heap.size w (.slice A l.length ca) l from ⟨A, ca, rfl, hxa⟩) (show Nodes w.heap.size w (.slice C m.length cc) m from ⟨C, cc, rfl, hxc⟩))
  have HML : Hid (∀ (W : World) (v : Value), Nodes W.heap.size W v l -> Calls Tryz.prog 22 #[.agg #[v]] W fun e w' => e = .returned (.int .i64 (may l)) /\ Below W.heap.size W w') := Lib.hid fun W v h => rmay_all l v W h HS
  have HMM : Hid (∀ (W : World) (v : Value), Nodes W.heap.size W v m -> Calls Tryz.prog 22 #[.agg #[v]] W fun e w' => e = .returned (.int .i64 (may m)) /\ Below W.heap.size W w') := Lib.hid fun W v h => rmay_all m v W h HS'
  have HNL : may l = 0 -> Hid (∀ (W : World) (A : Option Addr) (c : Nat), Nodes W.heap.size W (.slice A l.length c) l -> Calls Tryz.prog 43 #[.agg #[.slice A l.length c]] W fun e w' => ∃ A c, e = .returned (.agg #[.slice A (nrm l).length c]) /\ Nodes w'.heap.size w' (.slice A (nrm l).length c) (nrm l) /\ Below W.heap.size W w') := fun h0 => Lib.hid fun W A c h => NPost.nodes (rnorm_any l _ A c rfl h0 W h HS)
  have HNM : may m = 0 -> Hid (∀ (W : World) (A : Option Addr) (c : Nat), Nodes W.heap.size W (.slice A m.length c) m -> Calls Tryz.prog 43 #[.agg #[.slice A m.length c]] W fun e w' => ∃ A c, e = .returned (.agg #[.slice A (nrm m).length c]) /\ Nodes w'.heap.size w' (.slice A (nrm m).length c) (nrm m) /\ Below W.heap.size W w') := fun h0 => Lib.hid fun W A c h => NPost.nodes (rnorm_any m _ A c rfl h0 W h HS')
  have HEQ : Hid (∀ (W : World) (v u : Value), Nodes W.heap.size W v (nrm l) -> Nodes W.heap.size W u (nrm m) -> Calls Tryz.prog 33 #[.agg #[v], .agg #[u]] W fun e w' => e = .returned (.bool (ln (nrm l) (nrm m))) /\ Below W.heap.size W w') := Lib.hid fun W v u h1 h2 => rlist_any _ _ v u W h1 h2 (by have := (nrm_few HS).1; omega) (nrm_few HS).2
  unfold tsm
  obtain ⟨ea, hea⟩ : ∃ ea, may l = ea := ⟨_, rfl⟩
  obtain ⟨eb, heb⟩ : ∃ eb, may m = eb := ⟨_, rfl⟩
  rw [hea] at HML HNL ⊢
  rw [heb] at HMM HNM ⊢
  obtain ⟨NA, hNA⟩ : ∃ NA, nrm l = NA := ⟨_, rfl⟩
  obtain ⟨NB, hNB⟩ : ∃ NB, nrm m = NB := ⟨_, rfl⟩
  rw [hNA] at HNL HEQ ⊢
  rw [hNB] at HNM HEQ ⊢
  clear hea heb hNA hNB HS HS' hxa hxc
  by_cases h1 : ea = 0
  · subst h1
    replace HNL := HNL rfl
    by_cases h2 : eb = 0
    · subst h2
      replace HNM := HNM rfl
      go_enter Tryz.func23, Tryz.ntmps23
      go_wp2
      go_region_with (first | (go_at_call 33; refine (HEQ.out _ _ _ N3.out N4.out).mono ?_; rintro e w5 ⟨rfl, hb5⟩; have S5 := Lib.hid (S4.out.next hb5); clear hb5) | (go_at_call 43; have _tag := N3.out; clear _tag; refine (HNM.out _ _ _ S3.out.2.2.1).mono ?_; rintro e w4 ⟨A4, k4, rfl, hn4, hb4⟩; have S4 := Lib.hid (S3.out.next hb4); have N3 := Lib.hid (nodes_next N3.out hb4); have N4 := Lib.hid hn4; clear hb4 hn4) | (go_at_call 43; refine (HNL.out _ _ _ S2.out.2.1).mono ?_; rintro e w3 ⟨A3, k3, rfl, hn3, hb3⟩; have S3 := Lib.hid (S2.out.next hb3); have N3 := Lib.hid hn3; have c33 := S3.out.c3; clear hb3 hn3) | (go_at_call 22; have _tag := S1.out; clear _tag; refine (HMM.out _ _ S1.out.2.2.1).mono ?_; rintro e w2 ⟨rfl, hb2⟩; have S2 := Lib.hid (S1.out.next hb2); have c22 := S2.out.c2; have c32 := S2.out.c3; clear hb2) | (go_at_call 22; refine (HML.out _ _ S0.out.drew.2.1).mono ?_; rintro e w1 ⟨rfl, hb1⟩; have S1 := Lib.hid (S0.out.drew.next hb1); have c21 := S1.out.c2; have c31 := S1.out.c3; clear hb1))
      all_goals
        go_wp2
        go_ret
        exact ⟨ret_b (by simp), S5.out.1⟩
    · have hz : (eb == 0) = false := by simpa using h2
      go_enter Tryz.func23, Tryz.ntmps23
      go_wp2
      go_region_with (first | (go_at_call 22; have _tag := S1.out; clear _tag; refine (HMM.out _ _ S1.out.2.2.1).mono ?_; rintro e w2 ⟨rfl, hb2⟩; have S2 := Lib.hid (S1.out.next hb2); have c22 := S2.out.c2; have c32 := S2.out.c3; clear hb2) | (go_at_call 22; refine (HML.out _ _ S0.out.drew.2.1).mono ?_; rintro e w1 ⟨rfl, hb1⟩; have S1 := Lib.hid (S0.out.drew.next hb1); have c21 := S1.out.c2; have c31 := S1.out.c3; clear hb1))
      all_goals
        go_wp2
        go_ret
        exact ⟨ret_b (by simp [*]), S2.out.1⟩
  · have hz : (ea == 0) = false := by simpa using h1
    go_enter Tryz.func23, Tryz.ntmps23
    go_wp2
    go_region_with (go_at_call 22; refine (HML.out _ _ S0.out.drew.2.1).mono ?_; rintro e w1 ⟨rfl, hb1⟩; have S1 := Lib.hid (S0.out.drew.next hb1); have c21 := S1.out.c2; have c31 := S1.out.c3; clear hb1)
    all_goals
      go_wp2
      go_ret
      exact ⟨ret_b (by simp [*]), S1.out.1⟩
end Go.Proofs.YtjakeidbajkdcaaGreatDoor.T
