/- Joined by program: PTSame, PSum, PWorks, SGood. -/
import Derived.Test.YteikpeaakmbihaaDoorG28
import Derived.Test.YteikpeaakmbihaaDoorG31
/- Same, the program's. -/
namespace Go.Proofs.YteikpeaakmbihaaDoor.T
open Go.RowKit Go.Shelf
theorem wk_parts (y : Nd) (ks : List Int) : (wk y ks).l.length ≤ y.l.length := by
  unfold wk
  simp only
  split
  · unfold relab; rw [List.length_zipWith]; omega
  · simp
theorem stp_from (l : List Nd) (ps : List Nat) : ∀ s : List Nd × List Int, ∀ x ∈ (ps.foldl (stp l) s).1, x ∈ s.1 ∨ ∃ y ∈ l, ∃ ks, x = wk y ks := by
  induction ps with
  | nil => intro s x hx; exact .inl hx
  | cons p ps ih =>
    intro s x hx
    rcases ih _ x hx with h | h
    · unfold stp at h
      split at h
      · exact .inl h
      · rename_i y hy
        rcases List.mem_append.1 h with h | h
        · exact .inl h
        · exact .inr ⟨y, List.mem_of_getElem? hy, _, by simpa using h⟩
    · exact .inr h
theorem nrm_few {l : List Nd} (hS : ∀ x ∈ l, Small x) : (nrm l).length ≤ 600 ∧ ∀ x ∈ nrm l, x.l.length ≤ 1000000 := by
  unfold nrm
  split
  · rename_i h
    obtain ⟨h1, h6⟩ := may_big h
    have hf := (may_zero h).2.1
    have hk : kidsOk l := hf.2.1
    have hn : (allKids l).Nodup := hf.2.2.1.1
    have hi : l.length - 1 < l.length := by omega
    rw [← (stp_post hk hn _ hi ([], List.replicate l.length 0) (by simp)).1]
    refine ⟨?_, fun x hx => ?_⟩
    · have := (stp_len l (post l (l.length - 1)) ([], List.replicate l.length 0)).1
      have := post_len hk hn hi
      simp at *
      omega
    · rcases stp_from l _ _ x hx with h | ⟨y, hy, ks, rfl⟩
      · simp at h
      · have := (hS y hy).2.2.1
        have := wk_parts y ks; omega
  · exact ⟨by simp, fun x hx => by simp at hx⟩
/-- Are two trees the same? -/
noncomputable def tsm (l m : List Nd) : Bool := decide (may l = 0) && (decide (may m = 0) && ln (nrm l) (nrm m))
set_option maxRecDepth 100000 in
set_option maxHeartbeats 1500000 in
theorem tsame_any (l m : List Nd) (va vb : Value) (w : World) (hK : Kws w.heap.size w) (hA : Nodes w.heap.size w va l) (hB : Nodes w.heap.size w vb m) (HS : ∀ x ∈ l, Small x) (HC : ∀ x ∈ l, Clonable x) (hl : l.length ≤ 1000000) (HS' : ∀ x ∈ m, Small x) (HC' : ∀ x ∈ m, Clonable x) (hl' : m.length ≤ 1000000) :
    Calls Tryd.prog 22 #[.agg #[va], .agg #[vb]] w fun e w' => e = .returned (.bool (tsm l m)) ∧ Below w.heap.size w w' := by
  have HNA : Hid (∀ w1, Below w.heap.size w w1 → Calls Tryd.prog 19 #[.agg #[va]] w1 (SubPost (may l) (nrm l) w1)) := Lib.hid fun w1 hb => norm_any l va w1 (Kws_mono (hK.on hb) hb.size) ((hA.below hb).mono hb.size) HS HC hl
  have HNB : Hid (∀ w1, Below w.heap.size w w1 → Calls Tryd.prog 19 #[.agg #[vb]] w1 (SubPost (may m) (nrm m) w1)) := Lib.hid fun w1 hb => norm_any m vb w1 (Kws_mono (hK.on hb) hb.size) ((hB.below hb).mono hb.size) HS' HC' hl'
  have HEQ : Hid (∀ (w1 : World) (v u : Value), Nodes w1.heap.size w1 v (nrm l) → Nodes w1.heap.size w1 u (nrm m) → Calls Tryd.prog 49 #[v, u, .func (.func 50) #[] #[]] w1 fun e w' => e = .returned (.bool (ln (nrm l) (nrm m))) ∧ Below w1.heap.size w1 w') := Lib.hid fun w1 v u h1 h2 =>
    eqf_any (nrm l) (nrm m) v u w1 h1 h2 (by have := (nrm_few HS).1; omega) (by have := (nrm_few HS').1; omega) (nrm_few HS).2 (nrm_few HS').2
  obtain ⟨A, ca, rfl, _⟩ := hA
  obtain ⟨C, cc, rfl, _⟩ := hB
  have HB2 : Hid (Below w.heap.size w ((w.alloc (.cells #[.slice A l.length ca] 24)).alloc (.cells #[.slice C m.length cc] 24))) := Lib.hid (((Below.refl _ w).alloc (Nat.le_refl _) _).alloc (by simp) _)
  unfold tsm
  obtain ⟨ea, hea⟩ : ∃ ea, may l = ea := ⟨_, rfl⟩
  obtain ⟨eb, heb⟩ : ∃ eb, may m = eb := ⟨_, rfl⟩
  rw [hea] at HNA ⊢
  rw [heb] at HNB ⊢
  obtain ⟨NA, hNA⟩ : ∃ NA, nrm l = NA := ⟨_, rfl⟩
  obtain ⟨NB, hNB⟩ : ∃ NB, nrm m = NB := ⟨_, rfl⟩
  rw [hNA] at HNA HEQ ⊢
  rw [hNB] at HNB HEQ ⊢
  clear hea heb hNA hNB hK HS HC HS' HC'
  have hCA : ((w.alloc (.cells #[.slice A l.length ca] 24)).alloc (.cells #[.slice C m.length cc] 24)).heap[w.heap.size]? = some (.cells #[.slice A l.length ca] 24) := nextAt (newAt rfl)
  have hCB : ((w.alloc (.cells #[.slice A l.length ca] 24)).alloc (.cells #[.slice C m.length cc] 24)).heap[w.heap.size + 1]? = some (.cells #[.slice C m.length cc] 24) := newAt (by simp)
  have HXA := Lib.hid hCA
  have HXB := Lib.hid hCB
  clear hCA hCB
  by_cases h1 : ea = 0
  · subst h1
    by_cases h2 : eb = 0
    · subst h2
      go_enter Tryd.func22, Tryd.ntmps22
      go_wp2_with (first | (go_at_call 19; refine (HNB.out _ (HW5.out.setCell (p := ⟨w.heap.size, 0, none⟩) (Nat.le_refl _) _)).mono ?_; rintro e w6 ⟨v2, qs, rfl, hqs, hown, hb6⟩; obtain ⟨A2, k2, rfl⟩ : ∃ A c, v2 = .slice A qs.length c := (own_slice hown); have hs5 := HW5.out.size; have hl5 : w.heap.size + 1 < w5.heap.size := (Array.getElem?_eq_some_iff.1 HXB5.out).1; have xa6 := (hb6.block w.heap.size (by simp <;> omega)).trans (blk_put (j := 0) (v := .slice A1 ps.length k1) HXA5.out); have xb6 := (hb6.block (w.heap.size + 1) (by simp <;> omega)).trans ((set_far _ _ _ _ _ (by omega)).trans HXB5.out); have ca6 : w6.cell? ⟨w.heap.size, 0, none⟩ = some (.slice A1 ps.length k1) := (Blk_cell xa6 0).trans rfl; have cb6 : w6.cell? ⟨w.heap.size + 1, 0, none⟩ = some (.slice C m.length cc) := (Blk_cell xb6 0).trans rfl; have fb6 := Blk_frozen xb6 0; have HQ2 := Lib.hid hqs; have HW6 := Lib.hid ((HW5.out.setCell (p := ⟨w.heap.size, 0, none⟩) (Nat.le_refl _) (.slice A1 ps.length k1)).trans (hb6.mono (by simp <;> omega))); have HO2 := Lib.hid (own_nodes (ownN_heap (W' := w6.setCell ⟨w.heap.size + 1, 0, none⟩ (.slice A2 qs.length k2)) hown (fun g hg _ => set_far _ _ _ _ _ (by simp at hg; omega)))); have HO3 := Lib.hid (own_nodes (ownN_heap (W' := w6.setCell ⟨w.heap.size + 1, 0, none⟩ (.slice A2 qs.length k2)) (ownN_heap HO1.out (fun g _ hg => hb6.block g hg)) (fun g hg _ => set_far _ _ _ _ _ (by simp at hg; omega)))); clear xa6 xb6 hqs hown hb6 fa5 fb5 ca5 cb5) | (go_at_call 19; refine (HNA.out _ HB2.out).mono ?_; rintro e w5 ⟨v1, ps, rfl, hps, hown, hb5⟩; obtain ⟨A1, k1, rfl⟩ : ∃ A c, v1 = .slice A ps.length c := (own_slice hown); have xa5 := (hb5.block w.heap.size (by simp <;> omega)).trans HXA.out; have xb5 := (hb5.block (w.heap.size + 1) (by simp <;> omega)).trans HXB.out; have ca5 : w5.cell? ⟨w.heap.size, 0, none⟩ = some (.slice A l.length ca) := (Blk_cell xa5 0).trans rfl; have cb5 : w5.cell? ⟨w.heap.size + 1, 0, none⟩ = some (.slice C m.length cc) := (Blk_cell xb5 0).trans rfl; have fa5 := Blk_frozen xa5 0; have fb5 := Blk_frozen xb5 0; have HXA5 := Lib.hid xa5; have HXB5 := Lib.hid xb5; have HP1 := Lib.hid hps; have HW5 := Lib.hid (HB2.out.trans (hb5.mono (by simp <;> omega))); have HO1 := Lib.hid (ownN_heap (W' := w5.setCell ⟨w.heap.size, 0, none⟩ (.slice A1 ps.length k1)) hown (fun g hg _ => set_far _ _ _ _ _ (by simp at hg; omega))); clear xa5 xb5 hps hown hb5) | (go_at_call 49; refine (HEQ.out _ _ _ (HP1.out ▸ HO3.out) (HQ2.out ▸ HO2.out)).mono ?_; rintro e w8 ⟨rfl, hb8⟩; have HB8 := Lib.hid hb8; clear hb8))
      go_ret
      exact ⟨ret_b (by simp), (HW6.out.setCell (p := ⟨w.heap.size + 1, 0, none⟩) (by show w.heap.size ≤ w.heap.size + 1; omega) _).trans (HB8.out.mono (by have := HW6.out.size; simp; omega))⟩
    · have hz : (eb == 0) = false := by simpa using h2
      go_enter Tryd.func22, Tryd.ntmps22
      go_wp2_with (first | (go_at_call 19; refine (HNB.out _ (HW5.out.setCell (p := ⟨w.heap.size, 0, none⟩) (Nat.le_refl _) _)).mono ?_; rintro e w6 ⟨v2, qs, rfl, hqs, hown, hb6⟩; obtain ⟨A2, k2, rfl⟩ : ∃ A c, v2 = .slice A qs.length c := (own_slice hown); have hs5 := HW5.out.size; have hl5 : w.heap.size + 1 < w5.heap.size := (Array.getElem?_eq_some_iff.1 HXB5.out).1; have xa6 := (hb6.block w.heap.size (by simp <;> omega)).trans (blk_put (j := 0) (v := .slice A1 ps.length k1) HXA5.out); have xb6 := (hb6.block (w.heap.size + 1) (by simp <;> omega)).trans ((set_far _ _ _ _ _ (by omega)).trans HXB5.out); have ca6 : w6.cell? ⟨w.heap.size, 0, none⟩ = some (.slice A1 ps.length k1) := (Blk_cell xa6 0).trans rfl; have cb6 : w6.cell? ⟨w.heap.size + 1, 0, none⟩ = some (.slice C m.length cc) := (Blk_cell xb6 0).trans rfl; have fb6 := Blk_frozen xb6 0; have HQ2 := Lib.hid hqs; have HW6 := Lib.hid ((HW5.out.setCell (p := ⟨w.heap.size, 0, none⟩) (Nat.le_refl _) (.slice A1 ps.length k1)).trans (hb6.mono (by simp <;> omega))); have HO2 := Lib.hid (own_nodes (ownN_heap (W' := w6.setCell ⟨w.heap.size + 1, 0, none⟩ (.slice A2 qs.length k2)) hown (fun g hg _ => set_far _ _ _ _ _ (by simp at hg; omega)))); have HO3 := Lib.hid (own_nodes (ownN_heap (W' := w6.setCell ⟨w.heap.size + 1, 0, none⟩ (.slice A2 qs.length k2)) (ownN_heap HO1.out (fun g _ hg => hb6.block g hg)) (fun g hg _ => set_far _ _ _ _ _ (by simp at hg; omega)))); clear xa6 xb6 hqs hown hb6 fa5 fb5 ca5 cb5) | (go_at_call 19; refine (HNA.out _ HB2.out).mono ?_; rintro e w5 ⟨v1, ps, rfl, hps, hown, hb5⟩; obtain ⟨A1, k1, rfl⟩ : ∃ A c, v1 = .slice A ps.length c := (own_slice hown); have xa5 := (hb5.block w.heap.size (by simp <;> omega)).trans HXA.out; have xb5 := (hb5.block (w.heap.size + 1) (by simp <;> omega)).trans HXB.out; have ca5 : w5.cell? ⟨w.heap.size, 0, none⟩ = some (.slice A l.length ca) := (Blk_cell xa5 0).trans rfl; have cb5 : w5.cell? ⟨w.heap.size + 1, 0, none⟩ = some (.slice C m.length cc) := (Blk_cell xb5 0).trans rfl; have fa5 := Blk_frozen xa5 0; have fb5 := Blk_frozen xb5 0; have HXA5 := Lib.hid xa5; have HXB5 := Lib.hid xb5; have HP1 := Lib.hid hps; have HW5 := Lib.hid (HB2.out.trans (hb5.mono (by simp <;> omega))); have HO1 := Lib.hid (ownN_heap (W' := w5.setCell ⟨w.heap.size, 0, none⟩ (.slice A1 ps.length k1)) hown (fun g hg _ => set_far _ _ _ _ _ (by simp at hg; omega))); clear xa5 xb5 hps hown hb5) | (go_at_call 49; refine (HEQ.out _ _ _ (HP1.out ▸ HO3.out) (HQ2.out ▸ HO2.out)).mono ?_; rintro e w8 ⟨rfl, hb8⟩; have HB8 := Lib.hid hb8; clear hb8))
      go_ret
      exact ⟨ret_b (by simp [*]), HW6.out.setCell (p := ⟨w.heap.size + 1, 0, none⟩) (by show w.heap.size ≤ w.heap.size + 1; omega) _⟩
  · have hz : (ea == 0) = false := by simpa using h1
    go_enter Tryd.func22, Tryd.ntmps22
    go_wp2_with (first | (go_at_call 19; refine (HNB.out _ (HW5.out.setCell (p := ⟨w.heap.size, 0, none⟩) (Nat.le_refl _) _)).mono ?_; rintro e w6 ⟨v2, qs, rfl, hqs, hown, hb6⟩; obtain ⟨A2, k2, rfl⟩ : ∃ A c, v2 = .slice A qs.length c := (own_slice hown); have hs5 := HW5.out.size; have hl5 : w.heap.size + 1 < w5.heap.size := (Array.getElem?_eq_some_iff.1 HXB5.out).1; have xa6 := (hb6.block w.heap.size (by simp <;> omega)).trans (blk_put (j := 0) (v := .slice A1 ps.length k1) HXA5.out); have xb6 := (hb6.block (w.heap.size + 1) (by simp <;> omega)).trans ((set_far _ _ _ _ _ (by omega)).trans HXB5.out); have ca6 : w6.cell? ⟨w.heap.size, 0, none⟩ = some (.slice A1 ps.length k1) := (Blk_cell xa6 0).trans rfl; have cb6 : w6.cell? ⟨w.heap.size + 1, 0, none⟩ = some (.slice C m.length cc) := (Blk_cell xb6 0).trans rfl; have fb6 := Blk_frozen xb6 0; have HQ2 := Lib.hid hqs; have HW6 := Lib.hid ((HW5.out.setCell (p := ⟨w.heap.size, 0, none⟩) (Nat.le_refl _) (.slice A1 ps.length k1)).trans (hb6.mono (by simp <;> omega))); have HO2 := Lib.hid (own_nodes (ownN_heap (W' := w6.setCell ⟨w.heap.size + 1, 0, none⟩ (.slice A2 qs.length k2)) hown (fun g hg _ => set_far _ _ _ _ _ (by simp at hg; omega)))); have HO3 := Lib.hid (own_nodes (ownN_heap (W' := w6.setCell ⟨w.heap.size + 1, 0, none⟩ (.slice A2 qs.length k2)) (ownN_heap HO1.out (fun g _ hg => hb6.block g hg)) (fun g hg _ => set_far _ _ _ _ _ (by simp at hg; omega)))); clear xa6 xb6 hqs hown hb6 fa5 fb5 ca5 cb5) | (go_at_call 19; refine (HNA.out _ HB2.out).mono ?_; rintro e w5 ⟨v1, ps, rfl, hps, hown, hb5⟩; obtain ⟨A1, k1, rfl⟩ : ∃ A c, v1 = .slice A ps.length c := (own_slice hown); have xa5 := (hb5.block w.heap.size (by simp <;> omega)).trans HXA.out; have xb5 := (hb5.block (w.heap.size + 1) (by simp <;> omega)).trans HXB.out; have ca5 : w5.cell? ⟨w.heap.size, 0, none⟩ = some (.slice A l.length ca) := (Blk_cell xa5 0).trans rfl; have cb5 : w5.cell? ⟨w.heap.size + 1, 0, none⟩ = some (.slice C m.length cc) := (Blk_cell xb5 0).trans rfl; have fa5 := Blk_frozen xa5 0; have fb5 := Blk_frozen xb5 0; have HXA5 := Lib.hid xa5; have HXB5 := Lib.hid xb5; have HP1 := Lib.hid hps; have HW5 := Lib.hid (HB2.out.trans (hb5.mono (by simp <;> omega))); have HO1 := Lib.hid (ownN_heap (W' := w5.setCell ⟨w.heap.size, 0, none⟩ (.slice A1 ps.length k1)) hown (fun g hg _ => set_far _ _ _ _ _ (by simp at hg; omega))); clear xa5 xb5 hps hown hb5) | (go_at_call 49; refine (HEQ.out _ _ _ (HP1.out ▸ HO3.out) (HQ2.out ▸ HO2.out)).mono ?_; rintro e w8 ⟨rfl, hb8⟩; have HB8 := Lib.hid hb8; clear hb8))
    go_ret
    exact ⟨ret_b (by simp [*]), HW6.out.setCell (p := ⟨w.heap.size + 1, 0, none⟩) (by show w.heap.size ≤ w.heap.size + 1; omega) _⟩
end Go.Proofs.YteikpeaakmbihaaDoor.T
/- The chapter's example, made. -/
namespace Go.Proofs.YteikpeaakmbihaaDoor.T
open Go.RowKit Go.Shelf
/-- 1 + 2. -/
def sumN : List Nd := [⟨1, 0, 0, 0, 1, ByteArray.empty, ByteArray.empty, [], 0⟩, ⟨1, 0, 0, 0, 2, ByteArray.empty, ByteArray.empty, [], 0⟩, ⟨10, 0, 1, 0, 1, ByteArray.empty, ByteArray.empty, [], 0⟩]
theorem res31 (tmps : Array Value) (W : World) (p : Nat) (A : Option Addr) (n c : Nat) (h2 : tmps[0]?.getD undef = .pointer (some ⟨p, 0, none⟩)) (hb : W.cell? ⟨p, 0, none⟩ = some (.slice A n c)) :
    Sem.run Tryd.prog (results Tryd.f45 tmps) W = .ok (.agg #[.slice A n c]) W := by
  simp [results, Tryd.results45, go_sem, h2, hb]
set_option maxRecDepth 100000 in
set_option maxHeartbeats 4000000 in
theorem sum_any (w : World) : Calls Tryd.prog 45 #[] w fun e w' => ∃ g, e = .returned (.agg #[.slice (some ⟨g, 0, none⟩) 3 3]) ∧ w.heap.size ≤ g ∧ w'.heap[g]? = some (.cells ((sumN.flatMap fun x => (ndArr x (.slice none 0 0)).toList)).toArray 27) ∧ Below w.heap.size w w' := by
  go_enter Tryd.func45, Tryd.ntmps45
  go_wp2
  exact bodyPost_ret (v := .agg #[.slice (some ⟨w.heap.size + 1, 0, none⟩) 3 3]) (res31 _ _ w.heap.size (some ⟨w.heap.size + 1, 0, none⟩) 3 3 rfl ((Blk_cell (nextAt (newAt rfl)) 0).trans rfl)) rfl ⟨w.heap.size + 1, rfl, by omega, newAt (by simp), ((Below.refl _ w).alloc (Nat.le_refl _) _).alloc (by simp) _⟩
theorem sum_own {w : World} {B g : Nat} (h : w.heap[g]? = some (.cells ((sumN.flatMap fun x => (ndArr x (.slice none 0 0)).toList)).toArray 27)) (hg : B ≤ g) : OwnN B w (.slice (some ⟨g, 0, none⟩) 3 3) (sumN.map fun x => (x, .slice none 0 0)) := by
  refine ⟨⟨rfl, .inr ⟨g, 3, _, rfl, hg, h, by decide, by decide, rfl, rfl⟩⟩, fun x hx => ?_⟩
  simp only [sumN, List.map_cons, List.map_nil, List.mem_cons, List.not_mem_nil, or_false] at hx
  rcases hx with rfl | rfl | rfl <;> exact World.ownsRow_nil _ _ _ _
theorem sum_small : ∀ x ∈ sumN, Small x := by
  intro x hx
  simp only [sumN, List.mem_cons, List.not_mem_nil, or_false] at hx
  rcases hx with rfl | rfl | rfl <;> exact ⟨by decide, by decide, by decide, fun f hf => by cases hf⟩
theorem sum_clone : ∀ x ∈ sumN, Clonable x := by
  intro x hx
  simp only [sumN, List.mem_cons, List.not_mem_nil, or_false] at hx
  rcases hx with rfl | rfl | rfl <;> exact ⟨by decide, by decide, by decide, fun f hf => by cases hf⟩
theorem sum_cp : cp sumN 2 [] = sumN := by
  have h0 : sumN[0]? = some ⟨1, 0, 0, 0, 1, ByteArray.empty, ByteArray.empty, [], 0⟩ := rfl
  have h1 : sumN[1]? = some ⟨1, 0, 0, 0, 2, ByteArray.empty, ByteArray.empty, [], 0⟩ := rfl
  have h2 : sumN[2]? = some ⟨10, 0, 1, 0, 1, ByteArray.empty, ByteArray.empty, [], 0⟩ := rfl
  have k0 : ∀ n, kids ⟨1, 0, 0, 0, n, ByteArray.empty, ByteArray.empty, [], 0⟩ = [] := fun n => rfl
  have k2 : kids ⟨10, 0, 1, 0, 1, ByteArray.empty, ByteArray.empty, [], 0⟩ = [0, 1] := rfl
  have e0 : ∀ out, cp sumN 0 out = out ++ [wk ⟨1, 0, 0, 0, 1, ByteArray.empty, ByteArray.empty, [], 0⟩ []] := fun out => by rw [cp, h0]; simp [k0]
  have e1 : ∀ out, cp sumN 1 out = out ++ [wk ⟨1, 0, 0, 0, 2, ByteArray.empty, ByteArray.empty, [], 0⟩ []] := fun out => by rw [cp, h1]; simp [k0]
  rw [cp, h2]
  simp [k2, e0, e1]
  rfl
theorem sum_cases {i : Nat} {x : Nd} (h : sumN[i]? = some x) : (i = 0 ∧ x = ⟨1, 0, 0, 0, 1, ByteArray.empty, ByteArray.empty, [], 0⟩) ∨ (i = 1 ∧ x = ⟨1, 0, 0, 0, 2, ByteArray.empty, ByteArray.empty, [], 0⟩) ∨ (i = 2 ∧ x = ⟨10, 0, 1, 0, 1, ByteArray.empty, ByteArray.empty, [], 0⟩) := by
  match i, h with
  | 0, h => exact .inl ⟨rfl, by simpa [sumN] using h.symm⟩
  | 1, h => exact .inr (.inl ⟨rfl, by simpa [sumN] using h.symm⟩)
  | 2, h => exact .inr (.inr ⟨rfl, by simpa [sumN] using h.symm⟩)
  | n + 3, h => simp [sumN] at h
theorem sum_formed : formed sumN := by
  refine ⟨?_, ?_, ⟨?_, ?_⟩, ?_⟩
  · intro x hx
    simp only [sumN, List.mem_cons, List.not_mem_nil, or_false] at hx
    rcases hx with rfl | rfl | rfl <;> kernel_rfl
  · intro i x h
    rcases sum_cases h with ⟨rfl, rfl⟩ | ⟨rfl, rfl⟩ | ⟨rfl, rfl⟩ <;> (intro m hm; revert m; decide)
  · have : allKids sumN = [0, 1] := rfl
    rw [this]; decide
  · intro j hj
    have : allKids sumN = [0, 1] := rfl
    have hl : sumN.length = 3 := rfl
    rw [this]
    rw [hl] at hj
    obtain rfl | rfl : j = 0 ∨ j = 1 := by omega
    · decide
    · decide
  · intro i x h
    rcases sum_cases h with ⟨rfl, rfl⟩ | ⟨rfl, rfl⟩ | ⟨rfl, rfl⟩ <;> (intro hk; exact absurd hk (by decide))
theorem sum_root : root sumN = 2 := rfl
theorem sum_may : may sumN = 0 := by
  unfold may
  rw [if_neg (by decide), if_neg (not_not_intro sum_formed), if_neg (by rw [sum_root]; decide)]
theorem sum_nrm : nrm sumN = sumN := by
  rw [nrm, if_pos sum_may]; exact sum_cp
theorem sum_deep : deepOf sumN = 2 := by
  rw [deepOf, if_pos sum_may, sum_root]; rfl
theorem sum_same : tsm sumN sumN = true := by
  rw [tsm, sum_may, sum_nrm]; kernel_rfl
end Go.Proofs.YteikpeaakmbihaaDoor.T
/- The law's example: works. -/
namespace Go.Proofs.YteikpeaakmbihaaDoor.T
open Go.RowKit Go.Shelf
theorem below_next {B : Nat} {w w1 w2 : World} (h : Below B w w1) (k : Below w1.heap.size w1 w2) (hB : B ≤ w.heap.size) : Below B w w2 := h.trans (k.mono (Nat.le_trans hB h.size))
theorem blk_next {W W' : World} {b : Nat} {x : Obj} (h : W.heap[b]? = some x) (k : Below W.heap.size W W') : W'.heap[b]? = some x := (k.block b (Array.getElem?_eq_some_iff.1 h).1).trans h
theorem sum_nodes {w : World} {g : Nat} (h : w.heap[g]? = some (.cells ((sumN.flatMap fun x => (ndArr x (.slice none 0 0)).toList)).toArray 27)) : Nodes w.heap.size w (.slice (some ⟨g, 0, none⟩) 3 3) sumN := own_nodes (sum_own (B := 0) h (Nat.zero_le _))
theorem norm_sum (g : Nat) (w : World) (hK : Kws w.heap.size w) (hN : Nodes w.heap.size w (.slice (some ⟨g, 0, none⟩) 3 3) sumN) : Calls Tryd.prog 19 #[.agg #[.slice (some ⟨g, 0, none⟩) 3 3]] w fun e w' => ∃ A c, e = .returned (.tuple #[.agg #[.slice A 3 c], .int .i64 0]) ∧ Nodes w'.heap.size w' (.slice A 3 c) sumN ∧ Below w.heap.size w w' := by
  refine (norm_any sumN _ w hK hN sum_small sum_clone (by decide)).mono ?_
  rintro e w' ⟨v, ps, rfl, hps, hown, hb⟩
  obtain ⟨A, c, rfl⟩ := own_slice hown
  rw [sum_nrm] at hps
  have hl : ps.length = 3 := by have := congrArg List.length hps; rw [List.length_map] at this; exact this
  have hn := own_nodes hown
  rw [hps] at hn
  rw [hl] at hn ⊢
  exact ⟨A, c, by rw [sum_may], hn, hb⟩
set_option maxRecDepth 100000 in
set_option maxHeartbeats 4000000 in
theorem works_any (w : World) (hK : Kws w.heap.size w) : Calls Tryd.prog 18 #[] w fun e w' => e = .returned (.bool true) ∧ Below w.heap.size w w' := by
  have HK := Lib.hid hK
  clear hK
  have HKH : Hid (∀ w1, Below w.heap.size w w1 → Kws w1.heap.size w1) := Lib.hid fun w1 h => Kws_mono (HK.out.on h) h.size
  go_enter Tryd.func18, Tryd.ntmps18
  go_wp2_with (first
    | (go_at_call 19; refine (norm_sum _ _ (HKH.out _ HB1.out) HN1.out).mono ?_; rintro e w2 ⟨A2, c2, rfl, hn2, hb2⟩; have HN2 := Lib.hid hn2; have HB2 := Lib.hid (below_next HB1.out hb2 (Nat.le_refl _)); clear hn2 hb2)
    | (go_at_call 45; refine (sum_any _).mono ?_; rintro e w1 ⟨g1, rfl, hg1, hh1, hb1⟩; have HN1 := Lib.hid (sum_nodes hh1); have HB1 := Lib.hid hb1; clear hg1 hh1 hb1))
  go_region_with (first
    | (go_at_call 22; refine (tsame_any sumN sumN _ _ _ (HKH.out _ HB8.out) ((HN2.out.below HC8.out).mono HC8.out.size) HN8.out sum_small sum_clone (by decide) sum_small sum_clone (by decide)).mono ?_; rintro e w9 ⟨he, hb9⟩; rw [sum_same] at he; subst he; have HB9 := Lib.hid (below_next HB8.out hb9 (Nat.le_refl _)); clear hb9)
    | (go_at_call 45; refine (sum_any _).mono ?_; have _tag := HB7.out; clear _tag; rintro e w8 ⟨g8, rfl, hg8, hh8, hb8⟩; have HN8 := Lib.hid (sum_nodes hh8); have HB8 := Lib.hid (below_next HB7.out hb8 (Nat.le_refl _)); have HC8 := Lib.hid (below_next HC7.out hb8 (Nat.le_refl _)); have cE8 : w8.cell? ⟨w2.heap.size, 0, none⟩ = some (.slice A2 3 c2) := (Blk_cell (blk_next HE7.out hb8) 0).trans rfl; clear hg8 hh8 hb8)
    | (go_at_call 14; refine (deep_any sumN _ _ (HKH.out _ HB6.out) HN6.out sum_small).mono ?_; rintro e w7 ⟨he, hb7⟩; rw [sum_deep] at he; subst he; have HB7 := Lib.hid (below_next HB6.out hb7 (Nat.le_refl _)); have HC7 := Lib.hid (below_next HC6.out hb7 (Nat.le_refl _)); have xE7 := blk_next HE6.out hb7; have cE7 : w7.cell? ⟨w2.heap.size, 0, none⟩ = some (.slice A2 3 c2) := (Blk_cell xE7 0).trans rfl; have HE7 := Lib.hid xE7; clear hb7 xE7)
    | (go_at_call 45; refine (sum_any _).mono ?_; have _tag := HB5.out; clear _tag; rintro e w6 ⟨g6, rfl, hg6, hh6, hb6⟩; have HN6 := Lib.hid (sum_nodes hh6); have HB6 := Lib.hid (below_next HB5.out hb6 (Nat.le_refl _)); have HC6 := Lib.hid (below_next HC5.out hb6 (Nat.le_refl _)); have HE6 := Lib.hid (blk_next HE5.out hb6); clear hg6 hh6 hb6)
    | (go_at_call 13; refine (may_any sumN _ _ (HKH.out _ HB4.out) HN4.out sum_small).mono ?_; rintro e w5 ⟨he, hb5⟩; rw [sum_may] at he; subst he; have HB5 := Lib.hid (below_next HB4.out hb5 (Nat.le_refl _)); have HC5 := Lib.hid (below_next HC4.out hb5 (Nat.le_refl _)); have HE5 := Lib.hid (blk_next HE4.out hb5); clear hb5)
    | (go_at_call 45; refine (sum_any _).mono ?_; rintro e w4 ⟨g4, rfl, hg4, hh4, hb4⟩; have HN4 := Lib.hid (sum_nodes hh4); have HB4 := Lib.hid (below_next ((HB2.out.alloc HB2.out.size _).drew) hb4 (Nat.le_refl _)); have HC4 := Lib.hid (below_next (((Below.refl w2.heap.size w2).alloc (Nat.le_refl _) _).drew) hb4 (Nat.le_refl _)); have HE4 : Hid (w4.heap[w2.heap.size]? = some (.cells #[.slice A2 3 c2] 24)) := Lib.hid ((hb4.block w2.heap.size (by simp)).trans (newAt rfl)); clear hg4 hh4 hb4))
  all_goals
    go_wp2
    go_ret
    exact ⟨rfl, HB9.out⟩
end Go.Proofs.YteikpeaakmbihaaDoor.T
/- The copies of good nodes are good. -/
namespace Go.Proofs.YteikpeaakmbihaaDoor.T
theorem gd_relab_from : ∀ (l : List Fld) (ks : List Int), ∀ f ∈ relab l ks, ∃ g ∈ l, f.nm = g.nm ∧ f.vr = g.vr
  | [], _, f, h => by simp [relab] at h
  | g :: l, [], f, h => by simp [relab] at h
  | g :: l, k :: ks, f, h => by
    rw [relab, List.zipWith_cons_cons] at h
    rcases List.mem_cons.1 h with rfl | h
    · exact ⟨g, by simp, rfl, rfl⟩
    · obtain ⟨g', h1, h2⟩ := gd_relab_from l ks f h
      exact ⟨g', by simp [h1], h2⟩
theorem gd_wk_from (x : Nd) (ks : List Int) : ∀ f ∈ (wk x ks).l, ∃ g ∈ x.l, f.nm = g.nm ∧ f.vr = g.vr := fun f hf => by
  simp only [wk] at hf
  by_cases hm : many x = true
  · rw [if_pos hm] at hf; exact gd_relab_from _ _ f hf
  · rw [if_neg hm] at hf; simp at hf
theorem gd_wk_good {x : Nd} (h : Small x ∧ Clonable x) (ks : List Int) : Small (wk x ks) ∧ Clonable (wk x ks) := by
  obtain ⟨⟨a1, a2, a3, a4⟩, b1, b2, b3, b4⟩ := h
  have hl := wk_parts x ks
  refine ⟨⟨a1, a2, by omega, fun f hf => ?_⟩, b1, b2, by omega, fun f hf => ?_⟩
  · obtain ⟨g, hg, e1, e2⟩ := gd_wk_from x ks f hf
    rw [e1, e2]; exact a4 g hg
  · obtain ⟨g, hg, e1, e2⟩ := gd_wk_from x ks f hf
    rw [e1, e2]; exact b4 g hg
theorem gd_cp_good {l : List Nd} (hm : may l = 0) (hS : ∀ x ∈ l, Small x ∧ Clonable x) {i : Nat} (hi : i < l.length) : ∀ x ∈ cp l i [], Small x ∧ Clonable x := fun x hx => by
  have hf := (may_zero hm).2.1
  rw [← (stp_post hf.2.1 hf.2.2.1.1 _ hi ([], List.replicate l.length 0) (by simp)).1] at hx
  rcases stp_from l _ _ x hx with h | ⟨y, hy, ks, rfl⟩
  · simp at h
  · exact gd_wk_good (hS y hy) ks
end Go.Proofs.YteikpeaakmbihaaDoor.T
