/- Joined by program: PNorm, SApt. -/
import Derived.Test.YteikpeaakmbihaaDoorG27
/- Sub of what may not be; Norm, the program's. -/
namespace Go.Proofs.YteikpeaakmbihaaDoor.T
open Go.RowKit Go.Shelf
theorem own_slice {B : Nat} {W : World} {v : Value} {ps : List (Nd × Value)} (h : OwnN B W v ps) : ∃ A c, v = .slice A ps.length c := by
  rcases h.1.2 with ⟨rfl, h0⟩ | ⟨g, cap, cur, rfl, _⟩
  · exact ⟨none, 0, by rw [h0]⟩
  · exact ⟨_, _, rfl⟩
theorem res16 (tmps : Array Value) (W : World) (p : Nat) (A : Option Addr) (n c : Nat) (er : Int) (h2 : tmps[2]?.getD undef = .pointer (some ⟨p, 0, none⟩)) (h3 : tmps[3]?.getD undef = .int .i64 er) (hb : W.cell? ⟨p, 0, none⟩ = some (.slice A n c)) :
    Sem.run Tryd.prog (results Tryd.f19 tmps) W = .ok (.tuple #[.agg #[.slice A n c], .int .i64 er]) W := by
  simp [results, Tryd.results19, go_sem, h2, h3, hb]
set_option maxRecDepth 100000 in
set_option maxHeartbeats 4000000 in
theorem sub_bad (l : List Nd) (v : Value) (w : World) (hK : Kws w.heap.size w) (hN : Nodes w.heap.size w v l) (HS : ∀ x ∈ l, Small x) (i m : Int) (hm : may l = m) (h0 : m ≠ 0) :
    Calls Tryd.prog 20 #[.agg #[v], .int .i64 i] w (SubPost m [] w) := by
  obtain ⟨A, c, rfl, hx⟩ := hN
  obtain ⟨w2, hw2⟩ : ∃ w2, (w.alloc (.cells #[.slice A l.length c] 24)).alloc (.cells #[.slice none 0 0] 24) = w2 := ⟨_, rfl⟩
  have HB2 : Hid (Below w.heap.size w w2) := Lib.hid (by rw [← hw2]; exact ((Below.refl _ w).alloc (Nat.le_refl _) _).alloc (by simp) _)
  have hs2 : w2.heap.size = w.heap.size + 2 := by rw [← hw2]; simp
  have HM := Lib.hid (may_any l (.slice A l.length c) w2 (Kws_mono (hK.on HB2.out) HB2.out.size) ((show Nodes w.heap.size w (.slice A l.length c) l from ⟨A, c, rfl, hx⟩).below HB2.out |>.mono HB2.out.size) HS)
  rw [hm] at HM
  have hc2 : w2.heap[w.heap.size + 1]? = some (.cells #[.slice none 0 0] 24) := by rw [← hw2]; exact newAt (by simp)
  rw [← hw2] at HM HB2 hc2
  have HC2 := Lib.hid hc2
  have hne : (m != 0) = true := by simpa using h0
  clear hw2 hs2 hc2 hx hK
  go_enter Tryd.func20, Tryd.ntmps20
  go_wp2_with (go_at_call 13; refine HM.out.mono ?_; rintro e w1 ⟨rfl, hb1⟩; have HB1 := Lib.hid hb1; have hx1 := ((hb1.block (w.heap.size + 1) (by simp)).trans HC2.out); have f1 := Blk_frozen hx1 0; have c1 : w1.cell? ⟨w.heap.size + 1, 0, none⟩ = some (.slice none 0 0) := (Blk_cell hx1 0).trans rfl; have HX1 := Lib.hid hx1; clear hb1 hx1)
  have hx := blk_put (j := 0) (v := .slice none 0 0) HX1.out
  refine bodyPost_ret (v := .tuple #[.agg #[.slice none 0 0], .int .i64 m]) (res17 _ _ (w.heap.size + 1) none 0 0 m rfl rfl ((Blk_cell hx 0).trans rfl)) rfl ⟨.slice none 0 0, [], rfl, rfl, ownN_nil _ _, ?_⟩
  exact (HB2.out.trans (HB1.out.mono (by simp; omega))).setCell (p := ⟨w.heap.size + 1, 0, none⟩) (by show w.heap.size ≤ w.heap.size + 1; omega) _
/-- What Norm gives of these nodes. -/
noncomputable def nrm (l : List Nd) : List Nd := if may l = 0 then cp l (l.length - 1) [] else []
theorem may_big {l : List Nd} (h : may l = 0) : 1 ≤ l.length ∧ l.length ≤ 600 := by
  have := (may_zero h).1
  omega
set_option maxRecDepth 100000 in
set_option maxHeartbeats 4000000 in
theorem norm_any (l : List Nd) (v : Value) (w : World) (hK : Kws w.heap.size w) (hN : Nodes w.heap.size w v l) (HS : ∀ x ∈ l, Small x) (HC : ∀ x ∈ l, Clonable x) (hl : l.length ≤ 1000000) :
    Calls Tryd.prog 19 #[.agg #[v]] w (SubPost (may l) (nrm l) w) := by
  obtain ⟨A, c, rfl, hx⟩ := hN
  have hN : Nodes w.heap.size w (.slice A l.length c) l := ⟨A, c, rfl, hx⟩
  obtain ⟨w2, hw2⟩ : ∃ w2, (w.alloc (.cells #[.slice A l.length c] 24)).alloc (.cells #[.slice none 0 0] 24) = w2 := ⟨_, rfl⟩
  have HB2 : Hid (Below w.heap.size w w2) := Lib.hid (by rw [← hw2]; exact ((Below.refl _ w).alloc (Nat.le_refl _) _).alloc (by simp) _)
  have hK2 := Kws_mono (hK.on HB2.out) HB2.out.size
  have hN2 := (hN.below HB2.out).mono HB2.out.size
  have HSUB : Hid (Calls Tryd.prog 20 #[.agg #[.slice A l.length c], .int .i64 ((l.length : Int) - 1)] w2 (SubPost (may l) (nrm l) w2)) := Lib.hid (by
    by_cases hm : may l = 0
    · obtain ⟨h1, h6⟩ := may_big hm
      obtain ⟨_, _, e, hc, _, hq⟩ := hN2
      cases e
      obtain ⟨b, o, rfl, hb, hn⟩ := hq (by omega)
      have h := callsIn_wide.1 (sub_in 3 (Nat.le_refl 3) l l.length c b o (Lib.hid rfl) h6 hm w2 hK2 hb (Lib.hid hn) (Lib.hid HS) (Lib.hid HC) (l.length - 1) (by omega) hc)
      rw [hm, nrm, if_pos hm]
      rwa [show ((l.length - 1 : Nat) : Int) = (l.length : Int) - 1 by omega] at h
    · rw [nrm, if_neg hm]
      exact sub_bad l _ w2 hK2 hN2 HS _ _ rfl hm)
  have hc2 : w2.heap[w.heap.size + 1]? = some (.cells #[.slice none 0 0] 24) := by rw [← hw2]; exact newAt (by simp)
  rw [← hw2] at HSUB HB2 hc2
  have HC2 := Lib.hid hc2
  obtain ⟨m, hm⟩ : ∃ m, may l = m := ⟨_, rfl⟩
  rw [hm] at HSUB ⊢
  clear hw2 hc2 hx hK hK2 hN hN2 HS HC hm
  go_enter Tryd.func19, Tryd.ntmps19
  go_wp2_with (go_at_call 20; refine HSUB.out.mono ?_; rintro e w1 ⟨v1, ps, rfl, hps, hown, hb1⟩; obtain ⟨A1, k1, rfl⟩ : ∃ A c, v1 = .slice A ps.length c := (own_slice hown); have HB1 := Lib.hid hb1; have hx1 := ((hb1.block (w.heap.size + 1) (by simp)).trans HC2.out); have f1 := Blk_frozen hx1 0; have c1 : w1.cell? ⟨w.heap.size + 1, 0, none⟩ = some (.slice none 0 0) := (Blk_cell hx1 0).trans rfl; have HX1 := Lib.hid hx1; have HO1 := Lib.hid hown; have HP1 := Lib.hid hps; clear hb1 hx1 hown hps)
  have hx := blk_put (j := 0) (v := .slice A1 ps.length k1) HX1.out
  refine bodyPost_ret (v := .tuple #[.agg #[.slice A1 ps.length k1], .int .i64 m]) (res16 _ _ (w.heap.size + 1) A1 ps.length k1 m rfl rfl ((Blk_cell hx 0).trans rfl)) rfl ⟨_, ps, rfl, HP1.out, ?_, ?_⟩
  · have h := ownN_heap (W' := w1.setCell ⟨w.heap.size + 1, 0, none⟩ (.slice A1 ps.length k1)) HO1.out (fun g hg _ => set_far _ _ _ _ _ (by simp at hg; omega))
    exact ⟨row_mono h.1 (by simp; omega), fun x hx => row_mono (h.2 x hx) (by simp; omega)⟩
  · exact (HB2.out.trans (HB1.out.mono (by simp; omega))).setCell (p := ⟨w.heap.size + 1, 0, none⟩) (by show w.heap.size ≤ w.heap.size + 1; omega) _
end Go.Proofs.YteikpeaakmbihaaDoor.T
/- Norm, the program's, once more: each node's parts lie in a row of their own. -/
namespace Go.Proofs.YteikpeaakmbihaaDoor.T
open Go.RowKit Go.Shelf
/-- No two nodes' parts lie in one block. -/
def Apt (ps : List (Nd × Value)) : Prop := ps.Pairwise fun a b => a.2.ownBlock = none ∨ a.2.ownBlock ≠ b.2.ownBlock
theorem Apt.nil : Apt [] := List.Pairwise.nil
theorem Apt.snoc {B : Nat} {W w7 : World} {v vY : Value} {ps : List (Nd × Value)} {Y : Nd} (h : Apt ps) (ho : OwnN B W v ps) (hF : OwnF W.drew.heap.size w7 vY Y.l) : Apt (ps ++ [(Y, vY)]) := by
  rw [Apt, List.pairwise_append]
  refine ⟨h, List.pairwise_singleton _ _, fun a ha b hb => ?_⟩
  obtain rfl : b = (Y, vY) := by simpa using hb
  cases h1 : a.2.ownBlock with
  | none => exact .inl rfl
  | some g =>
    right
    intro e
    have h2 := (World.ownsRow.lt (ho.2 a ha) g h1).2
    have h3 := (World.ownsRow.lt hF g e.symm).1
    simp at h3
    omega
def SubPost2 (err : Int) (N : List Nd) (w : World) (e : Ending) (w' : World) : Prop := ∃ v ps, e = .returned (.tuple #[.agg #[v], .int .i64 err]) ∧ ps.map Prod.fst = N ∧ OwnN w.heap.size w' v ps ∧ Below w.heap.size w w' ∧ Apt ps
def SB2 (l : List Nd) (L c b o : Nat) (w : World) (s1 : Nat) (pre : List (Fin L)) (W : World) : Prop :=
  (∃ v ps, W.heap[s1]? = some (.cells #[v] 24) ∧ OwnN (s1 + 5) W v ps ∧ ps.map Prod.fst = (made l L pre).1 ∧ Apt ps) ∧ W.heap[s1 + 1]? = some (.cells ((made l L pre).2.map (Value.int .i64)).toArray 3) ∧
  W.heap[s1 + 1 + 1]? = some (.cells #[.slice (some ⟨s1 + 1, 0, none⟩) L L] 34) ∧ W.heap[w.heap.size]? = some (.cells #[.slice (some ⟨b, o, none⟩) L c] 24) ∧ W.heap[w.heap.size + 1]? = some (.cells #[.slice none 0 0] 24) ∧ s1 + 5 ≤ W.heap.size
def SI2 (l : List Nd) (L c b o : Nat) (w : World) (s1 : Nat) (pre : List (Fin L)) (W : World) : Prop := SB2 l L c b o w s1 pre W ∧ Below w.heap.size w W
theorem si_own2 (l : List Nd) (L c b o : Nat) (w : World) (s1 B : Nat) (hB : w.heap.size ≤ B) : OwnFrom B (SI2 l L c b o w s1) := by
  unfold SI2
  refine OwnFrom.and (Own.from ?_ _) (ownFrom_below (Nat.le_refl _) hB)
  rintro pre X Y row ⟨⟨v, ps, h1, h2, h3⟩, h4, h5, h6, h7, h8⟩ hg hr
  exact ⟨⟨v, ps, blk_abide h1 hg hr, ⟨row_abide h2.1 hg hr, fun y hy => row_abide (h2.2 y hy) hg hr⟩, h3⟩, blk_abide h4 hg hr, blk_abide h5 hg hr, blk_abide h6 hg hr, blk_abide h7 hg hr, Nat.le_trans h8 hg.size⟩
set_option maxHeartbeats 1000000 in
theorem end17b (l : List Nd) (L c b o : Nat) (w : World) (s1 B : Nat) (pre : List (Fin L)) (p : Nat) (hp : p < L) (y Y : Nd) (NW : List Int) (W W6 w7 w8 : World) (vA : Option Addr) (pn vc : Nat) (ps : List (Nd × Value)) (g8 c8 : Nat) (vY : Value) (ob : Obj)
    (hpn : pn = ps.length) (hw : w.heap.size + 1 < s1) (HO6 : KeepsOthers W W6) (HQ6 : Kq w.heap.size s1 (s1 + 1) W W6) (hq6 : s1 + 5 ≤ W6.heap.size) (hB7 : Below W6.drew.heap.size W6.drew w7)
    (hown8 : OwnN (s1 + 5) w8 (.slice (some ⟨g8, 0, none⟩) (pn + 1) c8) (ps ++ [(Y, vY)])) (hgrow8 : (w7.alloc ob).grownBy w8 (Value.slice vA pn vc).ownBlock) (hx8 : w8.heap[s1]? = some (.cells #[.slice vA pn vc] 24))
    (HOW6 : OwnN (s1 + 5) W6 (.slice vA pn vc) ps) (N1 : W6.heap[s1 + 1]? = some (.cells ((NW.set p (pn : Int)).map (Value.int .i64)).toArray 3)) (N2 : W6.heap[s1 + 1 + 1]? = some (.cells #[.slice (some ⟨s1 + 1, 0, none⟩) L L] 34))
    (N3 : W6.heap[w.heap.size]? = some (.cells #[.slice (some ⟨b, o, none⟩) L c] 24)) (N4 : W6.heap[w.heap.size + 1]? = some (.cells #[.slice none 0 0] 24))
    (hps : ps.map Prod.fst = (made l L pre).1) (hApt : Apt ps) (hF7 : OwnF W6.drew.heap.size w7 vY Y.l) (hNW : (made l L pre).2 = NW) (hy : l[p]? = some y) (hY : wk y ((kids y).map fun k => NW.getD k.toNat 0) = Y) (hBI : Below w.heap.size w W) :
    KeepsFrom B W (w8.setCell ⟨s1, 0, none⟩ (.slice (some ⟨g8, 0, none⟩) (pn + 1) c8)) ∧ Kq w.heap.size s1 (s1 + 1) W (w8.setCell ⟨s1, 0, none⟩ (.slice (some ⟨g8, 0, none⟩) (pn + 1) c8)) ∧ SI2 l L c b o w s1 (pre ++ [⟨p, hp⟩]) (w8.setCell ⟨s1, 0, none⟩ (.slice (some ⟨g8, 0, none⟩) (pn + 1) c8)) := by
  have hA7 : Below W6.heap.size W6 w7 := (Below.refl W6.heap.size W6).drew.trans hB7
  have hA : Below W6.heap.size W6 (w7.alloc ob) := hA7.alloc hA7.size _
  have hAs := hA.size
  have ho7 := ownN_heap HOW6 (W' := w7.alloc ob) (fun g _ hg => hA.block g hg)
  have hrow := own27 ho7.1
  have hfar : ∀ q, q < s1 + 5 → w8.heap[q]? = W6.heap[q]? := fun q hq => (hgrow8.block q (by omega) (fun e => by have := (hrow q e.symm).1; omega)).trans (hA.block q (by omega))
  obtain ⟨W', hW'⟩ : ∃ W', w8.setCell ⟨s1, 0, none⟩ (.slice (some ⟨g8, 0, none⟩) (pn + 1) c8) = W' := ⟨_, rfl⟩
  have hset : ∀ q, q ≠ s1 → W'.heap[q]? = w8.heap[q]? := fun q hq => by rw [← hW']; exact set_far _ _ _ _ _ hq
  have hfarW : ∀ q, q < s1 + 5 → q ≠ s1 → W'.heap[q]? = W6.heap[q]? := fun q hq hne => (hset q hne).trans (hfar q hq)
  have h8s := hgrow8.size
  have hWs : W'.heap.size = w8.heap.size := by rw [← hW']; simp
  have hK8 : Kq w.heap.size s1 (s1 + 1) W6 w8 := (Kq.of_below hA (by omega)).trans (kq_append hgrow8 (by omega) (fun r hr => ⟨by have := (hrow r hr).1; omega, (hrow r hr).2⟩))
  have hKW : Kq w.heap.size s1 (s1 + 1) W W' := HQ6.trans (hK8.trans (by rw [← hW']; exact kq_set _ _ _ _ _ _ _ (.inl rfl) (by omega)))
  have hKO : KeepsOthers W W' := HO6.trans ((KeepsOthers.of_grownBy (grown_belowK hA none) (fun j o e => by cases e)).trans ((KeepsOthers.of_grownBy hgrow8 (fun j o hj ho => by
    obtain ⟨_, cur, hc⟩ := hrow j hj
    rw [hc] at ho
    injection ho with ho
    subst ho; rfl)).trans (by rw [← hW']; exact KeepsOthers.setCell _ _ _)))
  have hs1 : W'.heap[s1]? = some (.cells #[.slice (some ⟨g8, 0, none⟩) (pn + 1) c8] 24) := by rw [← hW', blk_put hx8]; simp
  have hst : stp l (made l L pre) p = ((made l L pre).1 ++ [Y], NW.set p (pn : Int)) := by
    have hl : (made l L pre).1.length = pn := by rw [← hps, List.length_map, hpn]
    unfold stp
    simp only [hy]
    rw [hNW, hY, hl]
  rw [hW']
  refine ⟨hKO.from B, hKW, ⟨⟨_, ps ++ [(Y, vY)], hs1, ownN_heap hown8 (fun g h1 _ => hset g (by omega)), ?_⟩, ?_, ?_, ?_, ?_, by omega⟩, hBI.trans hKW.1⟩
  · exact ⟨by rw [made_snoc, hst]; simp [hps], hApt.snoc HOW6 hF7⟩
  · rw [made_snoc, hst]; exact (hfarW _ (by omega) (by omega)).trans N1
  · exact (hfarW _ (by omega) (by omega)).trans N2
  · exact (hfarW _ (by omega) (by omega)).trans N3
  · exact (hfarW _ (by omega) (by omega)).trans N4
attribute [local go_sem] Oper.semAt_some
set_option maxRecDepth 100000 in
set_option maxHeartbeats 8000000 in
theorem sub_in2 (n : Nat) (hn : 3 ≤ n) (l : List Nd) (L c b o : Nat) (HL : Hid (l.length = L)) (hL : L ≤ 600) (hm : may l = 0) (w : World) (hK : Kws w.heap.size w) (hb : b < w.heap.size) (HN : Hid (NdsAt w.heap.size w b o l)) (HS : Hid (∀ x ∈ l, Small x)) (HC : Hid (∀ x ∈ l, Clonable x)) (i : Nat) (hi : i < L) (hc : L ≤ c ∧ c ≤ 9223372036854775807) :
    CallsIn Fence.wide n Tryd.prog 20 #[.agg #[.slice (some ⟨b, o, none⟩) L c], .int .i64 (i : Int)] w (SubPost2 0 (cp l i []) w) := by
  have h1 : 1 ≤ n := by omega
  have hw2 : Below w.heap.size w ((w.alloc (.cells #[.slice (some ⟨b, o, none⟩) L c] 24)).alloc (.cells #[.slice none 0 0] 24)) := ((Below.refl _ w).alloc (Nat.le_refl _) _).alloc (by simp) _
  have HM : Hid (Calls Tryd.prog 13 #[.agg #[.slice (some ⟨b, o, none⟩) L c]] ((w.alloc (.cells #[.slice (some ⟨b, o, none⟩) L c] 24)).alloc (.cells #[.slice none 0 0] 24)) fun e w' => e = .returned (.int .i64 0) ∧ Below (w.heap.size + 2) ((w.alloc (.cells #[.slice (some ⟨b, o, none⟩) L c] 24)).alloc (.cells #[.slice none 0 0] 24)) w') := Lib.hid (by
    have hfm := (may_zero hm).1
    have hs2 : ((w.alloc (.cells #[.slice (some ⟨b, o, none⟩) L c] 24)).alloc (.cells #[.slice none 0 0] 24)).heap.size = w.heap.size + 2 := by simp
    have := depth_any l L c b o HL (by rw [← HL.out]; omega) hL _ (Kws_mono (hK.on hw2) hw2.size) (by rw [hs2]; omega) (Lib.hid ((HN.out.below hw2 hb).mono hw2.size)) HS
    have h := may_any l (.slice (some ⟨b, o, none⟩) L c) _ (Kws_mono (hK.on hw2) hw2.size) ⟨some ⟨b, o, none⟩, c, by rw [HL.out], by rw [HL.out]; exact hc, fun h => (by cases h), fun _ => ⟨b, o, rfl, by rw [hs2]; omega, (HN.out.below hw2 hb).mono hw2.size⟩⟩ HS.out
    rw [hm, hs2] at h
    exact h)
  have hmk := make_arr L (by omega)
  have hd1 : decide (L ≤ i) = false := by simpa using hi
  have hd2 : ¬ L ≤ i := by omega
  have hd3 : decide ((i : Int) < 0) = false := by simp
  have hcE := (cell_under1 (w.alloc (.cells #[.slice (some ⟨b, o, none⟩) L c] 24)) (.cells #[.slice none 0 0] 24) w.heap.size 0 (by simp)).trans (new_cellsT' w 24 [.slice (some ⟨b, o, none⟩) L c] 0 _ rfl)
  refine callsIn_of_wp_marks Tryd.func20 rfl trivial ?_ rfl
  simp only [Tryd.ntmps20, List.size_toArray, List.length_cons, List.length_nil, Nat.reduceAdd, Nat.reduceSub, Array.replicate_succ, Array.replicate_zero, List.push_toArray, List.append_toArray, List.nil_append, List.cons_append]
  gi_wp2_with (first
    | (refine ⟨trivial, ?_⟩; gi_at_call 13; refine (callsIn_wide.2 HM.out).mono ?_; rintro e w1 ⟨rfl, hb1⟩; have c1 := (hb1.cell (p := ⟨w.heap.size, 0, none⟩) (by simp)).trans hcE; have hs1 := hb1.size; rw [World.size_alloc, World.size_alloc] at hs1; have hq1 : w.heap.size < w1.heap.size := (by omega); have hq2 : w.heap.size < w1.heap.size + 1 := (by omega); have hq3 : w.heap.size < w1.heap.size + 1 + 1 := (by omega); have hq4 : w.heap.size < w1.heap.size + 1 + 1 + 1 := (by omega); have HB1 := Lib.hid hb1; clear hb1)
    | (refine ⟨trivial, ?_⟩; gi_at_call 46; refine (below_in (n - 1) _ _ _ _ rfl _ _).mono ?_; rintro e w3 ⟨rfl, rfl⟩))
  obtain ⟨W0, hW0⟩ : ∃ W0, ((((w1.alloc (.cells #[.slice none 0 0] 24)).alloc (.cells (Array.replicate L (Value.int .i64 0)) 3)).alloc (.cells #[.slice (some ⟨w1.heap.size + 1, 0, none⟩) L L] 34)).alloc (.cells #[.slice (some ⟨b, o, none⟩) L c] 24)).alloc (.cells #[.int .i64 (i : Int)] 3) = W0 := ⟨_, rfl⟩
  rw [hW0]
  have hsz : W0.heap.size = w1.heap.size + 5 := by rw [← hW0]; simp
  have hblk : ∀ j, j < w1.heap.size → W0.heap[j]? = w1.heap[j]? := fun j hj => by rw [← hW0]; exact ((((((Below.refl w1.heap.size w1).alloc (Nat.le_refl _) _).alloc (by simp) _).alloc (by simp; omega) _).alloc (by simp; omega) _).alloc (by simp; omega) _).block j hj
  obtain ⟨g0, g1', g2, g3, g4⟩ := allocs5 w1 _ _ _ _ _ W0 hW0
  have g1 : W0.heap[w1.heap.size + 1]? = some (.cells ((List.replicate L (0 : Int)).map (Value.int .i64)).toArray 3) := by rw [g1']; simp
  have hs2 : ((w.alloc (.cells #[.slice (some ⟨b, o, none⟩) L c] 24)).alloc (.cells #[.slice none 0 0] 24)).heap.size = w.heap.size + 2 := by simp
  have hb01 : Below w.heap.size w w1 := hw2.trans (HB1.out.mono (by omega))
  have hBW : Below w.heap.size w W0 := by
    rw [← hW0]
    exact ((((hb01.alloc hb01.size _).alloc (by simp; omega) _).alloc (by simp; omega) _).alloc (by simp; omega) _).alloc (by simp; omega) _
  have g5 : W0.heap[w.heap.size]? = some (.cells #[.slice (some ⟨b, o, none⟩) L c] 24) := (hblk _ (by omega)).trans ((HB1.out.block _ (by omega)).trans (nextAt (newAt rfl)))
  have g6 : W0.heap[w.heap.size + 1]? = some (.cells #[.slice none 0 0] 24) := (hblk _ (by omega)).trans ((HB1.out.block _ (by omega)).trans (newAt (by simp)))
  have hfm := (may_zero hm).2.1
  have HKO : Hid (kidsOk l) := Lib.hid hfm.2.1
  have HND : Hid ((allKids l).Nodup) := Lib.hid hfm.2.2.1.1
  clear hW0 hblk g1' hb01 hs2
  refine wpIn_rangeFunc_ownH (α := Fin L) rfl h1 (gf := 70) (lb := #[.pointer (some ⟨w1.heap.size + 1 + 1 + 1, 0, none⟩), .pointer (some ⟨w1.heap.size + 1 + 1 + 1 + 1, 0, none⟩)]) rfl trivial (enters_of Tryd.func70 (by kernel_rfl) rfl)
    (below_stops l L c b o HL (by omega) HKO (Lib.hid fun x hx => (HS.out x hx).2.2.1) w.heap.size w1.heap.size (w1.heap.size + 1) hb i hi (n - 1) W0 (HN.out.below hBW hb) hBW.size (by omega) (by omega) (w1.heap.size + 1 + 1 + 1) (w1.heap.size + 1 + 1 + 1 + 1) (by omega) (by omega) (Blk_cell g3 0) (Blk_cell g4 0))
    Kq.trans (kq_b hBW.size) (Below.refl _ _) (fun _ => rfl)
    (SI2 l L c b o w w1.heap.size) (fun _ _ _ => False) (si_own2 l L c b o w w1.heap.size _ hBW.size) (fun _ _ _ _ _ hs _ _ => hs)
    ⟨⟨⟨.slice none 0 0, [], g0, ownN_nil _ _, rfl, Apt.nil⟩, g1, g2, g5, g6, by omega⟩, hBW⟩
    (fun x a' W => a' = { tmps := #[.agg #[.slice (some ⟨b, o, none⟩) L c], .int .i64 (i : Int), .pointer (some ⟨w.heap.size, 0, none⟩), undef, .pointer (some ⟨w.heap.size + 1, 0, none⟩), .int .i64 0, .int .i64 0, .pointer (some ⟨w1.heap.size, 0, none⟩), .pointer (some ⟨w1.heap.size + 1 + 1, 0, none⟩), .int .i64 ((x.1 : Nat) : Int), undef, undef, undef, .agg #[.slice (some ⟨b, o, none⟩) L c], .int .i64 0, .int .i64 0, .bool false, undef, undef, .int .i64 (i : Int), .bool false, .bool false, .int .i64 (i : Int), .pointer (some ⟨w.heap.size, 0, none⟩), .slice (some ⟨b, o, none⟩) L c, .int .i64 (L : Int), .bool false, .bool false, undef, .pointer (some ⟨w.heap.size, 0, none⟩), .slice (some ⟨b, o, none⟩) L c, .int .i64 (L : Int), .slice (some ⟨w1.heap.size + 1, 0, none⟩) L L, .agg #[.slice (some ⟨b, o, none⟩) L c], .int .i64 (i : Int), .func (.func 70) #[] #[.pointer (some ⟨w1.heap.size + 1 + 1 + 1, 0, none⟩), .pointer (some ⟨w1.heap.size + 1 + 1 + 1 + 1, 0, none⟩)], .int .i64 ((x.1 : Nat) : Int), undef, undef, undef, undef, undef, undef, undef, undef, undef, undef, undef, undef, undef, undef, undef, undef, undef, undef, undef, undef, undef, undef, undef, undef, undef, undef, undef, undef, undef, undef, undef, undef, undef, undef, undef, undef, undef, undef, undef, undef], defers := [] })
    (fun x a' _ X Y row hs hg hr => hs)
    ?assign ?body ?done ?stop
  case assign =>
    rintro lr pre x W K hI hK
    simp only [encP]
    gi_wp2
    exact hK _ _ (KeepsFrom.refl _ _) (Kq.refl _ _ _ _) hI rfl
  case body =>
    clear hm hK hw2 HM hmk hd1 hd2 hd3 hcE c1 hq1 hq2 hq3 hq4 HB1 g0 g1 g2 g3 g4 g5 g6 hBW hfm hsz
    rintro lr pre ⟨p, hp⟩ a' W hl ⟨r, hr⟩ ⟨⟨⟨v, ps, s0, hown, hps, hapt⟩, s1, s2, s3, s4, s5⟩, hB⟩ rfl hlt
    have HAPT := Lib.hid hapt
    clear hapt
    obtain ⟨y, hy⟩ : ∃ y, l[p]? = some y := ⟨_, List.getElem?_eq_getElem (by rw [HL.out]; exact hp)⟩
    obtain ⟨NW, hNW⟩ : ∃ NW, (made l L pre).2 = NW := ⟨_, rfl⟩
    have hnl : NW.length = L := by rw [← hNW]; have := (stp_len l (pre.map Fin.val) ([], List.replicate L 0)).2; simpa [made] using this
    have hpl : ps.length ≤ 100000 := by
      have h1 := (stp_len l (pre.map Fin.val) ([], List.replicate L 0)).1
      have h2 := congrArg List.length hps
      have h3 := fin_len L (post l i)
      have h4 := post_len HKO.out HND.out (i := i) (by rw [HL.out]; exact hi)
      simp only [List.length_map, List.length_nil, made] at h1 h2
      rw [HL.out] at h4
      omega
    rw [hNW] at s1
    have HNW := Lib.hid hNW
    have HY := Lib.hid hy
    have ha := HKO.out p y hy
    have HHP := Lib.hid hps
    have HOWN := Lib.hid hown
    have HBI := Lib.hid hB
    have HS0 := Lib.hid s0
    have HS1 := Lib.hid s1
    have HS2 := Lib.hid s2
    have HS3 := Lib.hid s3
    have HS4 := Lib.hid s4
    obtain ⟨vA, vc, rfl⟩ : ∃ A c, v = .slice A ps.length c := by
      rcases hown.1.2 with ⟨rfl, h0⟩ | ⟨g, cap, cur, rfl, _⟩
      · exact ⟨none, 0, by rw [h0]⟩
      · exact ⟨_, _, rfl⟩
    have hwW : w.heap.size + 1 < W.heap.size := (Array.getElem?_eq_some_iff.1 s4).1
    have hbW : b < W.heap.size := by omega
    obtain ⟨fv, hfl, m0, m1, m2, m3, m4, m5, m6, m7, m8⟩ := (HN.out.below hB hb) p y hy
    have HFL : Hid (Flds W.heap.size W fv y.l) := Lib.hid (hfl.mono (by omega))
    obtain ⟨FA, fc, rfl, _⟩ := hfl
    have HKD := Lib.hid (pkids_any y (.slice FA y.l.length fc) W (Nat.le_refl _) HFL.out (HS.out y (List.mem_of_getElem? hy)).2.2.1)
    have hkl : (kids y).length ≤ 1000003 := by have := kids_len y; have := (HS.out y (List.mem_of_getElem? hy)).2.2.1; omega
    obtain ⟨K, hK⟩ : ∃ K, kids y = K := ⟨_, rfl⟩
    rw [hK] at HKD hkl
    have HAH : Hid (∀ m ∈ K, 0 ≤ m ∧ m < (p : Int)) := Lib.hid (by rw [← hK]; exact ha)
    have HKX := Lib.hid hK
    have e0 : W.cell? ⟨w.heap.size, 0, none⟩ = some (.slice (some ⟨b, o, none⟩) L c) := (Blk_cell s3 0).trans rfl
    have h1n : 1 ≤ n - 1 - 1 := by omega
    have HM7 := Lib.hid m7
    clear hy ha hK hps hown s0 s1 s2 s3 s4 hNW hB
    gi_wp2_with (refine ⟨trivial, ?_⟩; gi_at_call 16; refine (CallsIn.inRound lr (callsIn_wide.2 HKD.out)).mono ?_; rintro e w5 ⟨gk, ck, rfl, hi5, hb5⟩; have HI5 := Lib.hid hi5; have HB5 := Lib.hid hb5; clear hi5 hb5)
    have hgk := (HI5.out.lt gk rfl)
    clear m0 m1 m2 m3 m4 m5 m6 m7 m8 e0
    have hmx : Tryd.prog.follows .mixedOrders = true := by kernel_rfl
    have HK5 := Lib.hid (KRow.of HI5.out)
    gi_loopw [45] (fun v wr => ∃ j : Nat, v = .int .i64 (j : Int) ∧ j ≤ K.length ∧ Hid (KRow wr gk (mix (fun k => NW.getD k.toNat 0) K j)) ∧ Hid (∀ q, q ≠ gk → wr.heap[q]? = w5.heap[q]?) ∧ Hid (Below W.heap.size W wr)) (fun v _ => K.length - (intOf v).toNat)
    case atStart => exact ⟨0, rfl, Nat.zero_le _, Lib.hid (by have := HK5.out; simpa [mix] using this), Lib.hid (fun q _ => rfl), HB5⟩
    case round =>
      obtain ⟨j, rfl, hj, HR, HOT, HBR⟩ := hrel
      have hsz1 : w1.heap.size + 5 ≤ W.heap.size := s5
      have HS2' := Lib.hid ((HBR.out.block (w1.heap.size + 1 + 1) (by omega)).trans HS2.out)
      have HS1' := Lib.hid ((HBR.out.block (w1.heap.size + 1) (by omega)).trans HS1.out)
      have cw : wr.cell? ⟨w1.heap.size + 1 + 1, 0, none⟩ = some (.slice (some ⟨w1.heap.size + 1, 0, none⟩) L L) := (Blk_cell HS2'.out 0).trans rfl
      by_cases hjl : j < K.length
      · obtain ⟨k, hk⟩ : ∃ k, K[j]? = some k := ⟨_, List.getElem?_eq_getElem hjl⟩
        have hck := HR.out.row j k (mix_at hk)
        have hfk := HR.out.frozen j
        obtain ⟨h0, h1⟩ := HAH.out k (List.mem_of_getElem? hk)
        have HKK := Lib.hid hk
        clear hk
        obtain ⟨q, rfl⟩ := Int.eq_ofNat_of_zero_le h0
        have hqL : q < L := by omega
        obtain ⟨z, hz⟩ : ∃ z, NW[q]? = some z := ⟨_, List.getElem?_eq_getElem (by omega)⟩
        have hcz := row0_of HS1'.out q z hz
        have HZ := Lib.hid hz
        clear hz
        gi_wp2
        go_roundw
        case rel =>
          refine ⟨j + 1, by go_num, by omega, Lib.hid ?_, Lib.hid (fun q' hq' => (set_far _ _ _ _ _ hq').trans (HOT.out q' hq')), Lib.hid (HBR.out.setCell (p := ⟨gk, j, none⟩) hgk.1 _)⟩
          have h := HR.out.set (j := j) (by rw [mix_len]; exact hjl) z
          rw [← mix_step HKK.out]
          have e : NW.getD (((q : Nat) : Int)).toNat 0 = z := by
            simp only [Int.toNat_natCast, List.getD_eq_getElem?_getD, HZ.out, Option.getD_some]
          rw [e]
          exact h
        case measure => simp [intOf]; omega
      · obtain rfl : j = K.length := by omega
        have hmix : mix (fun k => NW.getD k.toNat 0) K K.length = K.map fun k => NW.getD k.toNat 0 := by simp [mix]
        have HRF : Hid (KRow wr gk (K.map fun k => NW.getD k.toNat 0)) := Lib.hid (hmix ▸ HR.out)
        have HS0' := Lib.hid ((HBR.out.block w1.heap.size (by omega)).trans HS0.out)
        have hgw : gk < wr.heap.size := by obtain ⟨cur9, hcur9, _⟩ := HRF.out; exact (Array.getElem?_eq_some_iff.1 hcur9).1
        have cs0 : wr.cell? ⟨w1.heap.size, 0, none⟩ = some (.slice vA ps.length vc) := (Blk_cell HS0'.out 0).trans rfl
        obtain ⟨z, hz⟩ : ∃ z, NW[p]? = some z := ⟨_, List.getElem?_eq_getElem (by omega)⟩
        have hcz := row0_of HS1'.out p z hz
        have hfz := Blk_frozen HS1'.out p
        clear hz hmix
        gi_wp2
        obtain ⟨W6, hW6⟩ : ∃ W6, wr.setCell ⟨w1.heap.size + 1, p, none⟩ (.int .i64 (ps.length : Int)) = W6 := ⟨_, rfl⟩
        rw [hW6]
        have hW6s : W6.heap.size = wr.heap.size := by rw [← hW6]; simp
        have HN6 : Hid (W6.heap[w1.heap.size + 1]? = some (.cells ((NW.set p (ps.length : Int)).map (Value.int .i64)).toArray 3)) := Lib.hid (by rw [← hW6]; exact set_row HS1'.out)
        have HFAR : Hid (∀ q, q ≠ w1.heap.size + 1 → W6.heap[q]? = wr.heap[q]?) := Lib.hid (fun q hq => by rw [← hW6]; exact set_far _ _ _ _ _ hq)
        have HQ6 : Hid (Kq w.heap.size w1.heap.size (w1.heap.size + 1) W W6) := Lib.hid (by rw [← hW6]; exact (Kq.of_below HBR.out (by omega)).trans (kq_set _ _ _ _ _ _ _ (.inr rfl) (by omega)))
        have HO6 : Hid (KeepsOthers W W6) := Lib.hid (by rw [← hW6]; exact (KeepsOthers.of_grownBy (grown_belowK HBR.out none) (fun j o e => by cases e)).trans (KeepsOthers.setCell _ _ _))
        have HOW6 : Hid (OwnN (w1.heap.size + 5) W6 (.slice vA ps.length vc) ps) := Lib.hid (ownN_heap HOWN.out (fun g h1 h2 => (HFAR.out g (by omega)).trans (HBR.out.block g h2)))
        have hB6 := HBR.out.size
        have hcE6 : W6.cell? ⟨w.heap.size, 0, none⟩ = some (.slice (some ⟨b, o, none⟩) L c) := (Blk_cell ((HFAR.out _ (by omega)).trans ((HBR.out.block _ (by omega)).trans HS3.out)) 0).trans rfl
        have hcs6 : W6.cell? ⟨w1.heap.size, 0, none⟩ = some (.slice vA ps.length vc) := (Blk_cell ((HFAR.out _ (by omega)).trans HS0'.out) 0).trans rfl
        have hfs6 : W6.frozen? ⟨w1.heap.size, 0, none⟩ = false := Blk_frozen ((HFAR.out _ (by omega)).trans HS0'.out) 0
        obtain ⟨fv', hfl', m0, m1, m2, m3, m4, m5, m6, m7, m8⟩ := (HN.out.below (HBI.out.trans HQ6.out.1) hb) p y HY.out
        have HKR6 := Lib.hid (HRF.out.heap (HFAR.out gk (by omega)))
        have hfv : fv' = .slice FA y.l.length fc := by
          have hm7 : W6.cell? ⟨b, o + p * 9 + 7, none⟩ = W.cell? ⟨b, o + p * 9 + 7, none⟩ := HQ6.out.1.cell (p := ⟨b, o + p * 9 + 7, none⟩) hb
          rw [m7, HM7.out] at hm7
          injection hm7
        subst hfv
        have HWK : Hid (Calls Tryd.prog 47 #[.agg (ndArr y (.slice FA y.l.length fc)), .slice (some ⟨gk, 0, none⟩) K.length ck] W6.drew (WithPost (wk y (K.map fun k => NW.getD k.toNat 0)) W6.drew)) := Lib.hid (by
          have hd : W6.drew.heap = W6.heap := rfl
          have := with_any y (.slice FA y.l.length fc) (K.map fun k => NW.getD k.toNat 0) gk ck W6.drew (by
            have h1 := (hfl'.mono (show w.heap.size ≤ W6.heap.size by omega))
            exact h1.below (Below.refl W6.heap.size W6).drew) (by rw [List.length_map, HKX.out]) (Row0.drew HKR6.out.row) (by rw [hd]; omega) (by
            rw [List.length_map]
            rcases HI5.out.2 with ⟨h, _⟩ | ⟨g', cap', cur, h, _, _, hle, _⟩
            · cases h
            · cases h; exact hle) (HC.out y (List.mem_of_getElem? HY.out))
          rw [List.length_map] at this
          exact this)
        obtain ⟨Y, hYY⟩ : ∃ Y, wk y (K.map fun k => NW.getD k.toNat 0) = Y := ⟨_, rfl⟩
        rw [hYY] at HWK
        have HYY := Lib.hid hYY
        clear hYY hW6 hcz hfz cs0 cw
        unfold WithPost at HWK
        obtain ⟨k2, a2, b2, c2, n2, nm2, t2, l2, p2⟩ := Y
        unfold ndArr at HWK
        simp only at HWK
        have hq6 : w1.heap.size + 5 ≤ W6.heap.size := by omega
        have N2 := Lib.hid ((HFAR.out (w1.heap.size + 1 + 1) (by omega)).trans HS2'.out)
        have N3 := Lib.hid ((HFAR.out w.heap.size (by omega)).trans ((HBR.out.block w.heap.size (by omega)).trans HS3.out))
        have N4 := Lib.hid ((HFAR.out (w.heap.size + 1) (by omega)).trans ((HBR.out.block (w.heap.size + 1) (by omega)).trans HS4.out))
        have HS6 := Lib.hid ((HFAR.out w1.heap.size (by omega)).trans HS0'.out)
        have HEE : Hid (w.heap.size + 1 < w1.heap.size) := Lib.hid (by omega)
        clear hj hkl hlt hnl hwW hbW hW6s hB6 hgw hfl' hjl
        refine app17_any lr (n - 1 - 1) h1n hmx _ W6 w.heap.size w1.heap.size gk K.length ck b o L c p vA ps.length vc ps (Lib.hid rfl) hpl hp hq6 (by have := HEE.out; omega) hcE6 HS6 hcs6 HOW6 _ _ _ _ _ _ _ _ _ m0 m1 m2 m3 m4 m5 m6 m7 m8 k2 a2 b2 c2 n2 nm2 t2 l2 p2 (Lib.hid (CallsIn.inRound lr (callsIn_wide.2 HWK.out))) _ _ _ _ _ _ _ _ _ _ _ _ _ _ _ _ _ _ _ _ _ _ _ _ _ _ _ _ _ _ _ _ _ _ _ _ _ _ _ _ _ _ _ _ _ _ _ _ _ _ _ _ _ _ _ _ _ _ _ _ _ _ _ _ _ _ _ _ _ _ _ _ _ (Lib.hid ?_)
        intro _ _ _ _ _ _ _ _ _ _ _ _ A7 c7 w7 g8 c8 w8 q1 q2 q3 q4 q5
        exact end17b l L c b o w w1.heap.size _ pre p hp y _ NW W W6 w7 w8 vA ps.length vc ps g8 c8 _ _ rfl HEE.out HO6.out HQ6.out hq6 q1 q3 q4 q5 HOW6.out HN6.out N2.out N3.out N4.out HHP.out HAPT.out q2 HNW.out HY.out (by rw [HKX.out]; exact HYY.out) HBI.out
  case done =>
    rintro D ys W hD rfl ⟨⟨⟨v, ps, s0, hown, hps, hapt⟩, s1, s2, s3, s4, s5⟩, hB⟩ hK
    have HAPT := Lib.hid hapt
    clear hapt
    obtain ⟨vA, vc, rfl⟩ : ∃ A c, v = .slice A ps.length c := by
      rcases hown.1.2 with ⟨rfl, h0⟩ | ⟨g, cap, cur, rfl, _⟩
      · exact ⟨none, 0, by rw [h0]⟩
      · exact ⟨_, _, rfl⟩
    have c1 := (Blk_cell s0 0).trans rfl
    have c2 := (Blk_cell s4 0).trans rfl
    have f2 := Blk_frozen s4 0
    clear HM hmk
    gi_wp2
    have hK' := (KeepsOthers.setCell W ⟨w.heap.size + 1, 0, none⟩ (.slice vA ps.length vc)).same D _ hK rfl
    refine ⟨by simp, .inl ⟨_, _, rfl, run_takeDeferred hK', ?_⟩⟩
    have hgr := grownBy_putObj' (W.setCell ⟨w.heap.size + 1, 0, none⟩ (.slice vA ps.length vc)) D (.deferred none)
    have hrr : ∀ r, some D = some r → ∃ o, (W.setCell ⟨w.heap.size + 1, 0, none⟩ (.slice vA ps.length vc)).heap[r]? = some o ∧ o.isCells = false := fun r e => by cases e; exact ⟨_, hK', rfl⟩
    have hx := blk_abide (blk_put (j := 0) (v := .slice vA ps.length vc) s4) hgr hrr
    have ho1 : OwnN (w1.heap.size + 5) (W.setCell ⟨w.heap.size + 1, 0, none⟩ (.slice vA ps.length vc)) (.slice vA ps.length vc) ps := ownN_heap hown (fun g hg _ => set_far _ _ _ _ _ (by omega))
    have hBB := (hB.setCell (p := ⟨w.heap.size + 1, 0, none⟩) (by show w.heap.size ≤ w.heap.size + 1; omega) (.slice vA ps.length vc)).grown hgr (by simpa using hB.size) (fun k e => by cases e; omega)
    refine ⟨.tuple #[.agg #[.slice vA ps.length vc], .int .i64 0], res17 _ _ (w.heap.size + 1) vA ps.length vc 0 rfl rfl ((Blk_cell hx 0).trans rfl), .slice vA ps.length vc, ps, rfl, ?_, ⟨row_mono (row_abide ho1.1 hgr hrr) (by omega), fun x hx => row_mono (row_abide (ho1.2 x hx) hgr hrr) (by omega)⟩, hBB, HAPT.out⟩
    have hil : i < l.length := by rw [HL.out]; exact hi
    rw [hps, made, fin_val (fun m hm => by have := post_le HKO.out i hil m hm; omega)]
    exact (stp_post HKO.out HND.out i hil ([], List.replicate L 0) (by simp [HL.out])).1
  case stop =>
    rintro D c pre W hD _ h _
    exact h.elim

set_option maxRecDepth 100000 in
set_option maxHeartbeats 4000000 in
theorem norm_any2 (l : List Nd) (v : Value) (w : World) (hK : Kws w.heap.size w) (hN : Nodes w.heap.size w v l) (HS : ∀ x ∈ l, Small x) (HC : ∀ x ∈ l, Clonable x) (hl : l.length ≤ 1000000) :
    Calls Tryd.prog 19 #[.agg #[v]] w (SubPost2 (may l) (nrm l) w) := by
  obtain ⟨A, c, rfl, hx⟩ := hN
  have hN : Nodes w.heap.size w (.slice A l.length c) l := ⟨A, c, rfl, hx⟩
  obtain ⟨w2, hw2⟩ : ∃ w2, (w.alloc (.cells #[.slice A l.length c] 24)).alloc (.cells #[.slice none 0 0] 24) = w2 := ⟨_, rfl⟩
  have HB2 : Hid (Below w.heap.size w w2) := Lib.hid (by rw [← hw2]; exact ((Below.refl _ w).alloc (Nat.le_refl _) _).alloc (by simp) _)
  have hK2 := Kws_mono (hK.on HB2.out) HB2.out.size
  have hN2 := (hN.below HB2.out).mono HB2.out.size
  have HSUB : Hid (Calls Tryd.prog 20 #[.agg #[.slice A l.length c], .int .i64 ((l.length : Int) - 1)] w2 (SubPost2 (may l) (nrm l) w2)) := Lib.hid (by
    by_cases hm : may l = 0
    · obtain ⟨h1, h6⟩ := may_big hm
      obtain ⟨_, _, e, hc, _, hq⟩ := hN2
      cases e
      obtain ⟨b, o, rfl, hb, hn⟩ := hq (by omega)
      have h := callsIn_wide.1 (sub_in2 3 (Nat.le_refl 3) l l.length c b o (Lib.hid rfl) h6 hm w2 hK2 hb (Lib.hid hn) (Lib.hid HS) (Lib.hid HC) (l.length - 1) (by omega) hc)
      rw [hm, nrm, if_pos hm]
      rwa [show ((l.length - 1 : Nat) : Int) = (l.length : Int) - 1 by omega] at h
    · rw [nrm, if_neg hm]
      refine (sub_bad l _ w2 hK2 hN2 HS _ _ rfl hm).mono ?_
      rintro e w' ⟨v, ps, h1, h2, h3, h4⟩
      obtain rfl : ps = [] := by simpa using h2
      exact ⟨v, [], h1, h2, h3, h4, Apt.nil⟩)
  have hc2 : w2.heap[w.heap.size + 1]? = some (.cells #[.slice none 0 0] 24) := by rw [← hw2]; exact newAt (by simp)
  rw [← hw2] at HSUB HB2 hc2
  have HC2 := Lib.hid hc2
  obtain ⟨m, hm⟩ : ∃ m, may l = m := ⟨_, rfl⟩
  rw [hm] at HSUB ⊢
  clear hw2 hc2 hx hK hK2 hN hN2 HS HC hm
  go_enter Tryd.func19, Tryd.ntmps19
  go_wp2_with (go_at_call 20; refine HSUB.out.mono ?_; rintro e w1 ⟨v1, ps, rfl, hps, hown, hb1, hapt⟩; have HAPT := Lib.hid hapt; clear hapt; obtain ⟨A1, k1, rfl⟩ : ∃ A c, v1 = .slice A ps.length c := (own_slice hown); have HB1 := Lib.hid hb1; have hx1 := ((hb1.block (w.heap.size + 1) (by simp)).trans HC2.out); have f1 := Blk_frozen hx1 0; have c1 : w1.cell? ⟨w.heap.size + 1, 0, none⟩ = some (.slice none 0 0) := (Blk_cell hx1 0).trans rfl; have HX1 := Lib.hid hx1; have HO1 := Lib.hid hown; have HP1 := Lib.hid hps; clear hb1 hx1 hown hps)
  have hx := blk_put (j := 0) (v := .slice A1 ps.length k1) HX1.out
  refine bodyPost_ret (v := .tuple #[.agg #[.slice A1 ps.length k1], .int .i64 m]) (res16 _ _ (w.heap.size + 1) A1 ps.length k1 m rfl rfl ((Blk_cell hx 0).trans rfl)) rfl ⟨_, ps, rfl, HP1.out, ?_, ?_, HAPT.out⟩
  · have h := ownN_heap (W' := w1.setCell ⟨w.heap.size + 1, 0, none⟩ (.slice A1 ps.length k1)) HO1.out (fun g hg _ => set_far _ _ _ _ _ (by simp at hg; omega))
    exact ⟨row_mono h.1 (by simp; omega), fun x hx => row_mono (h.2 x hx) (by simp; omega)⟩
  · exact (HB2.out.trans (HB1.out.mono (by simp; omega))).setCell (p := ⟨w.heap.size + 1, 0, none⟩) (by show w.heap.size ≤ w.heap.size + 1; omega) _
end Go.Proofs.YteikpeaakmbihaaDoor.T
