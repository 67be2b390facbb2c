/- Joined by program: SAlpha, SWorks, LScopeA. -/
import Derived.Test.YteikpeaakmbihaaDoorG47
import Derived.Test.YteikpeaakmbihaaDoorG43
import Derived.Test.YteikpeaakmbihaaDoorG36
import Derived.Test.YteikpeaakmbihaaDoorG42
import Derived.Deep.RegionHeld3
/- Alpha, the program's. -/
namespace Go.Proofs.YteikpeaakmbihaaDoor.T
open Go.RowKit Go.Shelf
theorem dn_len (l : List Nd) : ∀ (i : Nat) (env : List Rch) (xs : List (Int × Int)), (dn l i env xs).length = xs.length := by
  intro i
  induction i using Nat.strongRecOn with
  | ind i ih =>
    intro env xs
    rw [dn]
    split
    · rfl
    · rename_i x _
      have h1 : (if x.kind = 4 then xs.set i (look env x.nm) else xs).length = xs.length := by split <;> simp
      rw [← h1]
      generalize (if x.kind = 4 then xs.set i (look env x.nm) else xs) = ys
      generalize (kids x).zipIdx = ps
      induction ps generalizing ys with
      | nil => rfl
      | cons q ps ihp =>
        rw [List.foldl_cons]
        split
        · rename_i h
          rw [ihp, ih _ h]
        · exact ihp ys
theorem bdp_len (l : List Nd) : (bdp l).length = l.length := by rw [bdp, dn_len]; simp
/-- What nameless answers: the tree, its binders. -/
noncomputable def nx (l : List Nd) : List Nd := if may l = 0 then bls (nrm l) (bdp (nrm l)) else []
noncomputable def bx (l : List Nd) : List (Int × Int) := if may l = 0 then bdp (nrm l) else []
noncomputable def alp (a b : List Nd) : Bool := (bx a == bx b) && tsm (nx a) (nx b)
def BW (W : World) (A : Option Addr) (X : List (Int × Int)) : Prop := X = [] ∨ ∃ g, A = some ⟨g, 0, none⟩ ∧ RowB W g X
section
variable {W W' : World} {A : Option Addr} {X : List (Int × Int)}
theorem BW.bv (h : BW W A X) : BV W A X := fun q p hp => by
  rcases h with rfl | ⟨g, h1, h2⟩
  · simp at hp
  · exact ⟨g, h1, (h2.cell hp).1, (h2.cell hp).2⟩
theorem BW.next (h : BW W A X) (hb : Below W.heap.size W W') : BW W' A X := by
  rcases h with h | ⟨g, h1, h2⟩
  · exact .inl h
  · exact .inr ⟨g, h1, h2.next hb⟩
theorem BW.set (h : BW W A X) {g j t : Nat} {u : Value} {cs : Array Value} (hg : W.heap[g]? = some (.cells cs t (0, 0))) (ht : t ≠ 59 ∧ t ≠ 60) : BW (W.setCell ⟨g, j, none⟩ u) A X := by
  rcases h with h | ⟨g', h1, h2⟩
  · exact .inl h
  · exact .inr ⟨g', h1, rowb_set h2 hg ht⟩
end
theorem own_nodes' {v : Value} {ps : List (Nd × Value)} {N : List Nd} {B : Nat} {W : World} (h : OwnN B W v ps) (e : ps.map Prod.fst = N) : Nodes W.heap.size W v N := by
  subst e; exact own_nodes h
def NamPost (l : List Nd) (w : World) (e : Ending) (w' : World) : Prop := ∃ A k A' k' ps, e = .returned (.tuple #[.agg #[.slice A (nx l).length k], .slice A' (bx l).length k']) ∧ ps.map Prod.fst = nx l ∧ OwnN w.heap.size w' (.slice A (nx l).length k) ps ∧ BW w' A' (bx l) ∧ Below w.heap.size w w'
theorem may_nil : may [] = 8 := may_full (by simp)
set_option maxRecDepth 100000 in
set_option maxHeartbeats 8000000 in
theorem namel_bad (l : List Nd) (v : Value) (m : Int) (hm : may l = m) (h0 : m ≠ 0) (w : World) (hK : Kws w.heap.size w) (hN : Nodes w.heap.size w v l) (hS : ∀ x ∈ l, Small x ∧ Clonable x) (hl : l.length ≤ 1000000) :
    Calls Tryd.prog 64 #[.agg #[v]] w (NamPost l w) := by
  have hn : nrm l = [] := by rw [nrm, if_neg (by rw [hm]; exact h0)]
  have e1 : nx l = [] := by rw [nx, if_neg (by rw [hm]; exact h0)]
  have e2 : bx l = [] := by rw [bx, if_neg (by rw [hm]; exact h0)]
  obtain ⟨A, c, rfl, h⟩ := hN
  have hN : Nodes w.heap.size w (.slice A l.length c) l := ⟨A, c, rfl, h⟩
  have hb0 := ((Below.refl w.heap.size w).alloc (Nat.le_refl _) (.cells #[.slice A l.length c] 24)).alloc (by simp) (.cells #[.slice none 0 0] 24)
  have HB0 := Lib.hid hb0
  have HE0 : Hid (((w.alloc (.cells #[.slice A l.length c] 24)).alloc (.cells #[.slice none 0 0] 24)).heap[w.heap.size]? = some (.cells #[.slice A l.length c] 24 (0, 0))) := Lib.hid (nextAt (newAt rfl))
  have HR0 : Hid (((w.alloc (.cells #[.slice A l.length c] 24)).alloc (.cells #[.slice none 0 0] 24)).heap[w.heap.size + 1]? = some (.cells #[.slice none 0 0] 24 (0, 0))) := Lib.hid (newAt (by simp))
  have HNO := Lib.hid (norm_any l (.slice A l.length c) _ (Kws_mono (hK.on hb0) hb0.size) ((hN.below hb0).mono hb0.size) (fun x hx => (hS x hx).1) (fun x hx => (hS x hx).2) hl)
  have HKW : Hid (∀ W, Below w.heap.size w W → Kws W.heap.size W) := Lib.hid fun W hb => Kws_mono (hK.on hb) hb.size
  rw [hm, hn] at HNO
  have HBI := Lib.hid fun (W : World) (v : Value) h1 h2 => bind_bad [] v 8 may_nil (by decide) W h1 h2 (by simp)
  have HE1 := Lib.hid e1
  have HE2 := Lib.hid e2
  clear hn e1 e2 hm hS hN h hb0 hK h0
  go_enter Tryd.func64, Tryd.ntmps64
  go_upto_region 2 with (go_at_call 19; refine HNO.out.mono ?_; rintro e w1 ⟨v1, ps, rfl, hps, hown, hb1⟩; obtain rfl : ps = [] := (by simpa using hps); obtain ⟨A1, k1, rfl⟩ := own_slice hown; have HB1 := Lib.hid (below_next HB0.out hb1 (Nat.le_refl _)); have HX1 := Lib.hid (blk_next HE0.out hb1); have HR1 := Lib.hid (blk_next HR0.out hb1); have c1 := (Blk_cell HX1.out 0).trans rfl; have f1 := Blk_frozen HX1.out 0; have HNL := Lib.hid (own_lowS (B := w.heap.size + 2) hown (by simp)); clear hb1 hown hps)
  have hB2 := HB1.out.setCell (p := ⟨w.heap.size, 0, none⟩) (Nat.le_refl _) (.slice A1 0 k1)
  have hX2 : (w1.setCell ⟨w.heap.size, 0, none⟩ (.slice A1 0 k1)).heap[w.heap.size]? = some (.cells #[.slice A1 0 k1] 24 (0, 0)) := blk_put (j := 0) HX1.out
  have hR2 := (set_far w1 w.heap.size 0 (w.heap.size + 1) (.slice A1 0 k1) (by omega)).trans HR1.out
  have hO2 : OwnN (w.heap.size + 2) (w1.setCell ⟨w.heap.size, 0, none⟩ (.slice A1 0 k1)) (.slice A1 0 k1) [] := ownN_heap HNL.out fun g hg _ => set_far _ _ _ _ _ (by omega)
  have hN2 := own_nodes hO2
  have HO2 := Lib.hid hO2
  have HB2 := Lib.hid hB2
  have HX2 := Lib.hid hX2
  have HR2 := Lib.hid hR2
  have HN2 := Lib.hid hN2
  have c2 := (Blk_cell hX2 0).trans rfl
  clear hB2 hX2 hR2 hN2 hO2 c1 f1
  go_wp2_with (go_at_call 30; refine (HBI.out _ _ (HKW.out _ HB2.out) HN2.out).mono ?_; rintro e w3 ⟨rfl, hb3⟩; have HB3 := Lib.hid (below_next HB2.out hb3 (Nat.le_refl _)); have HR3 := Lib.hid (blk_next HR2.out hb3); have HX3 := Lib.hid (blk_next HX2.out hb3); have HN3 := Lib.hid (ownN_grow HO2.out (grown_of hb3)); clear hb3)
  go_loopw [22] (fun s22 wr => s22 = .int .i64 0 ∧ wr = w3) (fun _ _ => 0)
  case atStart => exact ⟨rfl, rfl⟩
  case round =>
    obtain ⟨rfl, hw⟩ := hrel
    subst hw
    have c3 := (Blk_cell HX3.out 0).trans rfl
    have r3 := (Blk_cell HR3.out 0).trans rfl
    have r4 := Blk_frozen HR3.out 0
    have HRC := Lib.hid ((Blk_cell (blk_put (j := 0) (v := .slice A1 0 k1) HR3.out) 0).trans rfl)
    go_wp2
    refine bodyPost_ret (v := .tuple #[.agg #[.slice A1 0 k1], .slice none 0 0]) (by simp [results, Tryd.results64, go_sem, HRC.out]) rfl ?_
    refine ⟨A1, k1, none, 0, [], by rw [HE1.out, HE2.out]; rfl, by rw [HE1.out]; rfl, ?_, .inl HE2.out, HB3.out.setCell (p := ⟨w.heap.size + 1, 0, none⟩) (by show w.heap.size ≤ w.heap.size + 1; omega) _⟩
    rw [HE1.out]
    exact own_lowS (ownN_heap HN3.out fun g hg _ => set_far _ _ _ _ _ (by omega)) (by omega)
theorem namel_any (l : List Nd) (v : Value) (w : World) (hK : Kws w.heap.size w) (hN : Nodes w.heap.size w v l) (hS : ∀ x ∈ l, Small x ∧ Clonable x) (hl : l.length ≤ 1000000) :
    Calls Tryd.prog 64 #[.agg #[v]] w (NamPost l w) := by
  by_cases hm : may l = 0
  · refine (namel_ok l v hm w hK hN hS).mono ?_
    rintro e w' ⟨gn, kn, gl, cl, ps, rfl, hps, ho, hr, hb⟩
    have e1 : nx l = bls (nrm l) (bdp (nrm l)) := by rw [nx, if_pos hm]
    have e2 : bx l = bdp (nrm l) := by rw [bx, if_pos hm]
    have e3 : (bdp (nrm l)).length = (bls (nrm l) (bdp (nrm l))).length := by rw [bls_len (bdp_len _), bdp_len]
    refine ⟨_, kn, _, cl, ps, by rw [e1, e2, e3], by rw [e1]; exact hps, by rw [e1]; exact ho, ?_, hb⟩
    rw [e2]
    exact .inr ⟨gl, rfl, hr⟩
  · exact namel_bad l v _ rfl hm w hK hN hS hl
theorem bl_good {x : Nd} (p : Int × Int) (h : Small x ∧ Clonable x) : Small (bl x p) ∧ Clonable (bl x p) := by
  obtain ⟨⟨a1, a2, a3, a4⟩, b1, b2, b3, b4⟩ := h
  have hx : xnm.size = 1 := rfl
  unfold bl
  split
  · exact ⟨⟨by show xnm.size ≤ _; omega, a2, a3, a4⟩, by show xnm.size ≤ _; omega, b2, b3, b4⟩
  · split
    · refine ⟨⟨a1, a2, by simpa using a3, fun f hf => ?_⟩, b1, b2, by simpa using b3, fun f hf => ?_⟩
      · obtain ⟨g, hg, rfl⟩ := List.mem_map.1 hf
        exact ⟨(a4 g hg).1, by show xnm.size ≤ _; omega⟩
      · obtain ⟨g, hg, rfl⟩ := List.mem_map.1 hf
        exact ⟨(b4 g hg).1, by show xnm.size ≤ _; omega⟩
    · split
      · exact ⟨⟨by show xnm.size ≤ _; omega, a2, a3, a4⟩, by show xnm.size ≤ _; omega, b2, b3, b4⟩
      · exact ⟨⟨a1, a2, a3, a4⟩, b1, b2, b3, b4⟩
theorem nx_good {l : List Nd} (hS : ∀ x ∈ l, Small x ∧ Clonable x) : (nx l).length ≤ 1000000 ∧ (bx l).length ≤ 1000000 ∧ ∀ x ∈ nx l, Small x ∧ Clonable x := by
  by_cases hm : may l = 0
  · obtain ⟨m1, _⟩ := may_cp hm
    obtain ⟨n1, n6⟩ := may_big m1
    have hcp : nrm l = cp l (l.length - 1) [] := by rw [nrm, if_pos hm]
    rw [nx, if_pos hm, bx, if_pos hm]
    refine ⟨by rw [bls_len (bdp_len _)]; omega, by rw [bdp_len]; omega, fun y hy => ?_⟩
    obtain ⟨i, hi⟩ := List.getElem?_of_mem hy
    obtain ⟨x, p, hx, _, rfl⟩ := (bls_at (bdp_len _)).1 hi
    refine bl_good p ?_
    rw [hcp] at hx
    exact gd_cp_good hm hS (by have := may_big hm; omega) x (List.mem_of_getElem? hx)
  · rw [nx, if_neg hm, bx, if_neg hm]
    simp
set_option maxRecDepth 100000 in
set_option maxHeartbeats 8000000 in
theorem alpha_any (a b : List Nd) (va vb : Value) (w : World) (hK : Kws w.heap.size w) (hA : Nodes w.heap.size w va a) (hB : Nodes w.heap.size w vb b) (hSa : ∀ x ∈ a, Small x ∧ Clonable x) (hSb : ∀ x ∈ b, Small x ∧ Clonable x) (hla : a.length ≤ 1000000) (hlb : b.length ≤ 1000000) :
    Calls Tryd.prog 40 #[.agg #[va], .agg #[vb]] w fun e w' => e = .returned (.bool (alp a b)) ∧ Below w.heap.size w w' := by
  obtain ⟨ga1, ga2, ga3⟩ := nx_good hSa
  obtain ⟨gb1, gb2, gb3⟩ := nx_good hSb
  obtain ⟨A, ca, rfl, ha⟩ := hA
  have hA : Nodes w.heap.size w (.slice A a.length ca) a := ⟨A, ca, rfl, ha⟩
  obtain ⟨C, cb, rfl, hb⟩ := hB
  have hB : Nodes w.heap.size w (.slice C b.length cb) b := ⟨C, cb, rfl, hb⟩
  have HKW : Hid (∀ W, Below w.heap.size w W → Kws W.heap.size W) := Lib.hid fun W hb => Kws_mono (hK.on hb) hb.size
  have hb0 := ((Below.refl w.heap.size w).alloc (Nat.le_refl _) (.cells #[.slice A a.length ca] 24)).alloc (by simp) (.cells #[.slice C b.length cb] 24)
  have HB0 := Lib.hid hb0
  have X0 : Hid (((w.alloc (.cells #[.slice A a.length ca] 24)).alloc (.cells #[.slice C b.length cb] 24)).heap[w.heap.size]? = some (.cells #[.slice A a.length ca] 24 (0, 0))) := Lib.hid (nextAt (newAt rfl))
  have Y0 : Hid (((w.alloc (.cells #[.slice A a.length ca] 24)).alloc (.cells #[.slice C b.length cb] 24)).heap[w.heap.size + 1]? = some (.cells #[.slice C b.length cb] 24 (0, 0))) := Lib.hid (newAt (by simp))
  have HNA := Lib.hid (namel_any a (.slice A a.length ca) _ (HKW.out _ hb0) ((hA.below hb0).mono hb0.size) hSa hla)
  have HNB : Hid (∀ W, Below w.heap.size w W → Calls Tryd.prog 64 #[.agg #[.slice C b.length cb]] W (NamPost b W)) := Lib.hid fun W hbw => namel_any b _ W (HKW.out _ hbw) ((hB.below hbw).mono hbw.size) hSb hlb
  have HSE : Hid (∀ (W : World) (A A' : Option Addr) (c c' : Nat), BW W A (bx a) → BW W A' (bx b) → Calls Tryd.prog 65 #[.slice A (bx a).length c, .slice A' (bx b).length c'] W (BeqPost (bx a) (bx b) W)) := Lib.hid fun W A A' c c' h1 h2 => seq_any (bx a) (bx b) A A' _ _ c c' W ga2 gb2 (Lib.hid rfl) (Lib.hid rfl) (Lib.hid h1.bv) (Lib.hid h2.bv)
  have HSM : Hid (∀ (W : World) (v u : Value), Kws W.heap.size W → Nodes W.heap.size W v (nx a) → Nodes W.heap.size W u (nx b) → Calls Tryd.prog 22 #[.agg #[v], .agg #[u]] W fun e w' => e = .returned (.bool (tsm (nx a) (nx b))) ∧ Below W.heap.size W w') := Lib.hid fun W v u hk h1 h2 => tsame_any (nx a) (nx b) v u W hk h1 h2 (fun x hx => (ga3 x hx).1) (fun x hx => (ga3 x hx).2) ga1 (fun x hx => (gb3 x hx).1) (fun x hx => (gb3 x hx).2) gb1
  unfold NamPost at HNA HNB
  unfold BeqPost at HSE
  rw [alp]
  generalize tsm (nx a) (nx b) = T at HSM ⊢
  generalize (bx a == bx b) = E at HSE ⊢
  generalize bx a = BA at HNA HSE
  generalize bx b = BB at HNB HSE
  generalize nx a = NA at HNA HSM
  generalize nx b = NB at HNB HSM
  generalize a.length = la at *
  generalize b.length = lb at *
  clear hA hB ha hb hb0 hK hSa hSb
  go_enter Tryd.func40, Tryd.ntmps40
  go_upto_region 2 with (go_at_call 64; refine HNA.out.mono ?_; rintro e w1 ⟨A1, k1, A2, k2, ps, rfl, hps, hn, hv, hb1⟩; have HB1 := Lib.hid (below_next HB0.out hb1 (Nat.le_refl _)); have X1 := Lib.hid (blk_next X0.out hb1); have Y1 := Lib.hid (blk_next Y0.out hb1); have N1 : Hid (OwnN (w.heap.size + 2) w1 (.slice A1 NA.length k1) ps) := Lib.hid (own_lowS hn (by simp)); have V1 := Lib.hid hv; have P1 := Lib.hid hps; have c1 := (Blk_cell X1.out 0).trans rfl; have f1 := Blk_frozen X1.out 0; clear hb1 hn hv hps)
  have HB2 := Lib.hid (HB1.out.setCell (p := ⟨w.heap.size, 0, none⟩) (Nat.le_refl _) (.slice A1 NA.length k1))
  have X2 : Hid ((w1.setCell ⟨w.heap.size, 0, none⟩ (.slice A1 NA.length k1)).heap[w.heap.size]? = some (.cells #[.slice A1 NA.length k1] 24 (0, 0))) := Lib.hid (blk_put (j := 0) X1.out)
  have Y2 := Lib.hid ((set_far w1 w.heap.size 0 (w.heap.size + 1) (.slice A1 NA.length k1) (by omega)).trans Y1.out)
  have N2 : Hid (OwnN (w.heap.size + 2) (w1.setCell ⟨w.heap.size, 0, none⟩ (.slice A1 NA.length k1)) (.slice A1 NA.length k1) ps) := Lib.hid (ownN_heap N1.out fun g hg _ => set_far _ _ _ _ _ (by omega))
  have V2 := Lib.hid (V1.out.set (j := 0) (u := .slice A1 NA.length k1) X1.out (by decide))
  have y2 := (Blk_cell Y2.out 0).trans rfl
  clear c1 f1
  go_upto_region 3 with (go_at_call 64; refine (HNB.out _ HB2.out).mono ?_; rintro e w3 ⟨A3, k3, A4, k4, qs, rfl, hqs, hn, hv, hb3⟩; have HB3 := Lib.hid (below_next HB2.out hb3 (Nat.le_refl _)); have X3 := Lib.hid (blk_next X2.out hb3); have Y3 := Lib.hid (blk_next Y2.out hb3); have N3 := Lib.hid (ownN_grow N2.out (grown_of hb3)); have V3 := Lib.hid (V2.out.next hb3); have M3 : Hid (OwnN (w.heap.size + 2) w3 (.slice A3 NB.length k3) qs) := Lib.hid (own_lowS hn (by have := HB2.out.size; have h1 := (Array.getElem?_eq_some_iff.1 Y2.out).1; omega)); have U3 := Lib.hid hv; have Q3 := Lib.hid hqs; have y3 := (Blk_cell Y3.out 0).trans rfl; have g3 := Blk_frozen Y3.out 0; clear hb3 hn hv hqs)
  have HB4 := Lib.hid (HB3.out.setCell (p := ⟨w.heap.size + 1, 0, none⟩) (by show w.heap.size ≤ w.heap.size + 1; omega) (.slice A3 NB.length k3))
  have Y4 : Hid ((w3.setCell ⟨w.heap.size + 1, 0, none⟩ (.slice A3 NB.length k3)).heap[w.heap.size + 1]? = some (.cells #[.slice A3 NB.length k3] 24 (0, 0))) := Lib.hid (blk_put (j := 0) Y3.out)
  have X4 := Lib.hid ((set_far w3 (w.heap.size + 1) 0 w.heap.size (.slice A3 NB.length k3) (by omega)).trans X3.out)
  have N4 : Hid (Nodes (w3.setCell ⟨w.heap.size + 1, 0, none⟩ (.slice A3 NB.length k3)).heap.size (w3.setCell ⟨w.heap.size + 1, 0, none⟩ (.slice A3 NB.length k3)) (.slice A1 NA.length k1) NA) := Lib.hid (own_nodes' (ownN_heap N3.out fun g hg _ => set_far _ _ _ _ _ (by omega)) P1.out)
  have M4 : Hid (Nodes (w3.setCell ⟨w.heap.size + 1, 0, none⟩ (.slice A3 NB.length k3)).heap.size (w3.setCell ⟨w.heap.size + 1, 0, none⟩ (.slice A3 NB.length k3)) (.slice A3 NB.length k3) NB) := Lib.hid (own_nodes' (ownN_heap M3.out fun g hg _ => set_far _ _ _ _ _ (by omega)) Q3.out)
  have V4 := Lib.hid (V3.out.set (j := 0) (u := .slice A3 NB.length k3) Y3.out (by decide))
  have U4 := Lib.hid (U3.out.set (j := 0) (u := .slice A3 NB.length k3) Y3.out (by decide))
  clear y3 g3 y2
  cases E with
  | true =>
    go_wp2_with (first
      | (go_at_call 65; refine (HSE.out _ _ _ _ _ V4.out U4.out).mono ?_; rintro e w5 ⟨rfl, hb⟩; have HB5 := Lib.hid (below_next HB4.out hb (Nat.le_refl _)); have x5 := (Blk_cell (blk_next X4.out hb) 0).trans rfl; have y5 := (Blk_cell (blk_next Y4.out hb) 0).trans rfl; have N5 := Lib.hid ((N4.out.below hb).mono hb.size); have M5 := Lib.hid ((M4.out.below hb).mono hb.size); clear hb)
      | (go_at_call 22; refine (HSM.out _ _ _ (HKW.out _ HB5.out) N5.out M5.out).mono ?_; rintro e w6 ⟨rfl, hb⟩; have HB6 := Lib.hid (below_next HB5.out hb (Nat.le_refl _)); clear hb))
    go_ret
    exact ⟨by simp, HB6.out⟩
  | false =>
    go_wp2_with (go_at_call 65; refine (HSE.out _ _ _ _ _ V4.out U4.out).mono ?_; rintro e w5 ⟨rfl, hb⟩; have HB5 := Lib.hid (below_next HB4.out hb (Nat.le_refl _)); clear hb)
    go_ret
    exact ⟨by simp, HB5.out⟩
end Go.Proofs.YteikpeaakmbihaaDoor.T
/- The chapter's example, of layer 6. -/
namespace Go.Proofs.YteikpeaakmbihaaDoor.T
open Go.RowKit Go.Shelf
def exV : Nd := ⟨4, 0, 0, 0, 0, xnm, ByteArray.empty, [], 0⟩
def exF : Nd := ⟨5, 0, 0, 0, 0, xnm, ByteArray.empty, [], 0⟩
/-- fun x -> x. -/
def exN : List Nd := [exV, exF]
theorem ln_refl (l : List Nd) : ln l l = true := by
  have sn1 : ∀ x : Nd, sn x x = true := fun x => by
    have h : lf x.l x.l = true := by
      unfold lf
      rw [les_yes (fun j f g h1 h2 => by rw [h1] at h2; cases h2; simp [fe]) rfl]
      simp
    simp [sn, h]
  unfold ln
  rw [lns_yes (fun j x y h1 h2 => by rw [h1] at h2; cases h2; exact sn1 x) rfl]
  simp
theorem ex_own {w : World} {B g : Nat} (h : w.heap[g]? = some (.cells ((exN.flatMap fun x => (ndArr x (.slice none 0 0)).toList)).toArray 27)) (hg : B ≤ g) : OwnN B w (.slice (some ⟨g, 0, none⟩) 2 2) (exN.map fun x => (x, .slice none 0 0)) := by
  refine ⟨⟨rfl, .inr ⟨g, 2, _, rfl, hg, h, by decide, by decide, rfl, rfl⟩⟩, fun x hx => ?_⟩
  simp only [exN, List.map_cons, List.map_nil, List.mem_cons, List.not_mem_nil, or_false] at hx
  rcases hx with rfl | rfl <;> exact World.ownsRow_nil _ _ _ _
theorem ex_good : ∀ x ∈ exN, Small x ∧ Clonable x := by
  intro x hx
  simp only [exN, List.mem_cons, List.not_mem_nil, or_false] at hx
  rcases hx with rfl | rfl <;> exact ⟨⟨by decide, by decide, by decide, fun f hf => by cases hf⟩, by decide, by decide, by decide, fun f hf => by cases hf⟩
theorem ex_cases {i : Nat} {x : Nd} (h : exN[i]? = some x) : (i = 0 ∧ x = exV) ∨ (i = 1 ∧ x = exF) := by
  match i, h with
  | 0, h => exact .inl ⟨rfl, by simpa [exN] using h.symm⟩
  | 1, h => exact .inr ⟨rfl, by simpa [exN] using h.symm⟩
  | n + 2, h => simp [exN] at h
theorem ex_formed : formed exN := by
  refine ⟨?_, ?_, ⟨?_, ?_⟩, ?_⟩
  · intro x hx
    simp only [exN, List.mem_cons, List.not_mem_nil, or_false] at hx
    rcases hx with rfl | rfl <;> kernel_rfl
  · intro i x h
    rcases ex_cases h with ⟨rfl, rfl⟩ | ⟨rfl, rfl⟩ <;> (intro m hm; revert m; decide)
  · have : allKids exN = [0] := rfl
    rw [this]; decide
  · intro j hj
    have : allKids exN = [0] := rfl
    have hl : exN.length = 2 := rfl
    rw [this]
    rw [hl] at hj
    obtain rfl : j = 0 := by omega
    decide
  · intro i x h
    rcases ex_cases h with ⟨rfl, rfl⟩ | ⟨rfl, rfl⟩ <;> (intro hk; exact absurd hk (by decide))
theorem ex_root : root exN = 2 := rfl
theorem ex_may : may exN = 0 := by
  unfold may
  rw [if_neg (by decide), if_neg (not_not_intro ex_formed), if_neg (by rw [ex_root]; decide)]
theorem ex_bdp : bdp exN = [(1, -1), (-1, -1)] := by
  have h0 : exN[0]? = some exV := rfl
  have h1 : exN[1]? = some exF := rfl
  have k0 : kids exV = [] := rfl
  have k1 : kids exF = [0] := rfl
  have e0 : ∀ env xs, dn exN 0 env xs = xs.set 0 (look env xnm) := fun env xs => by
    rw [dn_eq h0 (by intro k hk; rw [k0] at hk; cases hk), k0]; rfl
  show dn exN 1 [] [(-1, -1), (-1, -1)] = _
  rw [dn_eq h1 (by intro k hk; rw [k1] at hk; simp at hk; omega), k1]
  show dn exN 0 (ofK exF 1 0 []) _ = _
  rw [e0]
  have hx : look (ofK exF 1 0 []) xnm = (1, -1) := by
    have : ofK exF 1 0 [] = [⟨xnm, 1, -1⟩] := by rw [ofK, if_pos (.inl rfl)]; rfl
    rw [this, look, if_pos (by simp)]
  rw [hx]
  rfl
theorem ex_fpl : fpl exN = [] := by
  rw [fpl, ex_bdp]; rfl
theorem ex_alp : alp exN exN = true := by
  obtain ⟨m1, _⟩ := may_cp ex_may
  have hm : may (nx exN) = 0 := by rw [nx, if_pos ex_may]; exact bls_may (bdp_len _) m1
  rw [alp, tsm, hm, ln_refl]
  simp
set_option maxRecDepth 100000 in
set_option maxHeartbeats 8000000 in
theorem sworks_any (w : World) (hK : Kws w.heap.size w) : Calls Tryd.prog 32 #[] w fun e w' => e = .returned (.bool true) ∧ Below w.heap.size w w' := by
  have hal := ((Below.refl w.heap.size w).alloc (Nat.le_refl _) (.cells #[.int .i64 4, .int .i64 0, .int .i64 0, .int .i64 0, .int .i64 0, .string ⟨#[120]⟩, .string ⟨#[]⟩, .slice none 0 0, .int .i64 0, .int .i64 5, .int .i64 0, .int .i64 0, .int .i64 0, .int .i64 0, .string ⟨#[120]⟩, .string ⟨#[]⟩, .slice none 0 0, .int .i64 0] 27)).alloc (by simp) (.cells #[.slice (some ⟨w.heap.size, 0, none⟩) 2 2] 24)
  obtain ⟨W, hW⟩ : ∃ W, (w.alloc (.cells #[.int .i64 4, .int .i64 0, .int .i64 0, .int .i64 0, .int .i64 0, .string ⟨#[120]⟩, .string ⟨#[]⟩, .slice none 0 0, .int .i64 0, .int .i64 5, .int .i64 0, .int .i64 0, .int .i64 0, .int .i64 0, .string ⟨#[120]⟩, .string ⟨#[]⟩, .slice none 0 0, .int .i64 0] 27)).alloc (.cells #[.slice (some ⟨w.heap.size, 0, none⟩) 2 2] 24) = W := ⟨_, rfl⟩
  rw [hW] at hal
  have HX : Hid (W.heap[w.heap.size + 1]? = some (.cells #[.slice (some ⟨w.heap.size, 0, none⟩) 2 2] 24 (0, 0))) := Lib.hid (by rw [← hW]; exact newAt (by simp))
  have HO : Hid (OwnN w.heap.size W (.slice (some ⟨w.heap.size, 0, none⟩) 2 2) (exN.map fun x => (x, .slice none 0 0))) := Lib.hid (ex_own (by rw [← hW]; exact nextAt (newAt rfl)) (Nat.le_refl _))
  have HN : Hid (∀ W', Below W.heap.size W W' → Nodes W'.heap.size W' (.slice (some ⟨w.heap.size, 0, none⟩) 2 2) exN) := Lib.hid fun W' hb => own_nodes (ownN_grow HO.out (grown_of hb))
  have HB0 := Lib.hid hal
  have HKW : Hid (∀ W, Below w.heap.size w W → Kws W.heap.size W) := Lib.hid fun W hb => Kws_mono (hK.on hb) hb.size
  have HBI : Hid (∀ W v, Kws W.heap.size W → Nodes W.heap.size W v exN → Calls Tryd.prog 30 #[.agg #[v]] W (BinPost exN W)) := Lib.hid fun W v h1 h2 => bind_ok exN v ex_may W h1 h2 (fun x hx => (ex_good x hx).1)
  have HCL : Hid (∀ W v, Kws W.heap.size W → Nodes W.heap.size W v exN → Calls Tryd.prog 36 #[.agg #[v]] W (CloPost (0, 0) W)) := Lib.hid fun W v h1 h2 => by
    have := closed_ok exN v ex_may W h1 h2 (fun x hx => (ex_good x hx).1)
    rwa [ex_fpl] at this
  have HAL : Hid (∀ W v, Kws W.heap.size W → Nodes W.heap.size W v exN → Calls Tryd.prog 40 #[.agg #[v], .agg #[v]] W fun e w' => e = .returned (.bool true) ∧ Below W.heap.size W w') := Lib.hid fun W v h1 h2 => by
    have := alpha_any exN exN v v W h1 h2 h2 ex_good ex_good (by decide) (by decide)
    rwa [ex_alp] at this
  have hWs := hal.size
  go_enter Tryd.func32, Tryd.ntmps32
  go_upto_region 2 with fail
  clear hW
  have x0 := (Blk_cell HX.out 0).trans rfl
  go_upto_region 4 with (first
    | (go_at_call 30; refine (HBI.out _ _ (HKW.out _ HB0.out) (HN.out _ (Below.refl _ _))).mono ?_; rintro e w1 ⟨gl, cl, rfl, hg, hlen, _, _, hb1⟩; have B1 := Lib.hid hb1; have HB1 := Lib.hid (below_next HB0.out hb1 (Nat.le_refl _)); have X1 := Lib.hid (blk_next HX.out hb1); have x1 := (Blk_cell X1.out 0).trans rfl; have R1 := Lib.hid (RowB.blk hg); clear hg hlen hb1)
    | (go_at_call 36; refine (HCL.out _ _ (HKW.out _ HB1.out) (HN.out _ B1.out)).mono ?_; rintro e w2 ⟨rfl, hb2⟩; have B2 := Lib.hid (B1.out.trans (hb2.mono B1.out.size)); have HB2 := Lib.hid (below_next HB1.out hb2 (Nat.le_refl _)); have X2 := Lib.hid (blk_next X1.out hb2); have x2 := (Blk_cell X2.out 0).trans rfl; have R2 := Lib.hid (R1.out.next hb2); clear hb2))
  obtain ⟨r1, r2⟩ := R2.out.cell (i := 0) (p := (1, -1)) (by rw [ex_bdp]; rfl)
  simp only [Nat.zero_mul, Nat.zero_add] at r1 r2
  go_wp2_with (go_at_call 40; refine (HAL.out _ _ (HKW.out _ HB2.out) (HN.out _ B2.out)).mono ?_; rintro e w3 ⟨rfl, hb3⟩; have HB3 := Lib.hid (below_next HB2.out hb3 (Nat.le_refl _)); clear hb3)
  go_ret
  exact ⟨rfl, HB3.out⟩
end Go.Proofs.YteikpeaakmbihaaDoor.T
/- The laws of layer 6: what stays through their walks. -/
namespace Go.Proofs.YteikpeaakmbihaaDoor.T
open Go.RowKit Go.Shelf
theorem int_cell {W : World} {B n c j : Nat} {A : Option Addr} {X : List Int} {s : Int} (h : W.ownsRow B 3 1 (.slice A n c) n (X.map (Value.int .i64))) (hj : X[j]? = some s) : ∃ g, A = some ⟨g, 0, none⟩ ∧ W.cell? ⟨g, j, none⟩ = some (.int .i64 s) := by
  rcases h.2 with ⟨h1, h0⟩ | ⟨g, cap, cur, h1, _⟩
  · exfalso
    have := h.1
    rw [List.length_map, h0] at this
    have := (List.getElem?_eq_some_iff.1 hj).1
    omega
  · cases h1
    refine ⟨g, rfl, ?_⟩
    have := World.ownsRow.cells h (g := g) rfl j (.int .i64 s) (by rw [List.getElem?_map, hj]; rfl)
    rwa [Addr.add_lit, Nat.zero_add] at this
set_option maxRecDepth 100000 in
set_option maxHeartbeats 4000000 in
theorem sints_any (X : List Int) (v u : Value) (B B' n : Nat) (w : World) (hn : n ≤ 1000000) (HL : Hid (X.length = n)) (HV : Hid (w.ownsRow B 3 1 v n (X.map (Value.int .i64)))) (HU : Hid (w.ownsRow B' 3 1 u n (X.map (Value.int .i64)))) :
    Calls Tryd.prog 15 #[v, u] w fun e w' => e = .returned (.bool true) ∧ Below w.heap.size w w' := by
  obtain ⟨A, c, rfl, _⟩ := row_slice HV.out
  obtain ⟨A', c', rfl, _⟩ := row_slice HU.out
  go_enter Tryd.func15, Tryd.ntmps15
  go_wp2
  go_loopw [5] (fun i wr => ∃ q : Nat, i = .int .i64 (q : Int) ∧ q ≤ n ∧ Hid (Below w.heap.size w wr)) (fun i _ => n - (intOf i).toNat)
  case atStart => exact ⟨0, rfl, Nat.zero_le _, Lib.hid (Below.refl _ _)⟩
  case round =>
    obtain ⟨q, rfl, hq, HB⟩ := hrel
    by_cases hlt : q < n
    · obtain ⟨s, hs⟩ : ∃ s, X[q]? = some s := ⟨_, List.getElem?_eq_getElem (by rw [HL.out]; exact hlt)⟩
      obtain ⟨g, rfl, h1⟩ := int_cell (World.ownsRow.kept HV.out (grown_of HB.out) (ne_none _)) hs
      obtain ⟨g', rfl, h2⟩ := int_cell (World.ownsRow.kept HU.out (grown_of HB.out) (ne_none _)) hs
      have e1 : (s != s) = false := by simp
      clear hs
      go_upto_region 6 with fail
      go_region_held3 (fun W => W.cell? ⟨g, q, none⟩ = some (.int .i64 s) ∧ W.cell? ⟨g', q, none⟩ = some (.int .i64 s)) (first | exact ⟨h1, h2⟩) (fail)
      all_goals
        go_wp2_with fail
        go_roundw
        case rel => exact ⟨q + 1, by go_num, by omega, Lib.hid HB.out.drew⟩
        case measure => simp [intOf]; omega
    · obtain rfl : q = n := by omega
      go_wp2
      go_ret
      exact ⟨rfl, HB.out⟩
/-- A tree of the call's own in its box. -/
def SSt (w W : World) (A : Option Addr) (k : Nat) (la : List Nd) : Prop :=
  (∃ ps : List (Nd × Value), ps.map Prod.fst = la ∧ OwnN (w.heap.size + 1) W (.slice A la.length k) ps) ∧ W.heap[w.heap.size]? = some (.cells #[.slice A la.length k] 24 (0, 0)) ∧ Below w.heap.size w W
section
variable {w W W' : World} {A : Option Addr} {k : Nat} {la : List Nd}
theorem SSt.size (h : SSt w W A k la) : w.heap.size + 1 ≤ W.heap.size := (Array.getElem?_eq_some_iff.1 h.2.1).1
theorem SSt.next (h : SSt w W A k la) (hb : Below W.heap.size W W') : SSt w W' A k la := by
  obtain ⟨⟨ps, h1, h2⟩, h3, h4⟩ := h
  exact ⟨⟨ps, h1, ownN_grow h2 (grown_of hb)⟩, blk_next h3 hb, below_next h4 hb (Nat.le_refl _)⟩
theorem SSt.c (h : SSt w W A k la) : W.cell? ⟨w.heap.size, 0, none⟩ = some (.slice A la.length k) := (Blk_cell h.2.1 0).trans rfl
theorem SSt.nodes (h : SSt w W A k la) : Nodes W.heap.size W (.slice A la.length k) la := by
  obtain ⟨⟨ps, h1, h2⟩, _⟩ := h
  exact own_nodes' h2 h1
theorem SSt.put {v2 : Value} {ps : List (Nd × Value)} {o : Value} (hb : Below w.heap.size w W) (h : OwnN (w.heap.size + 1) W (.slice A la.length k) ps) (he : ps.map Prod.fst = la) (hx : W.heap[w.heap.size]? = some (.cells #[o] 24 (0, 0))) (hv : v2 = .slice A la.length k) :
    SSt w (W.setCell ⟨w.heap.size, 0, none⟩ v2) A k la := by
  subst hv
  refine ⟨⟨ps, he, ownN_heap h fun g hg _ => set_far _ _ _ _ _ (by omega)⟩, blk_put (j := 0) hx, hb.setCell (p := ⟨w.heap.size, 0, none⟩) (Nat.le_refl _) _⟩
end
end Go.Proofs.YteikpeaakmbihaaDoor.T
