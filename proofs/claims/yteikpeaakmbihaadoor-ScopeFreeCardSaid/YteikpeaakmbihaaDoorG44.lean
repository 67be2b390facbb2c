/- Joined by program: SNamel, SBlank, SAlpha. -/
import Derived.Test.YteikpeaakmbihaaDoorG42
import Derived.Test.YteikpeaakmbihaaDoorG32
import Derived.Test.YteikpeaakmbihaaDoorG43
import Derived.Deep.RegionHeld3
/- nameless: its walk. -/
namespace Go.Proofs.YteikpeaakmbihaaDoor.T
open Go.RowKit Go.Shelf
def mixB (N : List Nd) (B : List (Int × Int)) (q : Nat) : List Nd := List.zipWith bl (N.take q) (B.take q) ++ N.drop q
def mixF (l : List Fld) (r : Nat) : List Fld := (l.take r).map fbl ++ l.drop r
theorem mixF_len (l : List Fld) (r : Nat) : (mixF l r).length = l.length := by simp [mixF]; omega
theorem mixF_at {l : List Fld} {r : Nat} {f : Fld} (h : l[r]? = some f) : (mixF l r)[r]? = some f := by
  have := lt_of_some h
  rw [mixF, List.getElem?_append_right (by simp; omega), List.getElem?_drop]
  simp [Nat.min_eq_left (Nat.le_of_lt this), h]
theorem mixF_set {l : List Fld} {r : Nat} {f : Fld} (h : l[r]? = some f) : (mixF l r).set r (fbl f) = mixF l (r + 1) := by
  have hr := lt_of_some h
  have hl : ((l.take r).map fbl).length = r := by simp; omega
  obtain ⟨_, hf⟩ := List.getElem?_eq_some_iff.1 h
  rw [mixF, mixF, take_snoc _ _ _ h, List.map_append, List.set_append_right _ _ (by omega), hl, Nat.sub_self, List.drop_eq_getElem_cons hr, List.set_cons_zero, List.append_assoc]
  rfl
theorem mixF_all (l : List Fld) : mixF l l.length = l.map fbl := by simp [mixF]
theorem mixB_at {N : List Nd} {B : List (Int × Int)} (hl : B.length = N.length) {q : Nat} {x : Nd} (h : N[q]? = some x) : (mixB N B q)[q]? = some x := by
  have := lt_of_some h
  have hz : (List.zipWith bl (N.take q) (B.take q)).length = q := by simp; omega
  rw [mixB, List.getElem?_append_right (by omega), hz, Nat.sub_self, List.getElem?_drop]
  simpa using h
theorem mixB_set {N : List Nd} {B : List (Int × Int)} (hl : B.length = N.length) {q : Nat} {x : Nd} {p : Int × Int} (h : N[q]? = some x) (hp : B[q]? = some p) : (mixB N B q).set q (bl x p) = mixB N B (q + 1) := by
  have hq := lt_of_some h
  have hz : (List.zipWith bl (N.take q) (B.take q)).length = q := by simp; omega
  obtain ⟨_, hf⟩ := List.getElem?_eq_some_iff.1 h
  rw [mixB, mixB, take_snoc _ _ _ h, take_snoc _ _ _ hp, List.zipWith_append (by simp; omega), List.set_append_right _ _ (by omega), hz, Nat.sub_self, List.drop_eq_getElem_cons hq, List.set_cons_zero, List.append_assoc]
  rfl
theorem NSt.vars' {w W : World} {gn kn gl i k gf cf FL : Nat} {ps : List (Nd × Value)} {B : List (Int × Int)} {x : Nd} {f : Fld} (h : NSt w W gn kn ps gl B) (hFL : x.l.length = FL) (hi : ps[i]? = some (x, .slice (some ⟨gf, 0, none⟩) FL cf)) (hk : x.l[k]? = some f) :
    NSt w (W.setCell ⟨gf, k * 3 + 1, none⟩ (.string xnm)) gn kn (ps.set i ({ x with l := x.l.set k (fbl f) }, .slice (some ⟨gf, 0, none⟩) FL cf)) gl B := by
  subst hFL; exact h.vars hi hk
theorem own_lowS {B B' : Nat} {W : World} {v : Value} {ps : List (Nd × Value)} (h : OwnN B' W v ps) (hB : B ≤ B') : OwnN B W v ps := ⟨row_mono h.1 hB, fun x hx => row_mono (h.2 x hx) hB⟩
theorem set_same {α : Type} {l : List α} {q : Nat} {x : α} (h : l[q]? = some x) : l.set q x = l := by
  refine List.ext_getElem? fun m => ?_
  by_cases hm : m = q
  · subst hm
    rw [List.getElem?_set_self (List.getElem?_eq_some_iff.1 h).1, h]
  · rw [List.getElem?_set_ne (by omega)]
theorem row_max {W : World} {B e s n : Nat} {v : Value} {xs : List Value} (h : W.ownsRow B e s v n xs) : n ≤ maxLen := by
  rcases h.2 with ⟨_, rfl⟩ | ⟨_, _, _, _, _, _, h1, h2, _⟩
  · exact Nat.zero_le _
  · exact Nat.le_trans h1 h2
theorem own_some {B L : Nat} {W : World} {v : Value} {ps : List (Nd × Value)} (h : OwnN B W v ps) (hp : ps.length = L) (h1 : 1 ≤ L) : ∃ gn kn, v = .slice (some ⟨gn, 0, none⟩) L kn := by
  rcases h.1.2 with ⟨_, h0⟩ | ⟨g, cap, cur, h, _⟩
  · omega
  · exact ⟨g, cap, by rw [h, hp]⟩
theorem nst_pre {w w1 : World} {gn kn L : Nat} {ps : List (Nd × Value)} {o : Value} (hb : Below w.heap.size w w1) (he : w1.heap[w.heap.size]? = some (.cells #[o] 24 (0, 0))) (hr : w1.heap[w.heap.size + 1]? = some (.cells #[.slice none 0 0] 24 (0, 0))) (ho : OwnN (w.heap.size + 2) w1 (.slice (some ⟨gn, 0, none⟩) L kn) ps) (hp : ps.length = L) :
    Below w.heap.size w (w1.setCell ⟨w.heap.size, 0, none⟩ (.slice (some ⟨gn, 0, none⟩) L kn)) ∧ (w1.setCell ⟨w.heap.size, 0, none⟩ (.slice (some ⟨gn, 0, none⟩) L kn)).heap[w.heap.size]? = some (.cells #[.slice (some ⟨gn, 0, none⟩) ps.length kn] 24 (0, 0)) ∧
    (w1.setCell ⟨w.heap.size, 0, none⟩ (.slice (some ⟨gn, 0, none⟩) L kn)).heap[w.heap.size + 1]? = some (.cells #[.slice none 0 0] 24 (0, 0)) ∧ OwnN (w.heap.size + 2) (w1.setCell ⟨w.heap.size, 0, none⟩ (.slice (some ⟨gn, 0, none⟩) L kn)) (.slice (some ⟨gn, 0, none⟩) ps.length kn) ps := by
  refine ⟨hb.setCell (p := ⟨w.heap.size, 0, none⟩) (Nat.le_refl _) _, by rw [hp]; exact blk_put (j := 0) he, (set_far _ _ _ _ _ (by omega)).trans hr, ?_⟩
  rw [hp]; exact ownN_heap ho fun g hg _ => set_far _ _ _ _ _ (by omega)
def NlPost (N : List Nd) (B : List (Int × Int)) (w : World) (e : Ending) (w' : World) : Prop :=
  ∃ gn kn gl cl ps, e = .returned (.tuple #[.agg #[.slice (some ⟨gn, 0, none⟩) N.length kn], .slice (some ⟨gl, 0, none⟩) N.length cl]) ∧ ps.map Prod.fst = N ∧ OwnN w.heap.size w' (.slice (some ⟨gn, 0, none⟩) N.length kn) ps ∧ RowB w' gl B ∧ Below w.heap.size w w'
set_option maxRecDepth 100000 in
set_option maxHeartbeats 16000000 in
theorem namel_ok (l : List Nd) (v : Value) (hm : may l = 0) (w : World) (hK : Kws w.heap.size w) (hN : Nodes w.heap.size w v l) (hS : ∀ x ∈ l, Small x ∧ Clonable x) :
    Calls Tryd.prog 64 #[.agg #[v]] w (NlPost (bls (nrm l) (bdp (nrm l))) (bdp (nrm l)) w) := by
  obtain ⟨h1, h6⟩ := may_big hm
  obtain ⟨m1, m2⟩ := may_cp hm
  have hcp : nrm l = cp l (l.length - 1) [] := by rw [nrm, if_pos hm]
  have hg : ∀ x ∈ nrm l, Small x := by rw [hcp]; exact fun x hx => (gd_cp_good hm hS (by omega) x hx).1
  obtain ⟨n1, n6⟩ := may_big m1
  obtain ⟨A, c, rfl, h⟩ := hN
  have hN : Nodes w.heap.size w (.slice A l.length c) l := ⟨A, c, rfl, h⟩
  have hb0 := ((Below.refl w.heap.size w).alloc (Nat.le_refl _) (.cells #[.slice A l.length c] 24)).alloc (by simp) (.cells #[.slice none 0 0] 24)
  have HB0 := Lib.hid hb0
  have HE0 : Hid (((w.alloc (.cells #[.slice A l.length c] 24)).alloc (.cells #[.slice none 0 0] 24)).heap[w.heap.size]? = some (.cells #[.slice A l.length c] 24 (0, 0))) := Lib.hid (nextAt (newAt rfl))
  have HR0 : Hid (((w.alloc (.cells #[.slice A l.length c] 24)).alloc (.cells #[.slice none 0 0] 24)).heap[w.heap.size + 1]? = some (.cells #[.slice none 0 0] 24 (0, 0))) := Lib.hid (newAt (by simp))
  have HNO := Lib.hid (norm_any2 l (.slice A l.length c) _ (Kws_mono (hK.on hb0) hb0.size) ((hN.below hb0).mono hb0.size) (fun x hx => (hS x hx).1) (fun x hx => (hS x hx).2) (by omega))
  have HKW : Hid (∀ W, Below w.heap.size w W → Kws W.heap.size W) := Lib.hid fun W hb => Kws_mono (hK.on hb) hb.size
  rw [hm] at HNO
  obtain ⟨N, hNN⟩ : ∃ N, nrm l = N := ⟨_, rfl⟩
  rw [hNN] at HNO m1 hg n1 n6 ⊢
  have HBI := Lib.hid fun (W : World) (v : Value) h1 h2 => bind_ok N v m1 W h1 h2 hg
  obtain ⟨B, hB⟩ : ∃ B, bdp N = B := ⟨_, rfl⟩
  unfold BinPost at HBI
  rw [hB] at HBI ⊢
  obtain ⟨L, hL⟩ : ∃ L, N.length = L := ⟨_, rfl⟩
  have HL := Lib.hid hL
  rw [hL] at HBI n1 n6
  clear hNN hcp hg hm m1 m2 hS hN h hb0 hB hL hK
  go_enter Tryd.func64, Tryd.ntmps64
  go_upto_region 2 with (go_at_call 19; refine HNO.out.mono ?_; rintro e w1 ⟨v1, ps, rfl, hps, hown, hb1, hapt⟩; have hpl : ps.length = L := (by rw [← HL.out, ← hps, List.length_map]); obtain ⟨gn, kn, rfl⟩ := own_some hown hpl n1; have HB1 := Lib.hid (below_next HB0.out hb1 (Nat.le_refl _)); have HE1 := Lib.hid (blk_next HE0.out hb1); have HR1 := Lib.hid (blk_next HR0.out hb1); have HO1 := Lib.hid hown; have HPS := Lib.hid hps; have HPL := Lib.hid hpl; have HAP := Lib.hid hapt; have c1 := (Blk_cell HE1.out 0).trans rfl; have f1 := Blk_frozen HE1.out 0; clear hb1 hown hps hpl hapt)
  obtain ⟨q1, q2, q3, q4⟩ := nst_pre (L := L) HB1.out HE1.out HR1.out (own_lowS HO1.out (by simp)) HPL.out
  have hnd := own_nodes q4
  rw [HPS.out] at hnd
  have HND : Hid (Nodes (w1.setCell ⟨w.heap.size, 0, none⟩ (.slice (some ⟨gn, 0, none⟩) L kn)).heap.size (w1.setCell ⟨w.heap.size, 0, none⟩ (.slice (some ⟨gn, 0, none⟩) L kn)) (.slice (some ⟨gn, 0, none⟩) L kn) N) := Lib.hid (by rwa [HPL.out] at hnd)
  have Q1 := Lib.hid q1
  have Q2 := Lib.hid q2
  have Q3 := Lib.hid q3
  have Q4 := Lib.hid q4
  have z1 := (Blk_cell q2 0).trans rfl
  rw [HPL.out] at z1
  clear q1 q2 q3 q4 hnd c1 f1
  go_wp2_with (go_at_call 30; refine (HBI.out _ _ (HKW.out _ Q1.out) HND.out).mono ?_; rintro e w3 ⟨gl, cl, rfl, hg, hlen, _, _, hb3⟩; have HBL := Lib.hid (hlen.trans HL.out.symm); have S3 : Hid (NSt w w3 gn kn ps gl B) := Lib.hid ⟨below_next Q1.out hb3 (Nat.le_refl _), blk_next Q2.out hb3, blk_next Q3.out hb3, ownN_grow Q4.out (grown_of hb3), RowB.blk hg, HAP.out⟩; clear hg hlen hb3)
  have HM0 : Hid (mixB N B 0 = N) := Lib.hid (by simp [mixB])
  go_loopw [22] (fun s22 wr => ∃ (q : Nat) (ps : List (Nd × Value)), s22 = .int .i64 (q : Int) ∧ q ≤ L ∧ Hid (NSt w wr gn kn ps gl B) ∧ Hid (ps.map Prod.fst = mixB N B q) ∧ Hid (ps.length = L)) (fun s22 _ => L - (intOf s22).toNat)
  case atStart => exact ⟨0, ps, rfl, Nat.zero_le _, S3, Lib.hid (by rw [HM0.out, HPS.out]), HPL⟩
  case round =>
    clear S3 HPS HPL HAP Q1 Q2 Q3 Q4 HND HO1 HE1 HR1 HB1 HBI HNO HM0 z1
    obtain ⟨q, ps, rfl, hq, HV, HPS, HPL⟩ := hrel
    obtain ⟨w2, rfl⟩ : ∃ w2, w2 = wr := ⟨_, rfl⟩
    by_cases hlt : q < L
    · obtain ⟨⟨P1, P2⟩, hp⟩ : ∃ p, B[q]? = some p := ⟨_, List.getElem?_eq_getElem (by rw [HBL.out, HL.out]; exact hlt)⟩
      obtain ⟨x, hx⟩ : ∃ x, N[q]? = some x := ⟨_, List.getElem?_eq_getElem (by rw [HL.out]; exact hlt)⟩
      obtain ⟨⟨x', fv⟩, hpx⟩ : ∃ p, ps[q]? = some p := ⟨_, List.getElem?_eq_getElem (by rw [HPL.out]; exact hlt)⟩
      obtain rfl : x' = x := by
        have h1 := mixB_at HBL.out hx
        rw [← HPS.out, List.getElem?_map, hpx] at h1
        simpa using h1
      obtain ⟨z1, z2⟩ := HV.out.b.cell hp
      have HMS := Lib.hid (mixB_set HBL.out hx hp)
      have hal := (Below.refl w2.heap.size w2).alloc (Nat.le_refl _) (.cells #[.int .i64 P1, .int .i64 P2] 59)
      have V4 := Lib.hid (HV.out.next hal)
      have B4 : Hid ((w2.alloc (.cells #[.int .i64 P1, .int .i64 P2] 59)).heap[w2.heap.size]? = some (.cells #[.int .i64 P1, .int .i64 P2] 59 (0, 0))) := Lib.hid (newAt rfl)
      have e4 := V4.out.ce
      rw [HPL.out] at e4
      obtain ⟨K, hK⟩ : ∃ K, x'.kind = K := ⟨_, rfl⟩
      have k4 : (w2.alloc (.cells #[.int .i64 P1, .int .i64 P2] 59)).cell? ⟨gn, q * 9, none⟩ = some (.int .i64 K) := by rw [← hK]; exact V4.out.cell hpx 0 (by omega)
      have k45 : (w2.alloc (.cells #[.int .i64 P1, .int .i64 P2] 59)).cell? ⟨gn, q * 9 + 5, none⟩ = some (.string x'.nm) := V4.out.cell hpx 5 (by omega)
      have f45 := V4.out.froz (q * 9 + 5)
      have HX := Lib.hid hpx
      have HKX := Lib.hid hK
      have HSN : Hid (∀ y fv', ps[q]? = some (x', fv') → ((ps.set q (y, fv')).map Prod.fst = (mixB N B q).set q y ∧ (ps.set q (y, fv')).length = L)) := Lib.hid fun y fv' _ => ⟨by rw [List.map_set, HPS.out], by rw [List.length_set, HPL.out]⟩
      clear hp hx hpx hal hK
      by_cases h5 : K = 5 ∨ K = 7 ∨ K = 8
      · have HBX : Hid (bl x' (P1, P2) = { x' with nm := xnm }) := Lib.hid (by rw [bl, if_pos (by rw [HKX.out]; exact h5)])
        have V5 := Lib.hid (V4.out.name HX.out)
        obtain ⟨a1, a2⟩ := HSN.out { x' with nm := xnm } fv HX.out
        rw [← HBX.out, HMS.out] at a1
        rw [← HBX.out] at a2 V5
        have A1 := Lib.hid a1
        have A2 := Lib.hid a2
        unfold xnm at V5
        clear a1 a2 V4
        rcases h5 with rfl | rfl | rfl
        all_goals
          go_wp2
          go_roundw
          case rel => exact ⟨q + 1, _, by go_num, by omega, V5, A1, A2⟩
          case measure => simp [intOf]; omega
      · have hk5 : (K == 5) = false := by simpa using (by omega : ¬ K = 5)
        have hk7 : (K == 7) = false := by simpa using (by omega : ¬ K = 7)
        have hk8 : (K == 8) = false := by simpa using (by omega : ¬ K = 8)
        by_cases h14 : K = 14
        · subst h14
          have HBX : Hid (bl x' (P1, P2) = { x' with l := x'.l.map fbl }) := Lib.hid (by rw [bl, if_neg (by rw [HKX.out]; omega), if_pos HKX.out])
          obtain ⟨FL, hFL⟩ : ∃ FL, x'.l.length = FL := ⟨_, rfl⟩
          have hof0 : World.ownsRow w2 (w.heap.size + 2) 75 3 fv x'.l.length (fCells x'.l) := HV.out.o.2 _ (List.mem_of_getElem? HX.out)
          have hmx := row_max hof0
          obtain ⟨FA, fc, hfv, _⟩ := row_slice hof0
          subst hfv
          clear hof0
          rw [hFL] at HX
          have HFL := Lib.hid hFL
          have hFLb : FL ≤ 9223372036854775807 := by rw [hFL] at hmx; unfold maxLen at hmx; omega
          clear hmx
          have k47 : (w2.alloc (.cells #[.int .i64 P1, .int .i64 P2] 59)).cell? ⟨gn, q * 9 + 7, none⟩ = some (.slice FA FL fc) := V4.out.cell HX.out 7 (by omega)
          have HS0 : Hid (ps.set q ({ x' with l := mixF x'.l 0 }, .slice FA FL fc) = ps) := Lib.hid (by
            have e : ({ x' with l := mixF x'.l 0 } : Nd) = x' := by simp [mixF]
            rw [e]; exact set_same HX.out)
          clear hFL
          go_wp2_with fail
          go_loopw [49] (fun s49 wr => ∃ r : Nat, s49 = .int .i64 (r : Int) ∧ r ≤ FL ∧ Hid (NSt w wr gn kn (ps.set q ({ x' with l := mixF x'.l r }, .slice FA FL fc)) gl B)) (fun s49 _ => FL - (intOf s49).toNat)
          case atStart => exact ⟨0, rfl, Nat.zero_le _, by rw [HS0.out]; exact V4⟩
          case round =>
            obtain ⟨r, rfl, hr, HW⟩ := hrel
            clear V4 k4 k45 f45 e4 z1 z2 k47 HS0
            have HXq : Hid ((ps.set q ({ x' with l := mixF x'.l r }, Value.slice FA FL fc))[q]? = some ({ x' with l := mixF x'.l r }, .slice FA FL fc)) := Lib.hid (List.getElem?_set_self (by rw [HPL.out]; exact hlt))
            by_cases hrl : r < FL
            · obtain ⟨f, hf⟩ : ∃ f, x'.l[r]? = some f := ⟨_, List.getElem?_eq_getElem (by rw [HFL.out]; exact hrl)⟩
              have hof : World.ownsRow wr (w.heap.size + 2) 75 3 (.slice FA FL fc) (mixF x'.l r).length (fCells (mixF x'.l r)) := HW.out.o.2 _ (List.mem_of_getElem? HXq.out)
              rw [mixF_len, HFL.out] at hof
              obtain ⟨gf, rfl⟩ : ∃ gf, FA = some ⟨gf, 0, none⟩ := by
                rcases hof.2 with ⟨_, h0⟩ | ⟨g, cap, cur, h, _⟩
                · omega
                · cases h; exact ⟨g, rfl⟩
              have y1 : wr.cell? ⟨gf, r * 3 + 1, none⟩ = some (.string f.vr) := by
                have := World.ownsRow.cells hof (g := gf) rfl (r * 3 + 1) (.string f.vr) (fCells_at _ r f (mixF_at hf)).2.1
                rwa [Addr.add_lit, Nat.zero_add] at this
              have y2 := World.ownsRow.frozenAt hof (r * 3 + 1)
              have y3 : wr.cell? ⟨gn, q * 9 + 7, none⟩ = some (.slice (some ⟨gf, 0, none⟩) FL fc) := HW.out.cell HXq.out 7 (by omega)
              have hset := HW.out.vars' (x := { x' with l := mixF x'.l r }) (by show (mixF x'.l r).length = FL; rw [mixF_len]; exact HFL.out) HXq.out (mixF_at hf)
              simp only [List.set_set] at hset
              rw [mixF_set hf] at hset
              unfold xnm at hset
              have HW2 := Lib.hid hset
              clear hf hof hset
              go_wp2_with fail
              go_roundw
              case rel => exact ⟨r + 1, by go_num, by omega, HW2⟩
              case measure => simp [intOf]; omega
            · obtain rfl : r = FL := by omega
              have hx2 : ({ x' with l := mixF x'.l r } : Nd) = bl x' (P1, P2) := by rw [HBX.out, ← HFL.out, mixF_all]
              rw [hx2] at HW
              have a1 : Hid ((ps.set q (bl x' (P1, P2), Value.slice FA r fc)).map Prod.fst = mixB N B (q + 1)) := Lib.hid (by rw [(HSN.out _ _ HX.out).1, HMS.out])
              have a2 : Hid ((ps.set q (bl x' (P1, P2), Value.slice FA r fc)).length = L) := Lib.hid (HSN.out _ _ HX.out).2
              clear hx2
              go_wp2_with fail
              go_roundw
              case rel => exact ⟨q + 1, _, by go_num, by omega, HW, a1, a2⟩
              case measure => simp [intOf]; omega
        · have hk14 : (K == 14) = false := by simpa using h14
          have HSAME : Hid (bl x' (P1, P2) = x' → ps.map Prod.fst = mixB N B (q + 1)) := Lib.hid fun e => by
            rw [e] at HMS
            rw [HPS.out, ← HMS.out, set_same]
            rw [← HPS.out, List.getElem?_map, HX.out]; rfl
          by_cases h4 : K = 4
          · subst h4
            have HV5 := Lib.hid (V4.out.next (Below.refl _ _).drew)
            have B5 : Hid ((w2.alloc (.cells #[.int .i64 P1, .int .i64 P2] 59)).drew.heap[w2.heap.size]? = some (.cells #[.int .i64 P1, .int .i64 P2] 59 (0, 0))) := B4
            have HNM : Hid ((P1, P2) ≠ ((-1, -1) : Int × Int) → bl x' (P1, P2) = { x' with nm := xnm }) := Lib.hid fun h => by rw [bl, if_neg (by rw [HKX.out]; omega), if_neg (by rw [HKX.out]; omega), if_pos ⟨HKX.out, h⟩]
            go_upto_region 19 with fail
            clear k4 k45 f45 e4
            cases t1 : (P1 == -1) with
            | true =>
              obtain rfl : P1 = -1 := by simpa using t1
              cases t2 : (P2 == -1) with
              | true =>
                obtain rfl : P2 = -1 := by simpa using t2
                have A1 := Lib.hid (HSAME.out (by rw [bl, if_neg (by rw [HKX.out]; omega), if_neg (by rw [HKX.out]; omega), if_neg (fun h => h.2 rfl)]))
                go_region_held3 (fun W => W.cell? ⟨w2.heap.size, 0, none⟩ = some (.int .i64 (-1)) ∧ W.cell? ⟨w2.heap.size, 1, none⟩ = some (.int .i64 (-1))) (first | exact ⟨(Blk_cell B5.out 0).trans rfl, (Blk_cell B5.out 1).trans rfl⟩ | exact ⟨(Blk_cell B6.out 0).trans rfl, (Blk_cell B6.out 1).trans rfl⟩)
                  ((go_at_call 55; refine (none_any _).mono ?_; rintro e w4 ⟨rfl, hb⟩; have HV6 := Lib.hid (HV5.out.next hb); have B6 := Lib.hid (blk_next B5.out hb); clear hb))
                all_goals
                  go_wp2_with fail
                  go_roundw
                  case rel => exact ⟨q + 1, _, by go_num, by omega, HV6, A1, HPL⟩
                  case measure => simp [intOf]; omega
              | false =>
                have HBX := HNM.out (fun h => by have := congrArg Prod.snd h; simp at this; subst this; simp at t2)
                obtain ⟨a1, a2⟩ := HSN.out { x' with nm := xnm } fv HX.out
                rw [← HBX, HMS.out] at a1
                rw [← HBX] at a2
                have A1 := Lib.hid a1
                have A2 := Lib.hid a2
                have HBX2 := Lib.hid HBX
                clear a1 a2 HBX
                go_region_held3 (fun W => W.cell? ⟨w2.heap.size, 0, none⟩ = some (.int .i64 (-1)) ∧ W.cell? ⟨w2.heap.size, 1, none⟩ = some (.int .i64 P2)) (first | exact ⟨(Blk_cell B5.out 0).trans rfl, (Blk_cell B5.out 1).trans rfl⟩ | exact ⟨(Blk_cell B6.out 0).trans rfl, (Blk_cell B6.out 1).trans rfl⟩)
                  ((go_at_call 55; refine (none_any _).mono ?_; rintro e w4 ⟨rfl, hb⟩; have HV6 := Lib.hid (HV5.out.next hb); have B6 := Lib.hid (blk_next B5.out hb); have k6 : w4.cell? ⟨gn, q * 9 + 5, none⟩ = some (.string x'.nm) := HV6.out.cell HX.out 5 (by omega); have f6 := HV6.out.froz (q * 9 + 5); have hv7 := HV6.out.name HX.out; rw [← HBX2.out] at hv7; unfold xnm at hv7; have HV7 := Lib.hid hv7; clear hb hv7))
                all_goals
                  go_wp2_with fail
                  go_roundw
                  case rel => exact ⟨q + 1, _, by go_num, by omega, HV7, A1, A2⟩
                  case measure => simp [intOf]; omega
            | false =>
              have HBX := HNM.out (fun h => by have := congrArg Prod.fst h; simp at this; subst this; simp at t1)
              obtain ⟨a1, a2⟩ := HSN.out { x' with nm := xnm } fv HX.out
              rw [← HBX, HMS.out] at a1
              rw [← HBX] at a2
              have A1 := Lib.hid a1
              have A2 := Lib.hid a2
              have HBX2 := Lib.hid HBX
              clear a1 a2 HBX
              go_region_held3 (fun W => W.cell? ⟨w2.heap.size, 0, none⟩ = some (.int .i64 P1) ∧ W.cell? ⟨w2.heap.size, 1, none⟩ = some (.int .i64 P2)) (first | exact ⟨(Blk_cell B5.out 0).trans rfl, (Blk_cell B5.out 1).trans rfl⟩ | exact ⟨(Blk_cell B6.out 0).trans rfl, (Blk_cell B6.out 1).trans rfl⟩)
                ((go_at_call 55; refine (none_any _).mono ?_; rintro e w4 ⟨rfl, hb⟩; have HV6 := Lib.hid (HV5.out.next hb); have B6 := Lib.hid (blk_next B5.out hb); have k6 : w4.cell? ⟨gn, q * 9 + 5, none⟩ = some (.string x'.nm) := HV6.out.cell HX.out 5 (by omega); have f6 := HV6.out.froz (q * 9 + 5); have hv7 := HV6.out.name HX.out; rw [← HBX2.out] at hv7; unfold xnm at hv7; have HV7 := Lib.hid hv7; clear hb hv7))
              all_goals
                go_wp2_with fail
                go_roundw
                case rel => exact ⟨q + 1, _, by go_num, by omega, HV7, A1, A2⟩
                case measure => simp [intOf]; omega
          · have hk4 : (K == 4) = false := by simpa using h4
            have A1 := Lib.hid (HSAME.out (by rw [bl, if_neg (by rw [HKX.out]; exact h5), if_neg (by rw [HKX.out]; exact h14), if_neg (by rw [HKX.out]; exact fun h => h4 h.1)]))
            clear h4 h14 h5
            go_wp2
            go_roundw
            case rel => exact ⟨q + 1, _, by go_num, by omega, V4, A1, HPL⟩
            case measure => simp [intOf]; omega
    · obtain rfl : q = L := by omega
      have e4 := HV.out.ce
      rw [HPL.out] at e4
      have r4 := (Blk_cell HV.out.r 0).trans rfl
      have r5 := Blk_frozen HV.out.r 0
      have hgn := HV.out.gnl
      have hx := blk_put (j := 0) (v := .slice (some ⟨gn, 0, none⟩) q kn) HV.out.r
      have rc : (w2.setCell ⟨w.heap.size + 1, 0, none⟩ (.slice (some ⟨gn, 0, none⟩) q kn)).cell? ⟨w.heap.size + 1, 0, none⟩ = some (.slice (some ⟨gn, 0, none⟩) q kn) := (Blk_cell hx 0).trans rfl
      have HRC := Lib.hid rc
      clear hx rc
      have HMA : Hid (mixB N B q = bls N B) := Lib.hid (by rw [mixB, bls, List.take_of_length_le (by rw [HL.out]; exact Nat.le_refl _), List.take_of_length_le (by rw [HBL.out, HL.out]; exact Nat.le_refl _), List.drop_of_length_le (by rw [HL.out]; exact Nat.le_refl _), List.append_nil])
      have hbl : (bls N B).length = q := by rw [← HMA.out, ← HPS.out, List.length_map, HPL.out]
      have HBLL := Lib.hid hbl
      clear hbl
      go_wp2
      refine bodyPost_ret (v := .tuple #[.agg #[.slice (some ⟨gn, 0, none⟩) q kn], .slice (some ⟨gl, 0, none⟩) q cl]) (by simp [results, Tryd.results64, go_sem, HRC.out]) rfl ?_
      refine ⟨gn, kn, gl, cl, ps, by rw [HBLL.out], by rw [HPS.out, HMA.out], ?_, ?_, ?_⟩
      · rw [HBLL.out]
        have := HV.out.o
        rw [HPL.out] at this
        exact own_lowS (ownN_heap this fun g hg _ => set_far _ _ _ _ _ (by omega)) (by omega)
      · exact rowb_set HV.out.b HV.out.r (by decide)
      · exact HV.out.low.setCell (p := ⟨w.heap.size + 1, 0, none⟩) (by show w.heap.size ≤ w.heap.size + 1; omega) _
end Go.Proofs.YteikpeaakmbihaaDoor.T
/- A tree without its binders' names may be, too. -/
namespace Go.Proofs.YteikpeaakmbihaaDoor.T
theorem nameB_x : M.nameB xnm = true := by kernel_rfl
theorem bl_kind (x : Nd) (p : Int × Int) : (bl x p).kind = x.kind := by unfold bl; split <;> (try split) <;> (try split) <;> rfl
theorem bl_abc (x : Nd) (p : Int × Int) : (bl x p).a = x.a ∧ (bl x p).b = x.b ∧ (bl x p).c = x.c := by unfold bl; split <;> (try split) <;> (try split) <;> exact ⟨rfl, rfl, rfl⟩
theorem bl_pl (x : Nd) (p : Int × Int) : (bl x p).l.map Fld.pl = x.l.map Fld.pl := by
  unfold bl; split <;> (try split) <;> (try split) <;> simp [fbl, Function.comp_def]
theorem bl_kids (x : Nd) (p : Int × Int) : kids (bl x p) = kids x := by
  obtain ⟨h1, h2, h3⟩ := bl_abc x p
  unfold kids kids0 many
  rw [bl_kind, h1, h2, h3, bl_pl]
theorem rB_lab {x : Nd} (h : rightB x = true) : True ∧ (x.kind = 11 ∨ x.kind = 14 → labB x.kind x.l = true) := by
  refine ⟨trivial, fun hk => ?_⟩
  unfold rightB rB at h
  simp only [Bool.and_eq_true, Bool.or_eq_true, decide_eq_true_eq] at h
  rcases h.2 with h | h
  · omega
  · exact h
theorem rB_lab1 {k a b c n pos : Int} {nE nB tB sE lab : Bool} {sL L : Nat} (h : rB k a b c n pos nE nB tB sE sL L lab = true) : rB k a b c n pos nE nB tB sE sL L true = true := by
  unfold rB at h ⊢
  simp only [Bool.and_eq_true] at h ⊢
  exact ⟨h.1, by simp⟩
theorem rB_named {k a b c n pos : Int} {nE nB tB sE : Bool} {sL L : Nat} {lab : Bool} (h : rB k a b c n pos nE nB tB sE sL L lab = true) (hk : k = 5 ∨ k = 7 ∨ k = 8 ∨ k = 4) (nE' tB' : Bool) : rB k a b c n pos nE' true tB' sE sL L lab = true := by
  unfold rB at h ⊢
  rcases hk with rfl | rfl | rfl | rfl <;> (simp [named, one, two] at h ⊢; simp [h])
theorem right_bl {x : Nd} (p : Int × Int) (h : rightB x = true) : rightB (bl x p) = true := by
  by_cases h5 : x.kind = 5 ∨ x.kind = 7 ∨ x.kind = 8
  · have e : bl x p = { x with nm := xnm } := by rw [bl, if_pos h5]
    rw [e]
    have := rB_named h (by omega) xnm.toList.isEmpty (M.tagB xnm)
    unfold rightB
    rw [show M.nameB ({ x with nm := xnm } : Nd).nm = true from nameB_x]
    exact this
  · by_cases h14 : x.kind = 14
    · have e : bl x p = { x with l := x.l.map fbl } := by rw [bl, if_neg h5, if_pos h14]
      have hl : labB 14 (x.l.map fbl) = true := by
        have h2 := (rB_lab h).2 (.inr h14)
        rw [h14] at h2
        unfold labB at h2 ⊢
        simp only [Bool.and_eq_true] at h2 ⊢
        obtain ⟨a1, a2, a3⟩ := h2
        refine ⟨?_, by simpa using a2, by rw [List.map_map, show (Fld.nm ∘ fbl) = Fld.nm from rfl]; exact a3⟩
        rw [List.all_map, List.all_eq_true]
        intro f hf
        have := List.all_eq_true.1 a1 f hf
        simp only [fok, Function.comp] at this ⊢
        rw [if_neg (by decide)] at this ⊢
        rw [Bool.and_eq_true] at this ⊢
        exact ⟨this.1, nameB_x⟩
      rw [e]
      unfold rightB at h ⊢
      rw [h14] at h
      show rB x.kind x.a x.b x.c x.n x.pos _ _ _ _ _ (x.l.map fbl).length (labB x.kind (x.l.map fbl)) = true
      rw [h14, hl, List.length_map]
      exact rB_lab1 h
    · by_cases h4 : x.kind = 4 ∧ p ≠ (-1, -1)
      · have e : bl x p = { x with nm := xnm } := by rw [bl, if_neg h5, if_neg h14, if_pos h4]
        rw [e]
        have := rB_named h (by omega) xnm.toList.isEmpty (M.tagB xnm)
        unfold rightB
        rw [show M.nameB ({ x with nm := xnm } : Nd).nm = true from nameB_x]
        exact this
      · have e : bl x p = x := by rw [bl, if_neg h5, if_neg h14, if_neg h4]
        rw [e]; exact h
theorem bls_at {N : List Nd} {B : List (Int × Int)} (_hl : B.length = N.length) {i : Nat} {y : Nd} : (bls N B)[i]? = some y ↔ ∃ x p, N[i]? = some x ∧ B[i]? = some p ∧ y = bl x p := by
  rw [bls, List.getElem?_zipWith]
  constructor
  · intro h
    cases h1 : N[i]? with
    | none => rw [h1] at h; simp at h
    | some x =>
      cases h2 : B[i]? with
      | none => rw [h1, h2] at h; simp at h
      | some p => rw [h1, h2] at h; simp at h; exact ⟨x, p, rfl, rfl, h.symm⟩
  · rintro ⟨x, p, h1, h2, rfl⟩
    rw [h1, h2]
theorem bls_get {N : List Nd} {B : List (Int × Int)} (hl : B.length = N.length) {i : Nat} {x : Nd} (h : N[i]? = some x) : ∃ p, B[i]? = some p ∧ (bls N B)[i]? = some (bl x p) := by
  obtain ⟨p, hp⟩ : ∃ p, B[i]? = some p := ⟨_, List.getElem?_eq_getElem (by have := (List.getElem?_eq_some_iff.1 h).1; omega)⟩
  exact ⟨p, hp, (bls_at hl).2 ⟨x, p, h, hp, rfl⟩⟩
theorem bls_len {N : List Nd} {B : List (Int × Int)} (hl : B.length = N.length) : (bls N B).length = N.length := by simp [bls, hl]
theorem bls_allKids : ∀ {N : List Nd} {B : List (Int × Int)}, B.length = N.length → allKids (bls N B) = allKids N
  | [], [], _ => rfl
  | x :: N, p :: B, h => by
    have := bls_allKids (N := N) (B := B) (by simpa using h)
    simp only [allKids, bls, List.zipWith_cons_cons, List.flatMap_cons, bl_kids] at this ⊢
    rw [this]
theorem bls_deeps : ∀ {N : List Nd} {B : List (Int × Int)}, B.length = N.length → deeps (bls N B) = deeps N := by
  have key : ∀ (N : List Nd) (B : List (Int × Int)) (ds : List Nat), B.length = N.length → (bls N B).foldl (fun ds x => ds ++ [dp ds x]) ds = N.foldl (fun ds x => ds ++ [dp ds x]) ds := by
    intro N
    induction N with
    | nil => intro B ds h; cases B <;> rfl
    | cons x N ih =>
      intro B ds h
      cases B with
      | nil => simp at h
      | cons p B =>
        have e : dp ds (bl x p) = dp ds x := by rw [dp, bl_kids]; rfl
        rw [bls, List.zipWith_cons_cons, List.foldl_cons, List.foldl_cons, e]
        exact ih B _ (by simpa using h)
  exact fun {N B} h => key N B [] h
theorem bls_may {N : List Nd} {B : List (Int × Int)} (hl : B.length = N.length) (h : may N = 0) : may (bls N B) = 0 := by
  obtain ⟨h1, h6⟩ := may_big h
  obtain ⟨_, ⟨f1, f2, ⟨f3, f3'⟩, f4⟩, hd⟩ := may_zero h
  have hlen := bls_len hl
  have hform : formed (bls N B) := by
    refine ⟨fun y hy => ?_, fun i y hy => ?_, ⟨by rw [bls_allKids hl]; exact f3, fun j hj => by rw [bls_allKids hl]; exact f3' j (by omega)⟩, fun i y hy => ?_⟩
    · obtain ⟨i, hi⟩ := List.getElem?_of_mem hy
      obtain ⟨x, p, hx, _, rfl⟩ := (bls_at hl).1 hi
      exact right_bl p (f1 x (List.mem_of_getElem? hx))
    · obtain ⟨x, p, hx, _, rfl⟩ := (bls_at hl).1 hy
      intro k hk
      rw [bl_kids] at hk
      exact f2 i x hx k hk
    · obtain ⟨x, p, hx, _, rfl⟩ := (bls_at hl).1 hy
      intro hk
      rw [bl_kind] at hk
      obtain ⟨z, hz, hz5⟩ := f4 i x hx hk
      obtain ⟨q, _, hq⟩ := bls_get hl hz
      rw [(bl_abc x p).1]
      exact ⟨_, hq, by rw [bl_kind]; exact hz5⟩
  have hroot : root (bls N B) = root N := by rw [root, root, bls_deeps hl, hlen]
  unfold may
  rw [if_neg (by omega), if_neg (fun hh => hh hform), if_neg (by rw [hroot]; omega)]
end Go.Proofs.YteikpeaakmbihaaDoor.T
/- Alpha, the program's. -/
namespace Go.Proofs.YteikpeaakmbihaaDoor.T
open Go.RowKit Go.Shelf
theorem dn_len (l : List Nd) : ∀ (i : Nat) (env : List Rch) (xs : List (Int × Int)), (dn l i env xs).length = xs.length := by
  intro i
  induction i using Nat.strongRecOn with
  | ind i ih =>
    intro env xs
    rw [dn]
    split
    · rfl
    · rename_i x _
      have h1 : (if x.kind = 4 then xs.set i (look env x.nm) else xs).length = xs.length := by split <;> simp
      rw [← h1]
      generalize (if x.kind = 4 then xs.set i (look env x.nm) else xs) = ys
      generalize (kids x).zipIdx = ps
      induction ps generalizing ys with
      | nil => rfl
      | cons q ps ihp =>
        rw [List.foldl_cons]
        split
        · rename_i h
          rw [ihp, ih _ h]
        · exact ihp ys
theorem bdp_len (l : List Nd) : (bdp l).length = l.length := by rw [bdp, dn_len]; simp
/-- What nameless answers: the tree, its binders. -/
noncomputable def nx (l : List Nd) : List Nd := if may l = 0 then bls (nrm l) (bdp (nrm l)) else []
noncomputable def bx (l : List Nd) : List (Int × Int) := if may l = 0 then bdp (nrm l) else []
noncomputable def alp (a b : List Nd) : Bool := (bx a == bx b) && tsm (nx a) (nx b)
def BW (W : World) (A : Option Addr) (X : List (Int × Int)) : Prop := X = [] ∨ ∃ g, A = some ⟨g, 0, none⟩ ∧ RowB W g X
section
variable {W W' : World} {A : Option Addr} {X : List (Int × Int)}
theorem BW.bv (h : BW W A X) : BV W A X := fun q p hp => by
  rcases h with rfl | ⟨g, h1, h2⟩
  · simp at hp
  · exact ⟨g, h1, (h2.cell hp).1, (h2.cell hp).2⟩
theorem BW.next (h : BW W A X) (hb : Below W.heap.size W W') : BW W' A X := by
  rcases h with h | ⟨g, h1, h2⟩
  · exact .inl h
  · exact .inr ⟨g, h1, h2.next hb⟩
theorem BW.set (h : BW W A X) {g j t : Nat} {u : Value} {cs : Array Value} (hg : W.heap[g]? = some (.cells cs t (0, 0))) (ht : t ≠ 59 ∧ t ≠ 60) : BW (W.setCell ⟨g, j, none⟩ u) A X := by
  rcases h with h | ⟨g', h1, h2⟩
  · exact .inl h
  · exact .inr ⟨g', h1, rowb_set h2 hg ht⟩
end
theorem own_nodes' {v : Value} {ps : List (Nd × Value)} {N : List Nd} {B : Nat} {W : World} (h : OwnN B W v ps) (e : ps.map Prod.fst = N) : Nodes W.heap.size W v N := by
  subst e; exact own_nodes h
def NamPost (l : List Nd) (w : World) (e : Ending) (w' : World) : Prop := ∃ A k A' k' ps, e = .returned (.tuple #[.agg #[.slice A (nx l).length k], .slice A' (bx l).length k']) ∧ ps.map Prod.fst = nx l ∧ OwnN w.heap.size w' (.slice A (nx l).length k) ps ∧ BW w' A' (bx l) ∧ Below w.heap.size w w'
theorem may_nil : may [] = 8 := may_full (by simp)
set_option maxRecDepth 100000 in
set_option maxHeartbeats 8000000 in
theorem namel_bad (l : List Nd) (v : Value) (m : Int) (hm : may l = m) (h0 : m ≠ 0) (w : World) (hK : Kws w.heap.size w) (hN : Nodes w.heap.size w v l) (hS : ∀ x ∈ l, Small x ∧ Clonable x) (hl : l.length ≤ 1000000) :
    Calls Tryd.prog 64 #[.agg #[v]] w (NamPost l w) := by
  have hn : nrm l = [] := by rw [nrm, if_neg (by rw [hm]; exact h0)]
  have e1 : nx l = [] := by rw [nx, if_neg (by rw [hm]; exact h0)]
  have e2 : bx l = [] := by rw [bx, if_neg (by rw [hm]; exact h0)]
  obtain ⟨A, c, rfl, h⟩ := hN
  have hN : Nodes w.heap.size w (.slice A l.length c) l := ⟨A, c, rfl, h⟩
  have hb0 := ((Below.refl w.heap.size w).alloc (Nat.le_refl _) (.cells #[.slice A l.length c] 24)).alloc (by simp) (.cells #[.slice none 0 0] 24)
  have HB0 := Lib.hid hb0
  have HE0 : Hid (((w.alloc (.cells #[.slice A l.length c] 24)).alloc (.cells #[.slice none 0 0] 24)).heap[w.heap.size]? = some (.cells #[.slice A l.length c] 24 (0, 0))) := Lib.hid (nextAt (newAt rfl))
  have HR0 : Hid (((w.alloc (.cells #[.slice A l.length c] 24)).alloc (.cells #[.slice none 0 0] 24)).heap[w.heap.size + 1]? = some (.cells #[.slice none 0 0] 24 (0, 0))) := Lib.hid (newAt (by simp))
  have HNO := Lib.hid (norm_any l (.slice A l.length c) _ (Kws_mono (hK.on hb0) hb0.size) ((hN.below hb0).mono hb0.size) (fun x hx => (hS x hx).1) (fun x hx => (hS x hx).2) hl)
  have HKW : Hid (∀ W, Below w.heap.size w W → Kws W.heap.size W) := Lib.hid fun W hb => Kws_mono (hK.on hb) hb.size
  rw [hm, hn] at HNO
  have HBI := Lib.hid fun (W : World) (v : Value) h1 h2 => bind_bad [] v 8 may_nil (by decide) W h1 h2 (by simp)
  have HE1 := Lib.hid e1
  have HE2 := Lib.hid e2
  clear hn e1 e2 hm hS hN h hb0 hK h0
  go_enter Tryd.func64, Tryd.ntmps64
  go_upto_region 2 with (go_at_call 19; refine HNO.out.mono ?_; rintro e w1 ⟨v1, ps, rfl, hps, hown, hb1⟩; obtain rfl : ps = [] := (by simpa using hps); obtain ⟨A1, k1, rfl⟩ := own_slice hown; have HB1 := Lib.hid (below_next HB0.out hb1 (Nat.le_refl _)); have HX1 := Lib.hid (blk_next HE0.out hb1); have HR1 := Lib.hid (blk_next HR0.out hb1); have c1 := (Blk_cell HX1.out 0).trans rfl; have f1 := Blk_frozen HX1.out 0; have HNL := Lib.hid (own_lowS (B := w.heap.size + 2) hown (by simp)); clear hb1 hown hps)
  have hB2 := HB1.out.setCell (p := ⟨w.heap.size, 0, none⟩) (Nat.le_refl _) (.slice A1 0 k1)
  have hX2 : (w1.setCell ⟨w.heap.size, 0, none⟩ (.slice A1 0 k1)).heap[w.heap.size]? = some (.cells #[.slice A1 0 k1] 24 (0, 0)) := blk_put (j := 0) HX1.out
  have hR2 := (set_far w1 w.heap.size 0 (w.heap.size + 1) (.slice A1 0 k1) (by omega)).trans HR1.out
  have hO2 : OwnN (w.heap.size + 2) (w1.setCell ⟨w.heap.size, 0, none⟩ (.slice A1 0 k1)) (.slice A1 0 k1) [] := ownN_heap HNL.out fun g hg _ => set_far _ _ _ _ _ (by omega)
  have hN2 := own_nodes hO2
  have HO2 := Lib.hid hO2
  have HB2 := Lib.hid hB2
  have HX2 := Lib.hid hX2
  have HR2 := Lib.hid hR2
  have HN2 := Lib.hid hN2
  have c2 := (Blk_cell hX2 0).trans rfl
  clear hB2 hX2 hR2 hN2 hO2 c1 f1
  go_wp2_with (go_at_call 30; refine (HBI.out _ _ (HKW.out _ HB2.out) HN2.out).mono ?_; rintro e w3 ⟨rfl, hb3⟩; have HB3 := Lib.hid (below_next HB2.out hb3 (Nat.le_refl _)); have HR3 := Lib.hid (blk_next HR2.out hb3); have HX3 := Lib.hid (blk_next HX2.out hb3); have HN3 := Lib.hid (ownN_grow HO2.out (grown_of hb3)); clear hb3)
  go_loopw [22] (fun s22 wr => s22 = .int .i64 0 ∧ wr = w3) (fun _ _ => 0)
  case atStart => exact ⟨rfl, rfl⟩
  case round =>
    obtain ⟨rfl, hw⟩ := hrel
    subst hw
    have c3 := (Blk_cell HX3.out 0).trans rfl
    have r3 := (Blk_cell HR3.out 0).trans rfl
    have r4 := Blk_frozen HR3.out 0
    have HRC := Lib.hid ((Blk_cell (blk_put (j := 0) (v := .slice A1 0 k1) HR3.out) 0).trans rfl)
    go_wp2
    refine bodyPost_ret (v := .tuple #[.agg #[.slice A1 0 k1], .slice none 0 0]) (by simp [results, Tryd.results64, go_sem, HRC.out]) rfl ?_
    refine ⟨A1, k1, none, 0, [], by rw [HE1.out, HE2.out]; rfl, by rw [HE1.out]; rfl, ?_, .inl HE2.out, HB3.out.setCell (p := ⟨w.heap.size + 1, 0, none⟩) (by show w.heap.size ≤ w.heap.size + 1; omega) _⟩
    rw [HE1.out]
    exact own_lowS (ownN_heap HN3.out fun g hg _ => set_far _ _ _ _ _ (by omega)) (by omega)
theorem namel_any (l : List Nd) (v : Value) (w : World) (hK : Kws w.heap.size w) (hN : Nodes w.heap.size w v l) (hS : ∀ x ∈ l, Small x ∧ Clonable x) (hl : l.length ≤ 1000000) :
    Calls Tryd.prog 64 #[.agg #[v]] w (NamPost l w) := by
  by_cases hm : may l = 0
  · refine (namel_ok l v hm w hK hN hS).mono ?_
    rintro e w' ⟨gn, kn, gl, cl, ps, rfl, hps, ho, hr, hb⟩
    have e1 : nx l = bls (nrm l) (bdp (nrm l)) := by rw [nx, if_pos hm]
    have e2 : bx l = bdp (nrm l) := by rw [bx, if_pos hm]
    have e3 : (bdp (nrm l)).length = (bls (nrm l) (bdp (nrm l))).length := by rw [bls_len (bdp_len _), bdp_len]
    refine ⟨_, kn, _, cl, ps, by rw [e1, e2, e3], by rw [e1]; exact hps, by rw [e1]; exact ho, ?_, hb⟩
    rw [e2]
    exact .inr ⟨gl, rfl, hr⟩
  · exact namel_bad l v _ rfl hm w hK hN hS hl
theorem bl_good {x : Nd} (p : Int × Int) (h : Small x ∧ Clonable x) : Small (bl x p) ∧ Clonable (bl x p) := by
  obtain ⟨⟨a1, a2, a3, a4⟩, b1, b2, b3, b4⟩ := h
  have hx : xnm.size = 1 := rfl
  unfold bl
  split
  · exact ⟨⟨by show xnm.size ≤ _; omega, a2, a3, a4⟩, by show xnm.size ≤ _; omega, b2, b3, b4⟩
  · split
    · refine ⟨⟨a1, a2, by simpa using a3, fun f hf => ?_⟩, b1, b2, by simpa using b3, fun f hf => ?_⟩
      · obtain ⟨g, hg, rfl⟩ := List.mem_map.1 hf
        exact ⟨(a4 g hg).1, by show xnm.size ≤ _; omega⟩
      · obtain ⟨g, hg, rfl⟩ := List.mem_map.1 hf
        exact ⟨(b4 g hg).1, by show xnm.size ≤ _; omega⟩
    · split
      · exact ⟨⟨by show xnm.size ≤ _; omega, a2, a3, a4⟩, by show xnm.size ≤ _; omega, b2, b3, b4⟩
      · exact ⟨⟨a1, a2, a3, a4⟩, b1, b2, b3, b4⟩
theorem nx_good {l : List Nd} (hS : ∀ x ∈ l, Small x ∧ Clonable x) : (nx l).length ≤ 1000000 ∧ (bx l).length ≤ 1000000 ∧ ∀ x ∈ nx l, Small x ∧ Clonable x := by
  by_cases hm : may l = 0
  · obtain ⟨m1, _⟩ := may_cp hm
    obtain ⟨n1, n6⟩ := may_big m1
    have hcp : nrm l = cp l (l.length - 1) [] := by rw [nrm, if_pos hm]
    rw [nx, if_pos hm, bx, if_pos hm]
    refine ⟨by rw [bls_len (bdp_len _)]; omega, by rw [bdp_len]; omega, fun y hy => ?_⟩
    obtain ⟨i, hi⟩ := List.getElem?_of_mem hy
    obtain ⟨x, p, hx, _, rfl⟩ := (bls_at (bdp_len _)).1 hi
    refine bl_good p ?_
    rw [hcp] at hx
    exact gd_cp_good hm hS (by have := may_big hm; omega) x (List.mem_of_getElem? hx)
  · rw [nx, if_neg hm, bx, if_neg hm]
    simp
set_option maxRecDepth 100000 in
set_option maxHeartbeats 8000000 in
theorem alpha_any (a b : List Nd) (va vb : Value) (w : World) (hK : Kws w.heap.size w) (hA : Nodes w.heap.size w va a) (hB : Nodes w.heap.size w vb b) (hSa : ∀ x ∈ a, Small x ∧ Clonable x) (hSb : ∀ x ∈ b, Small x ∧ Clonable x) (hla : a.length ≤ 1000000) (hlb : b.length ≤ 1000000) :
    Calls Tryd.prog 40 #[.agg #[va], .agg #[vb]] w fun e w' => e = .returned (.bool (alp a b)) ∧ Below w.heap.size w w' := by
  obtain ⟨ga1, ga2, ga3⟩ := nx_good hSa
  obtain ⟨gb1, gb2, gb3⟩ := nx_good hSb
  obtain ⟨A, ca, rfl, ha⟩ := hA
  have hA : Nodes w.heap.size w (.slice A a.length ca) a := ⟨A, ca, rfl, ha⟩
  obtain ⟨C, cb, rfl, hb⟩ := hB
  have hB : Nodes w.heap.size w (.slice C b.length cb) b := ⟨C, cb, rfl, hb⟩
  have HKW : Hid (∀ W, Below w.heap.size w W → Kws W.heap.size W) := Lib.hid fun W hb => Kws_mono (hK.on hb) hb.size
  have hb0 := ((Below.refl w.heap.size w).alloc (Nat.le_refl _) (.cells #[.slice A a.length ca] 24)).alloc (by simp) (.cells #[.slice C b.length cb] 24)
  have HB0 := Lib.hid hb0
  have X0 : Hid (((w.alloc (.cells #[.slice A a.length ca] 24)).alloc (.cells #[.slice C b.length cb] 24)).heap[w.heap.size]? = some (.cells #[.slice A a.length ca] 24 (0, 0))) := Lib.hid (nextAt (newAt rfl))
  have Y0 : Hid (((w.alloc (.cells #[.slice A a.length ca] 24)).alloc (.cells #[.slice C b.length cb] 24)).heap[w.heap.size + 1]? = some (.cells #[.slice C b.length cb] 24 (0, 0))) := Lib.hid (newAt (by simp))
  have HNA := Lib.hid (namel_any a (.slice A a.length ca) _ (HKW.out _ hb0) ((hA.below hb0).mono hb0.size) hSa hla)
  have HNB : Hid (∀ W, Below w.heap.size w W → Calls Tryd.prog 64 #[.agg #[.slice C b.length cb]] W (NamPost b W)) := Lib.hid fun W hbw => namel_any b _ W (HKW.out _ hbw) ((hB.below hbw).mono hbw.size) hSb hlb
  have HSE : Hid (∀ (W : World) (A A' : Option Addr) (c c' : Nat), BW W A (bx a) → BW W A' (bx b) → Calls Tryd.prog 65 #[.slice A (bx a).length c, .slice A' (bx b).length c'] W (BeqPost (bx a) (bx b) W)) := Lib.hid fun W A A' c c' h1 h2 => seq_any (bx a) (bx b) A A' _ _ c c' W ga2 gb2 (Lib.hid rfl) (Lib.hid rfl) (Lib.hid h1.bv) (Lib.hid h2.bv)
  have HSM : Hid (∀ (W : World) (v u : Value), Kws W.heap.size W → Nodes W.heap.size W v (nx a) → Nodes W.heap.size W u (nx b) → Calls Tryd.prog 22 #[.agg #[v], .agg #[u]] W fun e w' => e = .returned (.bool (tsm (nx a) (nx b))) ∧ Below W.heap.size W w') := Lib.hid fun W v u hk h1 h2 => tsame_any (nx a) (nx b) v u W hk h1 h2 (fun x hx => (ga3 x hx).1) (fun x hx => (ga3 x hx).2) ga1 (fun x hx => (gb3 x hx).1) (fun x hx => (gb3 x hx).2) gb1
  unfold NamPost at HNA HNB
  unfold BeqPost at HSE
  rw [alp]
  generalize tsm (nx a) (nx b) = T at HSM ⊢
  generalize (bx a == bx b) = E at HSE ⊢
  generalize bx a = BA at HNA HSE
  generalize bx b = BB at HNB HSE
  generalize nx a = NA at HNA HSM
  generalize nx b = NB at HNB HSM
  generalize a.length = la at *
  generalize b.length = lb at *
  clear hA hB ha hb hb0 hK hSa hSb
  go_enter Tryd.func40, Tryd.ntmps40
  go_upto_region 2 with (go_at_call 64; refine HNA.out.mono ?_; rintro e w1 ⟨A1, k1, A2, k2, ps, rfl, hps, hn, hv, hb1⟩; have HB1 := Lib.hid (below_next HB0.out hb1 (Nat.le_refl _)); have X1 := Lib.hid (blk_next X0.out hb1); have Y1 := Lib.hid (blk_next Y0.out hb1); have N1 : Hid (OwnN (w.heap.size + 2) w1 (.slice A1 NA.length k1) ps) := Lib.hid (own_lowS hn (by simp)); have V1 := Lib.hid hv; have P1 := Lib.hid hps; have c1 := (Blk_cell X1.out 0).trans rfl; have f1 := Blk_frozen X1.out 0; clear hb1 hn hv hps)
  have HB2 := Lib.hid (HB1.out.setCell (p := ⟨w.heap.size, 0, none⟩) (Nat.le_refl _) (.slice A1 NA.length k1))
  have X2 : Hid ((w1.setCell ⟨w.heap.size, 0, none⟩ (.slice A1 NA.length k1)).heap[w.heap.size]? = some (.cells #[.slice A1 NA.length k1] 24 (0, 0))) := Lib.hid (blk_put (j := 0) X1.out)
  have Y2 := Lib.hid ((set_far w1 w.heap.size 0 (w.heap.size + 1) (.slice A1 NA.length k1) (by omega)).trans Y1.out)
  have N2 : Hid (OwnN (w.heap.size + 2) (w1.setCell ⟨w.heap.size, 0, none⟩ (.slice A1 NA.length k1)) (.slice A1 NA.length k1) ps) := Lib.hid (ownN_heap N1.out fun g hg _ => set_far _ _ _ _ _ (by omega))
  have V2 := Lib.hid (V1.out.set (j := 0) (u := .slice A1 NA.length k1) X1.out (by decide))
  have y2 := (Blk_cell Y2.out 0).trans rfl
  clear c1 f1
  go_upto_region 3 with (go_at_call 64; refine (HNB.out _ HB2.out).mono ?_; rintro e w3 ⟨A3, k3, A4, k4, qs, rfl, hqs, hn, hv, hb3⟩; have HB3 := Lib.hid (below_next HB2.out hb3 (Nat.le_refl _)); have X3 := Lib.hid (blk_next X2.out hb3); have Y3 := Lib.hid (blk_next Y2.out hb3); have N3 := Lib.hid (ownN_grow N2.out (grown_of hb3)); have V3 := Lib.hid (V2.out.next hb3); have M3 : Hid (OwnN (w.heap.size + 2) w3 (.slice A3 NB.length k3) qs) := Lib.hid (own_lowS hn (by have := HB2.out.size; have h1 := (Array.getElem?_eq_some_iff.1 Y2.out).1; omega)); have U3 := Lib.hid hv; have Q3 := Lib.hid hqs; have y3 := (Blk_cell Y3.out 0).trans rfl; have g3 := Blk_frozen Y3.out 0; clear hb3 hn hv hqs)
  have HB4 := Lib.hid (HB3.out.setCell (p := ⟨w.heap.size + 1, 0, none⟩) (by show w.heap.size ≤ w.heap.size + 1; omega) (.slice A3 NB.length k3))
  have Y4 : Hid ((w3.setCell ⟨w.heap.size + 1, 0, none⟩ (.slice A3 NB.length k3)).heap[w.heap.size + 1]? = some (.cells #[.slice A3 NB.length k3] 24 (0, 0))) := Lib.hid (blk_put (j := 0) Y3.out)
  have X4 := Lib.hid ((set_far w3 (w.heap.size + 1) 0 w.heap.size (.slice A3 NB.length k3) (by omega)).trans X3.out)
  have N4 : Hid (Nodes (w3.setCell ⟨w.heap.size + 1, 0, none⟩ (.slice A3 NB.length k3)).heap.size (w3.setCell ⟨w.heap.size + 1, 0, none⟩ (.slice A3 NB.length k3)) (.slice A1 NA.length k1) NA) := Lib.hid (own_nodes' (ownN_heap N3.out fun g hg _ => set_far _ _ _ _ _ (by omega)) P1.out)
  have M4 : Hid (Nodes (w3.setCell ⟨w.heap.size + 1, 0, none⟩ (.slice A3 NB.length k3)).heap.size (w3.setCell ⟨w.heap.size + 1, 0, none⟩ (.slice A3 NB.length k3)) (.slice A3 NB.length k3) NB) := Lib.hid (own_nodes' (ownN_heap M3.out fun g hg _ => set_far _ _ _ _ _ (by omega)) Q3.out)
  have V4 := Lib.hid (V3.out.set (j := 0) (u := .slice A3 NB.length k3) Y3.out (by decide))
  have U4 := Lib.hid (U3.out.set (j := 0) (u := .slice A3 NB.length k3) Y3.out (by decide))
  clear y3 g3 y2
  cases E with
  | true =>
    go_wp2_with (first
      | (go_at_call 65; refine (HSE.out _ _ _ _ _ V4.out U4.out).mono ?_; rintro e w5 ⟨rfl, hb⟩; have HB5 := Lib.hid (below_next HB4.out hb (Nat.le_refl _)); have x5 := (Blk_cell (blk_next X4.out hb) 0).trans rfl; have y5 := (Blk_cell (blk_next Y4.out hb) 0).trans rfl; have N5 := Lib.hid ((N4.out.below hb).mono hb.size); have M5 := Lib.hid ((M4.out.below hb).mono hb.size); clear hb)
      | (go_at_call 22; refine (HSM.out _ _ _ (HKW.out _ HB5.out) N5.out M5.out).mono ?_; rintro e w6 ⟨rfl, hb⟩; have HB6 := Lib.hid (below_next HB5.out hb (Nat.le_refl _)); clear hb))
    go_ret
    exact ⟨by simp, HB6.out⟩
  | false =>
    go_wp2_with (go_at_call 65; refine (HSE.out _ _ _ _ _ V4.out U4.out).mono ?_; rintro e w5 ⟨rfl, hb⟩; have HB5 := Lib.hid (below_next HB4.out hb (Nat.le_refl _)); clear hb)
    go_ret
    exact ⟨by simp, HB5.out⟩
end Go.Proofs.YteikpeaakmbihaaDoor.T
