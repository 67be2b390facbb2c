/- Joined by program: LStays. -/
import Derived.Test.YteikpeaakmbihaaDoorG45
import Derived.Deep.RegionHeld3
import Derived.IntWalk
/- The walk of TreeStays. -/
namespace Go.Proofs.YteikpeaakmbihaaDoor.T
open Go.RowKit Go.Shelf
set_option maxRecDepth 100000 in
set_option maxHeartbeats 16000000 in
theorem stays_a (a la N : List Nd) (A0 : Option Addr) (LA c0 : Nat) (i ea : Int) (w : World)
    (HK : Hid (∀ W, Below w.heap.size w W → Kws W.heap.size W))
    (HWK : Hid (∀ W, Below w.heap.size w W → Calls Tryd.prog 18 #[] W fun e W' => e = .returned (.bool true) ∧ Below W.heap.size W W'))
    (HFA : Hid (∀ W, Below w.heap.size w W → Calls Tryd.prog 10 #[.agg #[.slice A0 LA c0]] W (FewPost a W))) (HLA : Hid (few a = la))
    (HNO : Hid (∀ (W : World) (A : Option Addr) (c : Nat), Kws W.heap.size W → Nodes W.heap.size W (.slice A la.length c) la → Calls Tryd.prog 19 #[.agg #[.slice A la.length c]] W fun e W' => ∃ A c, e = .returned (.tuple #[.agg #[.slice A N.length c], .int .i64 ea]) ∧ Nodes W'.heap.size W' (.slice A N.length c) N ∧ Below W.heap.size W W'))
    (HZ : ea ≠ 0 → N = [])
    (HNN : ea = 0 → Hid (∀ (W : World) (A : Option Addr) (c : Nat), Kws W.heap.size W → Nodes W.heap.size W (.slice A N.length c) N → Calls Tryd.prog 19 #[.agg #[.slice A N.length c]] W fun e W' => ∃ A c, e = .returned (.tuple #[.agg #[.slice A N.length c], .int .i64 0]) ∧ Nodes W'.heap.size W' (.slice A N.length c) N ∧ Below W.heap.size W W'))
    (HSA : ea = 0 → Hid (∀ (W : World) (v u : Value), Kws W.heap.size W → Nodes W.heap.size W v la → Nodes W.heap.size W u N → Calls Tryd.prog 22 #[.agg #[v], .agg #[u]] W fun e W' => e = .returned (.bool true) ∧ Below W.heap.size W W'))
    (HLS : ea = 0 → Hid (∀ (W : World) (v u : Value) (M : List Nd), (M = N ∨ ∃ r : Nat, r < la.length ∧ M = cp la r []) → Nodes W.heap.size W v M → Nodes W.heap.size W u M → Calls Tryd.prog 24 #[.agg #[v], .agg #[u]] W fun e W' => e = .returned (.bool true) ∧ Below W.heap.size W W'))
    (HPOS : ea = 0 → 1 ≤ la.length ∧ la.length ≤ 600)
    (HAM : ea = 0 → Hid (∀ W, Calls Tryd.prog 29 #[.int .i64 i, .int .i64 (la.length : Int)] W fun e W' => (∃ r : Nat, e = .returned (.int .i64 (r : Int)) ∧ r < la.length) ∧ W = W'))
    (HKI : ea = 0 → Hid (∀ x ∈ la, ∀ (W : World) (v : Value) (B : Nat), B ≤ W.heap.size → Flds W.heap.size W v x.l → Calls Tryd.prog 16 #[.agg #[.int .i64 x.kind, .int .i64 x.a, .int .i64 x.b, .int .i64 x.c, .int .i64 x.n, .string x.nm, .string x.s, v, .int .i64 x.pos]] W fun e W' => ∃ g c, e = .returned (.slice (some ⟨g, 0, none⟩) (kids x).length c) ∧ Ints B W' (.slice (some ⟨g, 0, none⟩) (kids x).length c) (kids x) ∧ Below W.heap.size W W'))
    (HKS : ea = 0 → Hid (∀ (q : Nat) (x : Nd), la[q]? = some x → (kids x).length ≤ 1000 ∧ ∀ k, k ∈ kids x → 0 ≤ k ∧ k < (q : Int)))
    (HSU : ea = 0 → Hid (∀ (j : Nat) (W : World) (A : Option Addr) (c : Nat), j < la.length → Kws W.heap.size W → Nodes W.heap.size W (.slice A la.length c) la → Calls Tryd.prog 20 #[.agg #[.slice A la.length c], .int .i64 (j : Int)] W (SubPost 0 (cp la j []) W)))
    (HJP : ea = 0 → Hid (∀ (r : Nat) (x : Nd), la[r]? = some x → ∀ (W : World) (v u : Value), Flds W.heap.size W v x.l → Exprs W.heap.size W u ((kids x).map fun k => cp la k.toNat []) → Calls Tryd.prog 27 #[.agg #[.int .i64 x.kind, .int .i64 x.a, .int .i64 x.b, .int .i64 x.c, .int .i64 x.n, .string x.nm, .string x.s, v, .int .i64 x.pos], u] W fun e W' => ∃ A c, e = .returned (.agg #[.slice A (cp la r []).length c]) ∧ Nodes W'.heap.size W' (.slice A (cp la r []).length c) (cp la r []) ∧ Below W.heap.size W W')) :
    Calls Tryd.prog 6 #[.agg #[.slice A0 LA c0], .int .i64 i] w fun e w' => e = .returned (.bool true) ∧ Below w.heap.size w w' := by
  obtain ⟨j0, hj0, hy0, hy1, hy2⟩ := info_parts exprInfo
  have X0 : Hid ((w.alloc (.cells #[.slice A0 LA c0] 24)).heap[w.heap.size]? = some (.cells #[.slice A0 LA c0] 24 (0, 0))) := Lib.hid (newAt rfl)
  have HB0 : Hid (Below w.heap.size w (w.alloc (.cells #[.slice A0 LA c0] 24))) := Lib.hid ((Below.refl _ w).alloc (Nat.le_refl _) _)
  go_enter Tryd.func6, Tryd.ntmps6
  go_upto_region 5 with (first
    | (go_at_call 19; refine (HNO.out _ _ _ (HK.out _ S2.out.2.2) S2.out.nodes).mono ?_; rintro e w3 ⟨A3, k3, rfl, hn, hb⟩; have hal := (Below.refl w3.heap.size w3).alloc (Nat.le_refl _) (.cells #[.slice A3 N.length k3] 24); have S3 := Lib.hid ((S2.out.next hb).next hal); have XB3 := Lib.hid (Bx.new hn); have c23 := S3.out.c; clear hb hn hal)
    | (go_at_call 10; refine (HFA.out _ HB1.out).mono ?_; rintro e w2 ⟨v2, ps2, rfl, hps2, hown2, hb2⟩; obtain ⟨A2, k2, rfl⟩ := own_slice_len hown2 hps2 HLA.out rfl; have S2 := Lib.hid (ASt.put (below_next HB1.out hb2 (Nat.le_refl _)) (ownN_low hown2 HS1.out) (hps2.trans HLA.out) (blk_next X1.out hb2) rfl); have c2 := S2.out.c; have x2 := blk_next X1.out hb2; have f2 := Blk_frozen x2 0; have d2 : w2.cell? ⟨w.heap.size, 0, none⟩ = some (.slice A0 LA c0) := (Blk_cell x2 0).trans rfl; clear x2 hb2 hown2 hps2)
    | (go_at_call 18; refine (HWK.out _ HB0.out).mono ?_; rintro e w1 ⟨rfl, hb1⟩; have X1 := Lib.hid (blk_next X0.out hb1); have c1 : w1.cell? ⟨w.heap.size, 0, none⟩ = some (.slice A0 LA c0) := (Blk_cell X1.out 0).trans rfl; have HB1 := Lib.hid (below_next HB0.out hb1 (Nat.le_refl _)); have HS1 : Hid (w.heap.size + 1 ≤ w1.heap.size) := Lib.hid (by have := hb1.size; simp at this; omega); clear hb1))
  by_cases hea : ea = 0
  · obtain ⟨hl1, hl6⟩ := HPOS hea
    replace HNN := HNN hea
    replace HSA := HSA hea
    replace HLS := HLS hea
    replace HAM := HAM hea
    replace HKI := HKI hea
    replace HKS := HKS hea
    replace HSU := HSU hea
    replace HJP := HJP hea
    subst hea
    clear HZ HPOS
    have c3x := XB3.out.c
    go_upto_region 8 with (go_at_call 19; refine (HNN.out _ _ _ (HK.out _ S3.out.2.2) XB3.out.2).mono ?_; rintro e w4 ⟨A4, k4, rfl, hn, hb⟩; have hal := (Below.refl w4.heap.size w4).alloc (Nat.le_refl _) (.cells #[.slice A4 N.length k4] 24); have S4 := Lib.hid ((S3.out.next hb).next hal); have XB4 := Lib.hid ((XB3.out.next hb).next hal); have YB4 := Lib.hid (Bx.new hn); have c24 := S4.out.c; have c4x := XB4.out.c; have c4y := YB4.out.c; clear hb hn hal)
    go_upto_region 12 with (first
      | (go_at_call 24; refine (HLS.out _ _ _ _ (.inl rfl) XB4.out.2 YB4.out.2).mono ?_; rintro e w5 ⟨rfl, hb⟩; have S5 := Lib.hid (S4.out.next hb); have XB5 := Lib.hid (XB4.out.next hb); have c25 := S5.out.c; have c5x := XB5.out.c; clear hb)
      | (go_at_call 22; refine (HSA.out _ _ _ (HK.out _ S5.out.2.2) S5.out.nodes XB5.out.2).mono ?_; rintro e w6 ⟨rfl, hb⟩; have S6 := Lib.hid (S5.out.next hb); have c26 := S6.out.c; clear hb)
      | (go_at_call 29; refine (HAM.out _).mono ?_; rintro e w7 ⟨⟨r, rfl, hr⟩, rfl⟩))
    have S7 := Lib.hid (S6.out.next ((Below.refl w6.heap.size w6).alloc (Nat.le_refl _) (.cells #[] 24)))
    have c27 := S7.out.c
    have V7 := Lib.hid (World.ownsRow_made (base := w.heap.size + 1) (e := 24) (size := 1) w6 #[] 0 S6.out.size (by decide) rfl)
    obtain ⟨b, o, rfl⟩ : ∃ b o, A2 = some (⟨b, o, none⟩ : Addr) := by
      obtain ⟨_, _, e, _, _, hq⟩ := S7.out.nodes
      obtain ⟨b, o, h, _⟩ := hq (by omega)
      cases e
      exact ⟨b, o, h⟩
    obtain ⟨x, hx⟩ : ∃ x, la[r]? = some x := ⟨_, List.getElem?_eq_getElem hr⟩
    have hnd : NdsAt (w6.alloc (.cells #[] 24)).heap.size (w6.alloc (.cells #[] 24)) b o la := by
      obtain ⟨_, _, e, _, _, hqq⟩ := S7.out.nodes
      obtain ⟨b', o', e', _, h⟩ := hqq (by omega)
      cases e; cases e'; exact h
    obtain ⟨fv, hfl, m0, m1, m2, m3, m4, m5, m6, m7, m8⟩ := hnd r x hx
    have HKX := Lib.hid (HKI.out x (List.mem_of_getElem? hx) _ fv (w.heap.size + 1) S7.out.size hfl)
    have hks := HKS.out r x hx
    have HJX := Lib.hid (HJP.out r x hx)
    obtain ⟨KL, hKL⟩ : ∃ KL, (kids x).length = KL := ⟨_, rfl⟩
    obtain ⟨CP, hCP⟩ : ∃ CP, cp la r [] = CP := ⟨_, rfl⟩
    have HKL := Lib.hid hKL
    have HCP := Lib.hid hCP
    have hKb : KL ≤ 1000 := by rw [← hKL]; exact hks.1
    have HKA := Lib.hid hks.2
    have HX := Lib.hid hx
    have HFX := Lib.hid hfl
    rw [hKL] at HKX
    rw [hCP] at HJX
    obtain ⟨FA, fc, rfl, _⟩ := hfl
    obtain ⟨FL, hFL⟩ : ∃ FL, x.l.length = FL := ⟨_, rfl⟩
    rw [hFL] at HKX m7 HFX
    clear hx hnd hks hKL hCP hFL HKI HJP
    go_wp2_with (go_at_call 16; refine HKX.out.mono ?_; rintro e w8 ⟨gk, ck, rfl, hki, hb⟩; have S8 := Lib.hid (ZSt.new (K := kids x) (gk := gk) (ck := ck) (S7.out.next hb) (by rw [HKL.out]; exact hki) w8 _ (World.ownsRow.kept V7.out (grown_of hb) (ne_none _)) (Below.refl _ _)); clear hb hki)
    go_loopw [9, 11] (fun s9 s11 wr => ∃ (q g k : Nat) (es : List (List Nd × Value)), s9 = .slice (some ⟨g, 0, none⟩) q k ∧ s11 = .int .i64 (q : Int) ∧ q ≤ KL ∧ Hid (ZSt w wr (some ⟨b, o, none⟩) k2 la gk ck (kids x) es (.slice (some ⟨g, 0, none⟩) q k) q) ∧ Hid (es.map Prod.fst = ((kids x).take q).map fun k => cp la k.toNat [])) (fun _ i _ => KL - (intOf i).toNat)
    case atStart => exact ⟨0, _, _, [], rfl, rfl, Nat.zero_le _, S8, Lib.hid (by simp)⟩
    case round =>
      obtain ⟨q, g, k, es, rfl, rfl, hq, HS, HE⟩ := hrel
      obtain ⟨w9, rfl⟩ : ∃ w9, w9 = wr := ⟨_, rfl⟩
      clear m0 m1 m2 m3 m4 m5 m6 m7 m8 c27 S7 S8
      have c9 := HS.out.1.c
      by_cases hlt : q < KL
      · obtain ⟨kz, hkz⟩ : ∃ kz, (kids x)[q]? = some kz := ⟨_, List.getElem?_eq_getElem (by rw [HKL.out]; exact hlt)⟩
        have hkm := HKA.out kz (List.mem_of_getElem? hkz)
        obtain ⟨m, rfl⟩ : ∃ m : Nat, kz = (m : Int) := ⟨kz.toNat, by omega⟩
        have hml : m < la.length := by omega
        have z1 := HS.out.row.1 q _ hkz
        have HSM := Lib.hid (HSU.out m)
        obtain ⟨M, hM⟩ : ∃ M, cp la m [] = M := ⟨_, rfl⟩
        rw [hM] at HSM
        have HTK : Hid (((kids x).take (q + 1)).map (fun k => cp la k.toNat []) = ((kids x).take q).map (fun k => cp la k.toNat []) ++ [M]) := Lib.hid (by rw [take_snoc _ _ _ hkz, List.map_append]; simp [hM])
        have hsz := HS.out.1.size
        have HSd := Lib.hid HS.out.drew
        have HSz := Lib.hid (HS.out.next ((Below.refl w9.heap.size w9).alloc (Nat.le_refl _) (.cells #[.slice none 0 0] 24)))
        have d0 := HSz.out.1.c
        have d1 := HSz.out.row.1 q _ hkz
        clear hkz hkm hM
        go_upto_region 16 with fail
        go_cut [12, 13] (fun s12 s13 wx => s13 = .int .i64 0 ∧ ∃ p A5 n5 k5, s12 = .pointer (some ⟨p, 0, none⟩) ∧ Hid (Got w wx (some ⟨b, o, none⟩) k2 la gk ck (kids x) es (.slice (some ⟨g, 0, none⟩) q k) q M p (.slice A5 n5 k5)))
        case first =>
          go_region_with (go_at_call 20; first
            | (refine (HSM.out _ _ _ hml (HK.out _ HSd.out.1.2.2) HSd.out.1.nodes).mono ?_; rintro e w10 ⟨v5, ps5, rfl, hps, hown, hb⟩; obtain ⟨A5, k5, rfl⟩ := own_slice hown; have O5 := Lib.hid hown; have E5 := Lib.hid hps; have B5 := Lib.hid hb; clear hown hps hb)
            | (refine (HSM.out _ _ _ hml (HK.out _ HSz.out.drew.1.2.2) HSz.out.drew.1.nodes).mono ?_; rintro e w10 ⟨v5, ps5, rfl, hps, hown, hb⟩; obtain ⟨A5, k5, rfl⟩ := own_slice hown; have O5 := Lib.hid hown; have E5 := Lib.hid hps; have B5 := Lib.hid hb; have P5 := blk_next (show (w9.alloc (.cells #[.slice none 0 0] 24)).drew.heap[w9.heap.size]? = some (.cells #[.slice none 0 0] 24) from newAt rfl) hb; have p5 := (Blk_cell P5 0).trans rfl; have f5 := Blk_frozen P5 0; have P5 := Lib.hid P5; clear hown hps hb))
          all_goals
            go_wp2_with fail
            go_meet
            first
              | exact ⟨rfl, _, _, _, _, rfl, Lib.hid (HSd.out.got_a B5.out rfl O5.out E5.out)⟩
              | exact ⟨rfl, _, _, _, _, rfl, Lib.hid (HS.out.got_b (below_next (((Below.refl w9.heap.size w9).alloc (Nat.le_refl _) _).drew) B5.out (Nat.le_refl _)) rfl (ownN_low O5.out (by simp)) E5.out P5.out)⟩
        case rest =>
          obtain ⟨rfl, p, A5, n5, k5, rfl, HG⟩ := hcut
          have cp5 := (Blk_cell HG.out.2.2 0).trans rfl
          clear HS HSd HSz d0 d1 c9 z1 HSM
          go_wp2_with (at_builtin; refine wpList_append_own _ rfl _ _ 45 rfl (w.heap.size + 1) 24 j0 (.agg #[.slice none 0 0]) 1 24 Tryd.underlying45 hj0 hy0 hy1 hy2 rfl (by decide) _ q _ rfl (HG.out.1.2.2.1.alloc _) ⟨wc.heap.size, 0, none⟩ 1 1 [.slice A5 n5 k5] rfl rfl (new1 wc 24 _) (fun u hu => by rw [List.mem_singleton.1 hu]; rfl) (by unfold maxLen; omega) (by omega) (by have := HG.out.1.1.size; simp; omega) ?_; intro v6 w11 hown6 hgrow6 _; obtain ⟨g6, c6, rfl⟩ := ownsRow_succ hown6; have HS6 := Lib.hid (HG.out.1.push HG.out.2.1 hown6 hgrow6); clear hown6 hgrow6)
          go_roundw
          case rel => exact ⟨q + 1, _, _, es ++ [(M, .slice A5 n5 k5)], rfl, by go_num, by omega, HS6, Lib.hid (by rw [List.map_append, HE.out, HTK.out]; rfl)⟩
          case measure => simp [intOf]; omega
      · obtain rfl : q = KL := by omega
        have HSR : Hid (∀ (W : World) (A : Option Addr) (c : Nat), Kws W.heap.size W → Nodes W.heap.size W (.slice A la.length c) la → Calls Tryd.prog 20 #[.agg #[.slice A la.length c], .int .i64 (r : Int)] W fun e W' => ∃ A c, e = .returned (.tuple #[.agg #[.slice A CP.length c], .int .i64 0]) ∧ Nodes W'.heap.size W' (.slice A CP.length c) CP ∧ Below W.heap.size W W') := Lib.hid fun W A c h1 h2 => SubPost.law rfl (HCP.out ▸ HSU.out r W A c hr h1 h2)
        have HEK : Hid (es.map Prod.fst = (kids x).map fun k => cp la k.toNat []) := Lib.hid (by rw [HE.out, List.take_of_length_le (by rw [HKL.out]; exact Nat.le_refl _)])
        obtain ⟨fv2, hfl2, hn2⟩ : ∃ fv2, Flds w9.heap.size w9 fv2 x.l ∧ ∀ W, Below w9.heap.size w9 W → W.cell? ⟨b, o + r * 9, none⟩ = some (.int .i64 x.kind) ∧ W.cell? ⟨b, o + r * 9 + 1, none⟩ = some (.int .i64 x.a) ∧ W.cell? ⟨b, o + r * 9 + 2, none⟩ = some (.int .i64 x.b) ∧ W.cell? ⟨b, o + r * 9 + 3, none⟩ = some (.int .i64 x.c) ∧ W.cell? ⟨b, o + r * 9 + 4, none⟩ = some (.int .i64 x.n) ∧ W.cell? ⟨b, o + r * 9 + 5, none⟩ = some (.string x.nm) ∧ W.cell? ⟨b, o + r * 9 + 6, none⟩ = some (.string x.s) ∧ W.cell? ⟨b, o + r * 9 + 7, none⟩ = some fv2 ∧ W.cell? ⟨b, o + r * 9 + 8, none⟩ = some (.int .i64 x.pos) := by
          obtain ⟨_, _, e, _, _, hqq⟩ := HS.out.1.nodes
          obtain ⟨b', o', e', hbl, h⟩ := hqq (by omega)
          cases e; cases e'
          obtain ⟨fv, hfl, m0, m1, m2, m3, m4, m5, m6, m7, m8⟩ := h r x HX.out
          refine ⟨fv, hfl, fun W hb => ?_⟩
          have e : ∀ k, W.cell? ⟨b, k, none⟩ = w9.cell? ⟨b, k, none⟩ := fun k => hb.cell (p := ⟨b, k, none⟩) hbl
          exact ⟨(e _).trans m0, (e _).trans m1, (e _).trans m2, (e _).trans m3, (e _).trans m4, (e _).trans m5, (e _).trans m6, (e _).trans m7, (e _).trans m8⟩
        obtain ⟨FA2, fc2, rfl, _⟩ := hfl2
        obtain ⟨FL2, hFL2⟩ : ∃ FL2, x.l.length = FL2 := ⟨_, rfl⟩
        have HF2 : Hid (Flds w9.heap.size w9 (.slice FA2 x.l.length fc2) x.l) := Lib.hid ⟨FA2, fc2, rfl, by assumption⟩
        rw [hFL2] at hn2 HF2
        have HN2 := Lib.hid hn2
        clear hn2 hFL2 HE HFX HKX HKA
        go_upto_region 21 with (go_at_call 20; refine (HSR.out _ _ _ (HK.out _ HS.out.1.2.2) HS.out.1.nodes).mono ?_; rintro e w12 ⟨A12, k12, rfl, hn, hb⟩; have hal := (Below.refl w12.heap.size w12).alloc (Nat.le_refl _) (.cells #[.slice A12 CP.length k12] 24); have S12 := Lib.hid ((HS.out.next hb).next hal).drew; have B12 := Lib.hid (below_next hb hal (Nat.le_refl _)).drew; have YB12 := Lib.hid ((Bx.new hn).next (Below.refl _ _).drew); clear hb hn hal)
        go_region_held3 (fun W => W.cell? ⟨w.heap.size, 0, none⟩ = some (.slice (some ⟨b, o, none⟩) la.length k2) ∧ W.cell? ⟨w12.heap.size, 0, none⟩ = some (.slice A12 CP.length k12) ∧ W.cell? ⟨b, o + r * 9, none⟩ = some (.int .i64 x.kind) ∧ W.cell? ⟨b, o + r * 9 + 1, none⟩ = some (.int .i64 x.a) ∧ W.cell? ⟨b, o + r * 9 + 2, none⟩ = some (.int .i64 x.b) ∧ W.cell? ⟨b, o + r * 9 + 3, none⟩ = some (.int .i64 x.c) ∧ W.cell? ⟨b, o + r * 9 + 4, none⟩ = some (.int .i64 x.n) ∧ W.cell? ⟨b, o + r * 9 + 5, none⟩ = some (.string x.nm) ∧ W.cell? ⟨b, o + r * 9 + 6, none⟩ = some (.string x.s) ∧ W.cell? ⟨b, o + r * 9 + 7, none⟩ = some (.slice FA2 FL2 fc2) ∧ W.cell? ⟨b, o + r * 9 + 8, none⟩ = some (.int .i64 x.pos))
          (first | exact ⟨S12.out.1.c, YB12.out.c, HN2.out _ B12.out⟩ | exact ⟨S13.out.1.c, YB13.out.c, HN2.out _ B13.out⟩ | exact ⟨S14.out.1.c, YB14.out.c, HN2.out _ B14.out⟩)
          (first
            | (go_at_call 24; refine (HLS.out _ _ _ _ (.inr ⟨r, hr, HCP.out.symm⟩) N13.out YB13.out.2).mono ?_; rintro e w14 ⟨rfl, hb⟩; have S14 := Lib.hid (S13.out.next hb); have YB14 := Lib.hid (YB13.out.next hb); have B14 := Lib.hid (below_next B13.out hb (Nat.le_refl _)); clear hb)
            | (go_at_call 27; refine (HJX.out _ _ _ ((HF2.out.below B12.out).mono B12.out.size) (HEK.out ▸ S12.out.exprs)).mono ?_; rintro e w13 ⟨A13, k13, rfl, hn, hb⟩; have S13 := Lib.hid (S12.out.next hb); have YB13 := Lib.hid (YB12.out.next hb); have B13 := Lib.hid (below_next B12.out hb (Nat.le_refl _)); have N13 := Lib.hid hn; clear hb hn))
        all_goals
          go_wp2_with fail
          go_ret
          exact ⟨rfl, S14.out.1.2.2⟩
  · obtain rfl := HZ hea
    have hb : (ea != 0) = true := by simpa using hea
    have c3x := XB3.out.c
    clear HZ HPOS HNN HSA HLS HAM HKI HKS HSU HJP hea
    go_wp2_with fail
    go_ret
    exact ⟨rfl, S3.out.2.2⟩
end Go.Proofs.YteikpeaakmbihaaDoor.T
