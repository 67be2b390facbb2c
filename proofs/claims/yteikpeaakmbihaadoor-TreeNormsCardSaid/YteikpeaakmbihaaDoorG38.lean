/- Joined by program: LNorms. -/
import Derived.Test.YteikpeaakmbihaaDoorG37
import Derived.Deep.RegionHeld3
import Derived.IntWalk
/- The walk of TreeNorms. -/
namespace Go.Proofs.YteikpeaakmbihaaDoor.T
open Go.RowKit Go.Shelf
set_option maxRecDepth 100000 in
set_option maxHeartbeats 16000000 in
theorem norms_a (a b la lb N1 N2 : List Nd) (A0 B0 : Option Addr) (LA LB c0 d0 : Nat) (i ea eb : Int) (T : Bool) (w : World)
    (HK : Hid (∀ W, Below w.heap.size w W → Kws W.heap.size W))
    (HFA : Hid (∀ W, Below w.heap.size w W → Calls Tryd.prog 10 #[.agg #[.slice A0 LA c0]] W (FewPost a W))) (HFB : Hid (∀ W, Below w.heap.size w W → Calls Tryd.prog 10 #[.agg #[.slice B0 LB d0]] W (FewPost b W))) (HLA : Hid (few a = la)) (HLB : Hid (few b = lb))
    (HF2 : Hid (∀ (W : World) (A : Option Addr) (c : Nat), Nodes W.heap.size W (.slice A la.length c) la → Calls Tryd.prog 10 #[.agg #[.slice A la.length c]] W fun e W' => ∃ A c, e = .returned (.agg #[.slice A la.length c]) ∧ Nodes W'.heap.size W' (.slice A la.length c) la ∧ Below W.heap.size W W')) (HF3 : Hid (∀ (W : World) (A : Option Addr) (c : Nat), Nodes W.heap.size W (.slice A lb.length c) lb → Calls Tryd.prog 10 #[.agg #[.slice A lb.length c]] W fun e W' => ∃ A c, e = .returned (.agg #[.slice A lb.length c]) ∧ Nodes W'.heap.size W' (.slice A lb.length c) lb ∧ Below W.heap.size W W'))
    (HNO : Hid (∀ (W : World) (A : Option Addr) (c : Nat), Kws W.heap.size W → Nodes W.heap.size W (.slice A la.length c) la → Calls Tryd.prog 19 #[.agg #[.slice A la.length c]] W fun e W' => ∃ A c, e = .returned (.tuple #[.agg #[.slice A N1.length c], .int .i64 ea]) ∧ Nodes W'.heap.size W' (.slice A N1.length c) N1 ∧ Below W.heap.size W W'))
    (HSU : Hid (∀ (W : World) (A : Option Addr) (c : Nat), Kws W.heap.size W → Nodes W.heap.size W (.slice A la.length c) la → Calls Tryd.prog 20 #[.agg #[.slice A la.length c], .int .i64 i] W fun e W' => ∃ A c, e = .returned (.tuple #[.agg #[.slice A N2.length c], .int .i64 eb]) ∧ Nodes W'.heap.size W' (.slice A N2.length c) N2 ∧ Below W.heap.size W W'))
    (HPA : Hid (∀ (W : World) (A : Option Addr) (c : Nat), Kws W.heap.size W → Nodes W.heap.size W (.slice A la.length c) la → Calls Tryd.prog 21 #[.agg #[.slice A la.length c]] W fun e W' => ∃ v, e = .returned v ∧ PR la W' v ∧ Below W.heap.size W W'))
    (HSA : Hid (∀ (W : World) (v u : Value), Kws W.heap.size W → Nodes W.heap.size W v la → Nodes W.heap.size W u lb → Calls Tryd.prog 22 #[.agg #[v], .agg #[u]] W fun e W' => e = .returned (.bool T) ∧ Below W.heap.size W W'))
    (HRS : Hid (∀ (W : World) (v u : Value), Nodes W.heap.size W v la → Nodes W.heap.size W u lb → Calls Tryd.prog 23 #[.agg #[v], .agg #[u]] W fun e W' => e = .returned (.bool T) ∧ Below W.heap.size W W'))
    (HRM : Hid (∀ (W : World) (v : Value), Nodes W.heap.size W v la → Calls Tryd.prog 11 #[.agg #[v]] W fun e W' => e = .returned (.int .i64 ea) ∧ Below W.heap.size W W'))
    (HRN : ea = 0 → Hid (∀ (W : World) (A : Option Addr) (c : Nat), Nodes W.heap.size W (.slice A la.length c) la → Calls Tryd.prog 25 #[.agg #[.slice A la.length c]] W fun e W' => ∃ A c, e = .returned (.agg #[.slice A N1.length c]) ∧ Nodes W'.heap.size W' (.slice A N1.length c) N1 ∧ Below W.heap.size W W'))
    (HLS : Hid (∀ (W : World) (v u : Value) (N : List Nd), N = N1 ∨ N = N2 → Nodes W.heap.size W v N → Nodes W.heap.size W u N → Calls Tryd.prog 24 #[.agg #[v], .agg #[u]] W fun e W' => e = .returned (.bool true) ∧ Below W.heap.size W W'))
    (HKS : ea = 0 → Hid (∀ x ∈ la, x.l.length ≤ 1000000 ∧ ∀ q : Nat, la[q]? = some x → ∀ k, k ∈ kids x → 0 ≤ k ∧ k < (q : Int)))
    (HRU : ea = 0 → 0 ≤ i ∧ i < (la.length : Int) → Hid (∀ (W : World) (A : Option Addr) (c : Nat), Nodes W.heap.size W (.slice A la.length c) la → Calls Tryd.prog 26 #[.agg #[.slice A la.length c], .int .i64 i] W fun e W' => ∃ A c, e = .returned (.agg #[.slice A N2.length c]) ∧ Nodes W'.heap.size W' (.slice A N2.length c) N2 ∧ Below W.heap.size W W'))
    (HMA : Hid (may la = ea)) (HZ : ea ≠ 0 → N1 = [] ∧ N2 = [] ∧ ea = eb) (HPOS : ea = 0 → 1 ≤ la.length ∧ la.length ≤ 600 ∧ (eb = 0 ∧ 0 ≤ i ∧ i < (la.length : Int) ∨ eb = 3 ∧ N2 = [] ∧ ¬ (0 ≤ i ∧ i < (la.length : Int))))
    (_hT : (T != T) = false) (ha : la.length ≤ 1000000) (_hlb : lb.length ≤ 1000000) :
    Calls Tryd.prog 4 #[.agg #[.slice A0 LA c0], .agg #[.slice B0 LB d0], .int .i64 i] w fun e w' => e = .returned (.bool true) ∧ Below w.heap.size w w' := by
  have HW2 : Hid (Below w.heap.size w ((w.alloc (.cells #[.slice A0 LA c0] 24)).alloc (.cells #[.slice B0 LB d0] 24))) := Lib.hid (((Below.refl _ w).alloc (Nat.le_refl _) _).alloc (by simp) _)
  have X0 : Hid (((w.alloc (.cells #[.slice A0 LA c0] 24)).alloc (.cells #[.slice B0 LB d0] 24)).heap[w.heap.size]? = some (.cells #[.slice A0 LA c0] 24 (0, 0))) := Lib.hid (nextAt (newAt rfl))
  have Y0 : Hid (((w.alloc (.cells #[.slice A0 LA c0] 24)).alloc (.cells #[.slice B0 LB d0] 24)).heap[w.heap.size + 1]? = some (.cells #[.slice B0 LB d0] 24 (0, 0))) := Lib.hid (newAt (by simp))
  go_enter Tryd.func4, Tryd.ntmps4
  go_upto_region 1 with fail
  go_cut [6] (fun s6 wx => s6 = .bool false ∧ ∃ A ka C kc, Hid (BSt w wx A ka la.length la C kc lb.length lb))
  case first =>
    go_region_with (first
      | (go_at_call 10; have _tag := O1.out; clear _tag; refine (HFB.out _ HB1.out).mono ?_; rintro e w2 ⟨v2, ps2, rfl, hps2, hown2, hb2⟩; obtain ⟨A2, k2, rfl⟩ := own_slice_len hown2 hps2 HLB.out rfl; have hs1 := HB1.out.size; have hle := HS1.out; have O2 : Hid (OwnN (w.heap.size + 2) w2 (.slice A2 lb.length k2) ps2) := Lib.hid (ownN_low hown2 (by omega)); have O1 := Lib.hid (ownN_grow O1.out (grown_of hb2)); have E2 := Lib.hid (hps2.trans HLB.out); have x2 := blk_next X1.out hb2; have y2 := blk_next Y1.out hb2; have f2 := Blk_frozen x2 0; have g2 := Blk_frozen y2 0; have c2 : w2.cell? ⟨w.heap.size, 0, none⟩ = some (.slice A0 LA c0) := (Blk_cell x2 0).trans rfl; have d2 : w2.cell? ⟨w.heap.size + 1, 0, none⟩ = some (.slice B0 LB d0) := (Blk_cell y2 0).trans rfl; have X2 := Lib.hid x2; have Y2 := Lib.hid y2; have HB2 := Lib.hid (below_next HB1.out hb2 (Nat.le_refl _)); clear x2 y2 hb2 hown2 hps2)
      | (go_at_call 10; refine (HFA.out _ HW2.out.drew).mono ?_; rintro e w1 ⟨v1, ps1, rfl, hps1, hown1, hb1⟩; obtain ⟨A1, k1, rfl⟩ := own_slice_len hown1 hps1 HLA.out rfl; have O1 : Hid (OwnN (w.heap.size + 2) w1 (.slice A1 la.length k1) ps1) := Lib.hid (ownN_low hown1 (by simp)); have E1 := Lib.hid (hps1.trans HLA.out); have x1 := blk_next X0.out (Below.trans (Below.refl _ _).drew hb1); have y1 := blk_next Y0.out (Below.trans (Below.refl _ _).drew hb1); have c1 : w1.cell? ⟨w.heap.size, 0, none⟩ = some (.slice A0 LA c0) := (Blk_cell x1 0).trans rfl; have d1 : w1.cell? ⟨w.heap.size + 1, 0, none⟩ = some (.slice B0 LB d0) := (Blk_cell y1 0).trans rfl; have X1 := Lib.hid x1; have Y1 := Lib.hid y1; have HB1 := Lib.hid (below_next HW2.out.drew hb1 (Nat.le_refl _)); have HS1 : Hid (w.heap.size + 2 ≤ w1.heap.size) := Lib.hid (by have := hb1.size; simp at this; omega); clear x1 y1 hb1 hown1 hps1))
    all_goals
      go_wp2_with fail
      go_meet
      exact ⟨rfl, A1, k1, A2, k2, Lib.hid (two_boxes HB2.out O1.out O2.out E1.out E2.out X2.out Y2.out)⟩
  case rest =>
    obtain ⟨rfl, A1, ka, C1, kc, S0⟩ := hcut
    clear X0 Y0 HW2
    have c20 := S0.out.c2
    go_upto_region 5 with (first
      | (go_at_call 21; refine (HPA.out _ _ _ (HK.out _ S6.out.1) N6.out).mono ?_; rintro e w7 ⟨pv, rfl, hp, hb⟩; have E7 : Hid (ESt w w7 A1 ka la C1 kc lb w3.heap.size A3 k3 N1 w5.heap.size A5 k5 N2 pv) := Lib.hid ⟨S6.out.next hb, XB6.out.next hb, YB6.out.next hb, hp⟩; have c27 := E7.out.1.c2; have c37 := E7.out.1.c3; clear hb hp)
      | (go_at_call 10; have _tag := YB5.out; clear _tag; refine (HF2.out _ _ _ S5.out.2.1).mono ?_; rintro e w6 ⟨A6, k6, rfl, hn, hb⟩; have S6 := Lib.hid (S5.out.next hb); have XB6 := Lib.hid (XB5.out.next hb); have YB6 := Lib.hid (YB5.out.next hb); have N6 := Lib.hid hn; clear hb hn)
      | (go_at_call 20; refine (HSU.out _ _ _ (HK.out _ S4.out.1) N4.out).mono ?_; rintro e w5 ⟨A5, k5, rfl, hn, hb⟩; have hal := (Below.refl w5.heap.size w5).alloc (Nat.le_refl _) (.cells #[.slice A5 N2.length k5] 24); have S5 := Lib.hid ((S4.out.next hb).next hal); have XB5 := Lib.hid ((XB4.out.next hb).next hal); have YB5 := Lib.hid (Bx.new hn); have c25 := S5.out.c2; clear hb hn hal)
      | (go_at_call 10; have _tag := XB3.out; clear _tag; refine (HF2.out _ _ _ S3.out.2.1).mono ?_; rintro e w4 ⟨A4, k4, rfl, hn, hb⟩; have S4 := Lib.hid (S3.out.next hb); have XB4 := Lib.hid (XB3.out.next hb); have N4 := Lib.hid hn; clear hb hn)
      | (go_at_call 19; refine (HNO.out _ _ _ (HK.out _ S2.out.1) N2'.out).mono ?_; rintro e w3 ⟨A3, k3, rfl, hn, hb⟩; have hal := (Below.refl w3.heap.size w3).alloc (Nat.le_refl _) (.cells #[.slice A3 N1.length k3] 24); have S3 := Lib.hid ((S2.out.next hb).next hal); have XB3 := Lib.hid (Bx.new hn); have c23 := S3.out.c2; clear hb hn hal)
      | (go_at_call 10; refine (HF2.out _ _ _ S0.out.2.1).mono ?_; rintro e w2 ⟨A2, k2, rfl, hn, hb⟩; have S2 := Lib.hid (S0.out.next hb); have N2' := Lib.hid hn; clear hb hn))
    go_cut [6, 44] (fun s6 s44 wx => s6 = .bool false ∧ s44 = .bool false ∧ Hid (ESt w wx A1 ka la C1 kc lb w3.heap.size A3 k3 N1 w5.heap.size A5 k5 N2 pv))
    case first =>
      go_region_held3 (fun W => W.cell? ⟨w.heap.size, 0, none⟩ = some (.slice A1 la.length ka) ∧ W.cell? ⟨w.heap.size + 1, 0, none⟩ = some (.slice C1 lb.length kc)) (first | exact ⟨E7.out.drew.1.c2, E7.out.drew.1.c3⟩ | exact ⟨E8.out.1.c2, E8.out.1.c3⟩ | exact ⟨E9.out.1.c2, E9.out.1.c3⟩ | exact ⟨E10.out.1.c2, E10.out.1.c3⟩ | exact ⟨E11.out.1.c2, E11.out.1.c3⟩) (first
        | (go_at_call 23; refine (HRS.out _ _ _ E10.out.1.2.1 E10.out.1.2.2.1).mono ?_; rintro e w11 ⟨rfl, hb⟩; have E11 := Lib.hid (E10.out.next hb); clear hb)
        | (go_at_call 22; refine (HSA.out _ _ _ (HK.out _ E9.out.1.1) N8.out N9.out).mono ?_; rintro e w10 ⟨rfl, hb⟩; have E10 := Lib.hid (E9.out.next hb); clear hb)
        | (go_at_call 10; have _tag := E8.out; clear _tag; refine (HF3.out _ _ _ E8.out.1.2.2.1).mono ?_; rintro e w9 ⟨A9, k9, rfl, hn, hb⟩; have E9 := Lib.hid (E8.out.next hb); have N8 := Lib.hid (nodes_next N8.out hb); have N9 := Lib.hid hn; clear hb hn)
        | (go_at_call 10; refine (HF2.out _ _ _ E7.out.drew.1.2.1).mono ?_; rintro e w8 ⟨A8, k8, rfl, hn, hb⟩; have E8 := Lib.hid (E7.out.drew.next hb); have N8 := Lib.hid hn; clear hb hn))
      all_goals
        go_wp2_with fail
        go_meet
        exact ⟨rfl, rfl, E11⟩
    case rest =>
      obtain ⟨rfl, rfl, E0⟩ := hcut
      clear HFA HFB HF2 HF3 HNO HSU HPA HSA HRS S0 c20 E7 c27 c37
      have e0 := E0.out.1.c2
      by_cases hea : ea = 0
      · obtain ⟨hl1, hl6, hio⟩ := HPOS hea
        obtain ⟨U, gp, cg, rfl, hrw, hul, hrt, hpar⟩ : ∃ (U : List Int) (g cg : Nat), pv = .slice (some ⟨g, 0, none⟩) la.length cg ∧ Rw wc g U ∧ U.length = la.length ∧ U[la.length - 1]? = some (-1) ∧ ∀ (i : Nat) (x : Nd) (k : Int), la[i]? = some x → k ∈ kids x → U[k.toNat]? = some (i : Int) := by
          rcases E0.out.2.2.2 with h | ⟨_, h⟩
          · exact absurd (HMA.out.trans hea) h.1
          · exact h
        obtain ⟨b, o, rfl⟩ : ∃ b o, A1 = some (⟨b, o, none⟩ : Addr) := by
          obtain ⟨_, _, e, _, _, hq⟩ := E0.out.1.2.1
          obtain ⟨b, o, h, _⟩ := hq (by omega)
          cases e
          exact ⟨b, o, h⟩
        have HU := Lib.hid hrw
        have HPAR := Lib.hid hpar
        have HRT := Lib.hid hrt
        replace HRN := HRN hea
        replace HRU := HRU hea
        replace HKS := HKS hea
        clear HZ HPOS hrw hpar hul hrt
        subst hea
        have s1 : IntKind.i64.wrap ((la.length : Int) - 1) = (la.length : Int) - 1 := IntWalk.i64_in _ (by omega)
        have s2 : ((la.length : Int) - 1).toNat = la.length - 1 := by omega
        have s3 : (0 : Int) ≤ (la.length : Int) - 1 := by omega
        have s4 : (la.length : Int) - 1 < (la.length : Int) := by omega
        have s5 : (1 : Int) ≤ (la.length : Int) := by omega
        go_upto_region 10 with (go_at_call 11; refine (HRM.out _ _ E0.out.1.2.1).mono ?_; rintro e w12 ⟨rfl, hb⟩; have E12 := Lib.hid (E0.out.next hb); have U12 := Lib.hid (HU.out.next hb); clear hb)
        go_cut [6, 98] (fun s6 s98 wx => s6 = .bool false ∧ s98 = .bool false ∧ Hid (ESt w wx (some ⟨b, o, none⟩) ka la C1 kc lb w3.heap.size A3 k3 N1 w5.heap.size A5 k5 N2 (.slice (some ⟨gp, 0, none⟩) la.length cg)) ∧ Hid (Rw wx gp U))
        case first =>
          go_region_held3 (fun W => W.cell? ⟨w.heap.size, 0, none⟩ = some (.slice (some ⟨b, o, none⟩) la.length ka) ∧ W.cell? ⟨w3.heap.size, 0, none⟩ = some (.slice A3 N1.length k3) ∧ W.cell? ⟨gp, la.length - 1, none⟩ = some (.int .i64 (-1))) (first | exact ⟨E12.out.drew.1.c2, E12.out.drew.2.1.c, U12.out.drew.1 _ _ HRT.out⟩ | exact ⟨E13.out.1.c2, E13.out.2.1.c, U13.out.1 _ _ HRT.out⟩ | exact ⟨E14.out.1.c2, E14.out.2.1.c, U14.out.1 _ _ HRT.out⟩) (first
            | (go_at_call 24; refine (HLS.out _ _ _ _ (.inl rfl) E13.out.2.1.2 N13.out).mono ?_; rintro e w14 ⟨rfl, hb⟩; have E14 := Lib.hid (E13.out.next hb); have U14 := Lib.hid (U13.out.next hb); clear hb)
            | (go_at_call 25; refine (HRN.out _ _ _ E12.out.drew.1.2.1).mono ?_; rintro e w13 ⟨A13, k13, rfl, hn, hb⟩; have E13 := Lib.hid (E12.out.drew.next hb); have U13 := Lib.hid (U12.out.drew.next hb); have N13 := Lib.hid hn; clear hb hn))
          all_goals
            go_wp2_with fail
            go_meet
            exact ⟨rfl, rfl, E14, U14⟩
        case rest =>
          obtain ⟨rfl, rfl, E15, U15⟩ := hcut
          clear E12 U12 s1 s2 s3 s4 s5 HRN E0 HU e0 HRT HRM
          go_wp2
          go_loopw [13, 14, 15] (fun k kd j wr => ∃ q : Nat, k = .int .i64 (q : Int) ∧ q ≤ la.length ∧ Hid (ESt w wr (some ⟨b, o, none⟩) ka la C1 kc lb w3.heap.size A3 k3 N1 w5.heap.size A5 k5 N2 (.slice (some ⟨gp, 0, none⟩) la.length cg)) ∧ Hid (Rw wr gp U)) (fun k _ _ _ => la.length - (intOf k).toNat)
          case atStart => exact ⟨0, rfl, by omega, E15, U15⟩
          case round =>
            obtain ⟨q, rfl, hq, E16, U16⟩ := hrel
            have c216 := E16.out.1.c2
            by_cases hlt : q < la.length
            · obtain ⟨x, hx⟩ : ∃ x, la[q]? = some x := ⟨_, List.getElem?_eq_getElem hlt⟩
              have hnd : NdsAt wr.heap.size wr b o la := by
                obtain ⟨_, _, e, _, _, hqq⟩ := E16.out.1.2.1
                obtain ⟨b', o', e', _, h⟩ := hqq (by omega)
                cases e; cases e'; exact h
              obtain ⟨fv, hfl, m0, m1, m2, m3, m4, m5, m6, m7, m8⟩ := hnd q x hx
              have hks := HKS.out x (List.mem_of_getElem? hx)
              have HKD := Lib.hid (kids_law (kids_any x fv wr (Nat.le_refl _) hfl hks.1) rfl)
              have hkl : (kids x).length ≤ 1000003 := by have := kids_len x; omega
              have HPX : Hid (∀ k, k ∈ kids x → U[k.toNat]? = some (q : Int)) := Lib.hid fun k hk => HPAR.out q x k hx hk
              have HAX : Hid (∀ k, k ∈ kids x → 0 ≤ k ∧ k < (q : Int)) := Lib.hid (hks.2 q hx)
              obtain ⟨FA, fc, rfl, _⟩ := hfl
              clear hx hnd hks
              go_wp2_with (go_at_call 17; refine HKD.out.mono ?_; rintro e w17 ⟨gk, ck, rfl, hr, hb⟩; have E17 := Lib.hid (E16.out.next hb); have U17 := Lib.hid (U16.out.next hb); have R17 := Lib.hid hr; clear hb hr)
              go_loopw [15] (fun j w2 => ∃ r : Nat, j = .int .i64 (r : Int) ∧ r ≤ (kids x).length ∧ w2 = w17) (fun j _ => (kids x).length - (intOf j).toNat)
              case atStart => exact ⟨0, rfl, Nat.zero_le _, rfl⟩
              case round =>
                obtain ⟨r, rfl, hr, hw⟩ := hrel
                subst hw
                by_cases hr2 : r < (kids x).length
                · obtain ⟨kz, hkz⟩ : ∃ kz, (kids x)[r]? = some kz := ⟨_, List.getElem?_eq_getElem hr2⟩
                  have hkm := List.mem_of_getElem? hkz
                  obtain ⟨m, rfl⟩ : ∃ m : Nat, kz = (m : Int) := ⟨kz.toNat, by have := HAX.out kz hkm; omega⟩
                  have hmq : m < q := by have := HAX.out _ hkm; omega
                  have z1 := R17.out.1 r _ hkz
                  have z2 := U17.out.1 m _ (HPX.out _ hkm)
                  have hml : (m : Int) < (la.length : Int) := by omega
                  clear hkz hkm
                  go_wp2_with fail
                  go_roundw
                  case rel => exact ⟨r + 1, by go_num, by omega, by first | exact trivial | rfl⟩
                  case measure => simp [intOf]; omega
                · obtain rfl : r = (kids x).length := by omega
                  go_wp2_with fail
                  go_roundw
                  case rel => exact ⟨q + 1, by go_num, by omega, E17, U17⟩
                  case measure => simp [intOf]; omega
            · obtain rfl : q = la.length := by omega
              clear HPAR HKS HMA
              rcases hio with ⟨rfl, hi0, hi1⟩ | ⟨rfl, rfl, hio⟩
              · have d1 : decide (i < 0) = false := by simpa using hi0
                have d2 : decide ((la.length : Int) ≤ i) = false := by simpa using hi1
                replace HRU := HRU ⟨hi0, hi1⟩
                go_upto_region 23 with fail
                go_region_held3 (fun W => W.cell? ⟨w.heap.size, 0, none⟩ = some (.slice (some ⟨b, o, none⟩) la.length ka) ∧ W.cell? ⟨w5.heap.size, 0, none⟩ = some (.slice A5 N2.length k5)) (first | exact ⟨E16.out.drew.1.c2, E16.out.drew.2.2.1.c⟩ | exact ⟨E18.out.1.c2, E18.out.2.2.1.c⟩ | exact ⟨E19.out.1.c2, E19.out.2.2.1.c⟩ | exact ⟨E20.out.1.c2, E20.out.2.2.1.c⟩) (first
                  | (go_at_call 18; refine (works_any _ (HK.out _ E19.out.1.1)).mono ?_; rintro e w20 ⟨rfl, hb⟩; have E20 := Lib.hid (E19.out.next hb); clear hb)
                  | (go_at_call 24; refine (HLS.out _ _ _ _ (.inr rfl) E18.out.2.2.1.2 N18.out).mono ?_; rintro e w19 ⟨rfl, hb⟩; have E19 := Lib.hid (E18.out.next hb); clear hb)
                  | (go_at_call 26; refine (HRU.out _ _ _ E16.out.drew.1.2.1).mono ?_; rintro e w18 ⟨A18, k18, rfl, hn, hb⟩; have E18 := Lib.hid (E16.out.drew.next hb); have N18 := Lib.hid hn; clear hb hn))
                all_goals
                  go_wp2
                  go_ret
                  exact ⟨rfl, E20.out.1.1⟩
              · have cy16 := E16.out.2.2.1.c
                cases d1 : decide (i < 0) with
                | true =>
                  go_wp2_with (go_at_call 18; refine (works_any _ (HK.out _ E16.out.1.1)).mono ?_; rintro e w20 ⟨rfl, hb⟩; have E20 := Lib.hid (E16.out.next hb); clear hb)
                  go_ret
                  exact ⟨rfl, E20.out.1.1⟩
                | false =>
                  have d2 : decide ((la.length : Int) ≤ i) = true := by
                    have : ¬ i < 0 := by simpa using d1
                    simp; omega
                  go_wp2_with (go_at_call 18; refine (works_any _ (HK.out _ E16.out.1.1)).mono ?_; rintro e w20 ⟨rfl, hb⟩; have E20 := Lib.hid (E16.out.next hb); clear hb)
                  go_ret
                  exact ⟨rfl, E20.out.1.1⟩
      · obtain ⟨h1, h2, h3⟩ := HZ hea
        obtain rfl : pv = .slice none 0 0 := by
          rcases E0.out.2.2.2 with h | h
          · exact h.2
          · exact absurd (HMA.out.symm.trans h.1) hea
        subst h1 h2 h3
        have hne : (ea != 0) = true := by simpa using hea
        clear HZ HPOS HRU HRN HLS HKS
        go_wp2_with (first
          | (go_at_call 18; refine (works_any _ (HK.out _ E12.out.1.1)).mono ?_; rintro e w13 ⟨rfl, hb⟩; have E13 := Lib.hid (E12.out.next hb); clear hb)
          | (go_at_call 11; refine (HRM.out _ _ E0.out.1.2.1).mono ?_; rintro e w12 ⟨rfl, hb⟩; have E12 := Lib.hid (E0.out.next hb); have cx12 := E12.out.2.1.c; have cy12 := E12.out.2.2.1.c; clear hb))
        go_ret
        exact ⟨rfl, E13.out.1.1⟩
end Go.Proofs.YteikpeaakmbihaaDoor.T
