/- Joined by program: LJoinsC. -/
import Derived.Test.YteikpeaakmbihaaDoorG42
import Derived.Deep.RegionHeld3
/- The walk of TreeJoins, its node's parts' slice none. -/
namespace Go.Proofs.YteikpeaakmbihaaDoor.T
open Go.RowKit Go.Shelf
set_option maxRecDepth 100000 in
set_option maxHeartbeats 16000000 in
theorem joins_n (x y : Nd) (KL LL n m _fx cl : Nat) (EA : Option Addr) (ll : List (List Nd)) (w : World)
    (hmin : min (n : Int) 20 = (m : Int)) (hm : m ≤ 20) (hmn : m ≤ n) (hnn : n = 0) (HN : Hid (x.l.length = n)) (HXY : Hid (∀ v, ndArr x v = ndArr y v)) (HYL : Hid (y.l = x.l.take m)) (_HYM : Hid (y.l.length = m)) (hKL : KL ≤ 1000)
    (HPOS : Hid (0 < n → ∃ b o, (none : Option Addr) = some (⟨b, o, none⟩ : Addr) ∧ b < w.heap.size ∧ FldsAt w b o x.l))
    (HE : Hid (0 < LL → ∃ be oe, EA = some (⟨be, oe, none⟩ : Addr) ∧ be < w.heap.size ∧ ∀ j e, ll[j]? = some e → ∃ Ae ce, w.cell? ⟨be, oe + j, none⟩ = some (.slice Ae e.length ce) ∧ Nodes w.heap.size w (.slice Ae e.length ce) e)) (HLL : Hid (ll.length = LL))
    (HKI : Hid (∀ (W : World) (v : Value), Flds W.heap.size W v y.l → Calls Tryd.prog 17 #[.agg #[.int .i64 y.kind, .int .i64 y.a, .int .i64 y.b, .int .i64 y.c, .int .i64 y.n, .string y.nm, .string y.s, v, .int .i64 y.pos]] W fun e W' => ∃ g c, e = .returned (.slice (some ⟨g, 0, none⟩) KL c) ∧ Below W.heap.size W W'))
    (HRM : Hid (∀ e, e = [int1] ∨ e ∈ ll → ∀ (W : World) (v : Value), Nodes W.heap.size W v e → Calls Tryd.prog 11 #[.agg #[v]] W fun r W' => r = .returned (.int .i64 (may e)) ∧ Below W.heap.size W W'))
    (HWK : Hid (∀ W, Below w.heap.size w W → Calls Tryd.prog 18 #[] W fun e W' => e = .returned (.bool true) ∧ Below W.heap.size W W'))
    (HJP : Hid (∀ (es : List (List Nd)), es.length = KL → (∀ e ∈ es, may e = 0 ∧ (e = [int1] ∨ e ∈ ll)) → ∀ (W : World) (v u : Value), Flds W.heap.size W v y.l → Exprs W.heap.size W u es → Calls Tryd.prog 27 #[.agg #[.int .i64 y.kind, .int .i64 y.a, .int .i64 y.b, .int .i64 y.c, .int .i64 y.n, .string y.nm, .string y.s, v, .int .i64 y.pos], u] W fun e W' => ∃ A c, e = .returned (.agg #[.slice A (joinN y es).length c]) ∧ Nodes W'.heap.size W' (.slice A (joinN y es).length c) (joinN y es) ∧ Below W.heap.size W W'))
    (HJR : Hid (∀ (es : List (List Nd)), es.length = KL → (∀ e ∈ es, may e = 0 ∧ (e = [int1] ∨ e ∈ ll)) → ∀ (W : World) (v u : Value), Flds W.heap.size W v y.l → Exprs W.heap.size W u es → Calls Tryd.prog 28 #[.agg #[.int .i64 y.kind, .int .i64 y.a, .int .i64 y.b, .int .i64 y.c, .int .i64 y.n, .string y.nm, .string y.s, v, .int .i64 y.pos], u] W fun e W' => ∃ A c, e = .returned (.agg #[.slice A (joinN y es).length c]) ∧ Nodes W'.heap.size W' (.slice A (joinN y es).length c) (joinN y es) ∧ Below W.heap.size W W'))
    (HLS : Hid (∀ (es : List (List Nd)), es.length = KL → (∀ e ∈ es, may e = 0 ∧ (e = [int1] ∨ e ∈ ll)) → ∀ (W : World) (v u : Value), Nodes W.heap.size W v (joinN y es) → Nodes W.heap.size W u (joinN y es) → Calls Tryd.prog 24 #[.agg #[v], .agg #[u]] W fun e W' => e = .returned (.bool true) ∧ Below W.heap.size W W')) :
    Calls Tryd.prog 5 #[.agg (ndArr x (.slice none 0 0)), .slice EA LL cl] w fun e w' => e = .returned (.bool true) ∧ Below w.heap.size w w' := by
  obtain ⟨i0, hi, hz0, hz1, hz2⟩ := info_parts fldInfo
  obtain ⟨j0, hj0, hy0, hy1, hy2⟩ := info_parts exprInfo
  subst hnn
  obtain rfl : m = 0 := by omega
  have HFL : Hid ((x.l.take 0).length = 0) := Lib.hid (by rw [List.length_take]; have := HN.out; omega)
  have HR1 : Hid (((w.alloc (.cells (ndArr x (.slice none 0 0)) 27)).alloc (.cells #[] 75)).ownsRow (w.heap.size + 1) 75 3 (.slice (some ⟨w.heap.size + 1, 0, none⟩) 0 0) 0 []) := Lib.hid (by
    have := World.ownsRow_made (base := (w.alloc (.cells (ndArr x (.slice none 0 0)) 27)).heap.size) (e := 75) (size := 3) (w.alloc (.cells (ndArr x (.slice none 0 0)) 27)) #[] 0 (Nat.le_refl _) (by decide) rfl
    simpa using this)
  have HSRC := Lib.hid (flds_src (q := 0) (FD := x.l.take 0) ((Below.refl _ w).alloc (Nat.le_refl _) (.cells (ndArr x (.slice none 0 0)) 27)) HPOS.out HN.out rfl (.cells #[] 75))
  have n71 : (w.alloc (.cells (ndArr x (.slice none 0 0)) 27)).cell? ⟨w.heap.size, 7, none⟩ = some (.slice none 0 0) := (Blk_cell (newAt rfl) 7).trans rfl
  have n72 : ((w.alloc (.cells (ndArr x (.slice none 0 0)) 27)).alloc (.cells #[] 75)).cell? ⟨w.heap.size, 7, none⟩ = some (.slice none 0 0) := (Blk_cell (nextAt (newAt rfl)) 7).trans rfl
  go_enter Tryd.func5, Tryd.ntmps5
  go_wp2_with (at_builtin; refine wpList_append_opt rfl _ _ 25 rfl (w.heap.size + 1) 75 i0 (.agg #[.string ⟨#[]⟩, .string ⟨#[]⟩, .int .i64 0]) 3 40 Tryd.underlying25 hi hz0 hz1 hz2 rfl (by decide) (w.heap.size + 1) 0 rfl HR1.out (none) 0 0 (fCells (x.l.take 0)) rfl (fun _ => ⟨rfl, rfl⟩) (by rw [fCells_len, HFL.out]) HSRC.out (fCells_one _) (by unfold maxLen; omega) (by omega) (by simp) ?_; intro g1 c1 w3 hown1 hgrow1; obtain ⟨p0, p1⟩ := joins_mid HFL.out hown1 hgrow1 HXY.out HYL.out; obtain ⟨_, _, _, _, _, _, _, n7, _⟩ := nd_cells p0; have f7 := Blk_frozen p0 7; have S1 := Lib.hid p1; clear p0 p1 hown1 hgrow1 n71 n72)
  go_loopw [5, 6] (fun s5 s6 wr => ∃ (q g k : Nat) (es : List (List Nd × Value)), s5 = .slice (some ⟨g, 0, none⟩) q k ∧ s6 = .int .i64 (q : Int) ∧ q ≤ KL ∧ Hid (KSt w wr y (.slice (some ⟨g1, 0, none⟩) 0 c1) es (.slice (some ⟨g, 0, none⟩) q k) q) ∧ Hid (∀ p ∈ es, may p.1 = 0 ∧ (p.1 = [int1] ∨ p.1 ∈ ll))) (fun _ i _ => KL - (intOf i).toNat)
  case atStart => exact ⟨0, _, _, [], rfl, rfl, Nat.zero_le _, S1, Lib.hid (by simp)⟩
  case round =>
    obtain ⟨q, g, k, es, rfl, rfl, hq, HS, HG⟩ := hrel
    obtain ⟨w2, rfl⟩ : ∃ w2, w2 = wr := ⟨_, rfl⟩
    obtain ⟨q0, q1, q2, q3, q4, q5, q6, q7, q8⟩ := nd_cells HS.out.1
    have hw2 := HS.out.size
    by_cases hlt : q < KL
    · by_cases hi1 : q < LL
      · obtain ⟨be, oe, rfl, hbe, hee⟩ := HE.out (by omega)
        obtain ⟨e, he⟩ : ∃ e, ll[q]? = some e := ⟨_, List.getElem?_eq_getElem (by rw [HLL.out]; exact hi1)⟩
        obtain ⟨Ae, ce, hce, hne⟩ := hee q e he
        obtain ⟨eL, heL⟩ : ∃ eL, e.length = eL := ⟨_, rfl⟩
        rw [heL] at hce hne
        have HCE0 : Hid (w.cell? ⟨be, oe + q, none⟩ = some (.slice Ae eL ce)) := Lib.hid hce
        have HNE := Lib.hid hne
        have HMEM : Hid (e ∈ ll) := Lib.hid (List.mem_of_getElem? he)
        obtain ⟨M, hM⟩ : ∃ M, may e = M := ⟨_, rfl⟩
        obtain ⟨M1, hM1⟩ : ∃ M1, may [int1] = M1 := ⟨_, rfl⟩
        have HM := Lib.hid hM
        have HM1 := Lib.hid hM1
        clear hee he hce hne
        by_cases hsel : 0 < eL ∧ eL < 100
        · obtain ⟨hp, hh⟩ := hsel
          by_cases hM0 : M = 0
          · subst hM0
            go_wp2_with (first | (go_at_call 17; refine (HKI.out _ _ HS.out.flds).mono ?_; rintro r w3 ⟨gk, ck, rfl, hb⟩; have ce3 : w3.cell? ⟨be, oe + q, none⟩ = some (.slice Ae eL ce) := ((below_next HS.out.2.2.2.2.2 hb (Nat.le_refl _)).cell (p := ⟨be, oe + q, none⟩) hbe).trans HCE0.out; have hs3 := hb.size; have HS3 := Lib.hid (HS.out.next hb); have X3 := Lib.hid (XSt.int HS3.out); have ce7 := int_low ce3 (show be < w3.heap.size by omega); unfold ndArr int1 at ce7; clear hb) | (go_at_call 11; have X4 := Lib.hid (XSt.got HS3.out HNE.out); refine (HRM.out e (.inr HMEM.out) _ _ X4.out.nodes).mono ?_; rw [HM.out]; rintro r w4 ⟨rfl, hb⟩; have X5 := Lib.hid (X4.out.next hb); have c5 := X5.out.c; clear hb) | (at_builtin; refine wpList_append_own _ rfl _ _ 45 rfl (w.heap.size + 1) 24 j0 (.agg #[.slice none 0 0]) 1 24 Tryd.underlying45 hj0 hy0 hy1 hy2 rfl (by decide) _ q _ rfl (X5.out.1.2.2.1.alloc _) ⟨w4.heap.size, 0, none⟩ 1 1 [.slice Ae eL ce] rfl rfl (new1 w4 24 _) (fun u hu => by rw [List.mem_singleton.1 hu]; rfl) (by unfold maxLen; omega) (by omega) (by have := X5.out.1.size; simp; omega) ?_; intro v6 w6 hown6 hgrow6 _; obtain ⟨g6, c6, rfl⟩ := ownsRow_succ hown6; have HS6 := Lib.hid (X5.out.1.push X5.out.2.1 hown6 hgrow6); clear hown6 hgrow6))
            go_roundw
            case rel => exact ⟨q + 1, _, _, es ++ [(e, .slice Ae eL ce)], rfl, by go_num, by omega, HS6, Lib.hid (fun p hp => by
              rcases List.mem_append.1 hp with hp | hp
              · exact HG.out p hp
              · obtain rfl := List.mem_singleton.1 hp
                exact ⟨HM.out, .inr HMEM.out⟩)⟩
            case measure => simp [intOf]; omega
          · have hMb : (M != 0) = true := by simpa using hM0
            go_wp2_with (first | (go_at_call 17; refine (HKI.out _ _ HS.out.flds).mono ?_; rintro r w3 ⟨gk, ck, rfl, hb⟩; have ce3 : w3.cell? ⟨be, oe + q, none⟩ = some (.slice Ae eL ce) := ((below_next HS.out.2.2.2.2.2 hb (Nat.le_refl _)).cell (p := ⟨be, oe + q, none⟩) hbe).trans HCE0.out; have hs3 := hb.size; have HS3 := Lib.hid (HS.out.next hb); have X3 := Lib.hid (XSt.int HS3.out); have ce7 := int_low ce3 (show be < w3.heap.size by omega); unfold ndArr int1 at ce7; clear hb) | (go_at_call 11; have X4 := Lib.hid (XSt.got HS3.out HNE.out); refine (HRM.out e (.inr HMEM.out) _ _ X4.out.nodes).mono ?_; rw [HM.out]; rintro r w4 ⟨rfl, hb⟩; have X5 := Lib.hid (X4.out.next hb); have c5 := X5.out.c; clear hb) | (go_at_call 18; refine (HWK.out _ X5.out.1.2.2.2.2.2).mono ?_; rintro r w6 ⟨rfl, hb⟩; have HB6 := Lib.hid (below_next X5.out.1.2.2.2.2.2 hb (Nat.le_refl _)); clear hb))
            go_ret
            exact ⟨rfl, HB6.out⟩
        · rcases (by omega : eL = 0 ∨ 100 ≤ eL) with rfl | hbig
          · by_cases hM0 : M1 = 0
            · subst hM0
              go_wp2_with (first | (go_at_call 17; refine (HKI.out _ _ HS.out.flds).mono ?_; rintro r w3 ⟨gk, ck, rfl, hb⟩; have ce3 : w3.cell? ⟨be, oe + q, none⟩ = some (.slice Ae 0 ce) := ((below_next HS.out.2.2.2.2.2 hb (Nat.le_refl _)).cell (p := ⟨be, oe + q, none⟩) hbe).trans HCE0.out; have hs3 := hb.size; have HS3 := Lib.hid (HS.out.next hb); have X3 := Lib.hid (XSt.int HS3.out); have ce7 := int_low ce3 (show be < w3.heap.size by omega); unfold ndArr int1 at ce7; clear hb) | (go_at_call 11; refine (HRM.out _ (.inl rfl) _ _ X3.out.nodes).mono ?_; rw [HM1.out]; rintro r w4 ⟨rfl, hb⟩; have X5 := Lib.hid (X3.out.next hb); have c5 := X5.out.c; clear hb) | (at_builtin; refine wpList_append_own _ rfl _ _ 45 rfl (w.heap.size + 1) 24 j0 (.agg #[.slice none 0 0]) 1 24 Tryd.underlying45 hj0 hy0 hy1 hy2 rfl (by decide) _ q _ rfl (X5.out.1.2.2.1.alloc _) ⟨w4.heap.size, 0, none⟩ 1 1 [.slice (some ⟨w3.heap.size, 0, none⟩) 1 1] rfl rfl (new1 w4 24 _) (fun u hu => by rw [List.mem_singleton.1 hu]; rfl) (by unfold maxLen; omega) (by omega) (by have := X5.out.1.size; simp; omega) ?_; intro v6 w6 hown6 hgrow6 _; obtain ⟨g6, c6, rfl⟩ := ownsRow_succ hown6; have HS6 := Lib.hid (X5.out.1.push X5.out.2.1 hown6 hgrow6); clear hown6 hgrow6))
              go_roundw
              case rel => exact ⟨q + 1, _, _, es ++ [([int1], .slice (some ⟨w3.heap.size, 0, none⟩) 1 1)], rfl, by go_num, by omega, HS6, Lib.hid (fun p hp => by
                rcases List.mem_append.1 hp with hp | hp
                · exact HG.out p hp
                · obtain rfl := List.mem_singleton.1 hp
                  exact ⟨HM1.out, .inl rfl⟩)⟩
              case measure => simp [intOf]; omega
            · have hMb : (M1 != 0) = true := by simpa using hM0
              go_wp2_with (first | (go_at_call 17; refine (HKI.out _ _ HS.out.flds).mono ?_; rintro r w3 ⟨gk, ck, rfl, hb⟩; have ce3 : w3.cell? ⟨be, oe + q, none⟩ = some (.slice Ae 0 ce) := ((below_next HS.out.2.2.2.2.2 hb (Nat.le_refl _)).cell (p := ⟨be, oe + q, none⟩) hbe).trans HCE0.out; have hs3 := hb.size; have HS3 := Lib.hid (HS.out.next hb); have X3 := Lib.hid (XSt.int HS3.out); have ce7 := int_low ce3 (show be < w3.heap.size by omega); unfold ndArr int1 at ce7; clear hb) | (go_at_call 11; refine (HRM.out _ (.inl rfl) _ _ X3.out.nodes).mono ?_; rw [HM1.out]; rintro r w4 ⟨rfl, hb⟩; have X5 := Lib.hid (X3.out.next hb); have c5 := X5.out.c; clear hb) | (go_at_call 18; refine (HWK.out _ X5.out.1.2.2.2.2.2).mono ?_; rintro r w6 ⟨rfl, hb⟩; have HB6 := Lib.hid (below_next X5.out.1.2.2.2.2.2 hb (Nat.le_refl _)); clear hb))
              go_ret
              exact ⟨rfl, HB6.out⟩
          · have hpos : 0 < eL := by omega
            by_cases hM0 : M1 = 0
            · subst hM0
              go_wp2_with (first | (go_at_call 17; refine (HKI.out _ _ HS.out.flds).mono ?_; rintro r w3 ⟨gk, ck, rfl, hb⟩; have ce3 : w3.cell? ⟨be, oe + q, none⟩ = some (.slice Ae eL ce) := ((below_next HS.out.2.2.2.2.2 hb (Nat.le_refl _)).cell (p := ⟨be, oe + q, none⟩) hbe).trans HCE0.out; have hs3 := hb.size; have HS3 := Lib.hid (HS.out.next hb); have X3 := Lib.hid (XSt.int HS3.out); have ce7 := int_low ce3 (show be < w3.heap.size by omega); unfold ndArr int1 at ce7; clear hb) | (go_at_call 11; refine (HRM.out _ (.inl rfl) _ _ X3.out.nodes).mono ?_; rw [HM1.out]; rintro r w4 ⟨rfl, hb⟩; have X5 := Lib.hid (X3.out.next hb); have c5 := X5.out.c; clear hb) | (at_builtin; refine wpList_append_own _ rfl _ _ 45 rfl (w.heap.size + 1) 24 j0 (.agg #[.slice none 0 0]) 1 24 Tryd.underlying45 hj0 hy0 hy1 hy2 rfl (by decide) _ q _ rfl (X5.out.1.2.2.1.alloc _) ⟨w4.heap.size, 0, none⟩ 1 1 [.slice (some ⟨w3.heap.size, 0, none⟩) 1 1] rfl rfl (new1 w4 24 _) (fun u hu => by rw [List.mem_singleton.1 hu]; rfl) (by unfold maxLen; omega) (by omega) (by have := X5.out.1.size; simp; omega) ?_; intro v6 w6 hown6 hgrow6 _; obtain ⟨g6, c6, rfl⟩ := ownsRow_succ hown6; have HS6 := Lib.hid (X5.out.1.push X5.out.2.1 hown6 hgrow6); clear hown6 hgrow6))
              go_roundw
              case rel => exact ⟨q + 1, _, _, es ++ [([int1], .slice (some ⟨w3.heap.size, 0, none⟩) 1 1)], rfl, by go_num, by omega, HS6, Lib.hid (fun p hp => by
                rcases List.mem_append.1 hp with hp | hp
                · exact HG.out p hp
                · obtain rfl := List.mem_singleton.1 hp
                  exact ⟨HM1.out, .inl rfl⟩)⟩
              case measure => simp [intOf]; omega
            · have hMb : (M1 != 0) = true := by simpa using hM0
              go_wp2_with (first | (go_at_call 17; refine (HKI.out _ _ HS.out.flds).mono ?_; rintro r w3 ⟨gk, ck, rfl, hb⟩; have ce3 : w3.cell? ⟨be, oe + q, none⟩ = some (.slice Ae eL ce) := ((below_next HS.out.2.2.2.2.2 hb (Nat.le_refl _)).cell (p := ⟨be, oe + q, none⟩) hbe).trans HCE0.out; have hs3 := hb.size; have HS3 := Lib.hid (HS.out.next hb); have X3 := Lib.hid (XSt.int HS3.out); have ce7 := int_low ce3 (show be < w3.heap.size by omega); unfold ndArr int1 at ce7; clear hb) | (go_at_call 11; refine (HRM.out _ (.inl rfl) _ _ X3.out.nodes).mono ?_; rw [HM1.out]; rintro r w4 ⟨rfl, hb⟩; have X5 := Lib.hid (X3.out.next hb); have c5 := X5.out.c; clear hb) | (go_at_call 18; refine (HWK.out _ X5.out.1.2.2.2.2.2).mono ?_; rintro r w6 ⟨rfl, hb⟩; have HB6 := Lib.hid (below_next X5.out.1.2.2.2.2.2 hb (Nat.le_refl _)); clear hb))
              go_ret
              exact ⟨rfl, HB6.out⟩
      · obtain ⟨M1, hM1⟩ : ∃ M1, may [int1] = M1 := ⟨_, rfl⟩
        have HM1 := Lib.hid hM1
        by_cases hM0 : M1 = 0
        · subst hM0
          go_wp2_with (first | (go_at_call 17; refine (HKI.out _ _ HS.out.flds).mono ?_; rintro r w3 ⟨gk, ck, rfl, hb⟩; have hs3 := hb.size; have HS3 := Lib.hid (HS.out.next hb); have X3 := Lib.hid (XSt.int HS3.out); clear hb) | (go_at_call 11; refine (HRM.out _ (.inl rfl) _ _ X3.out.nodes).mono ?_; rw [HM1.out]; rintro r w4 ⟨rfl, hb⟩; have X5 := Lib.hid (X3.out.next hb); have c5 := X5.out.c; clear hb) | (at_builtin; refine wpList_append_own _ rfl _ _ 45 rfl (w.heap.size + 1) 24 j0 (.agg #[.slice none 0 0]) 1 24 Tryd.underlying45 hj0 hy0 hy1 hy2 rfl (by decide) _ q _ rfl (X5.out.1.2.2.1.alloc _) ⟨w4.heap.size, 0, none⟩ 1 1 [.slice (some ⟨w3.heap.size, 0, none⟩) 1 1] rfl rfl (new1 w4 24 _) (fun u hu => by rw [List.mem_singleton.1 hu]; rfl) (by unfold maxLen; omega) (by omega) (by have := X5.out.1.size; simp; omega) ?_; intro v6 w6 hown6 hgrow6 _; obtain ⟨g6, c6, rfl⟩ := ownsRow_succ hown6; have HS6 := Lib.hid (X5.out.1.push X5.out.2.1 hown6 hgrow6); clear hown6 hgrow6))
          go_roundw
          case rel => exact ⟨q + 1, _, _, es ++ [([int1], .slice (some ⟨w3.heap.size, 0, none⟩) 1 1)], rfl, by go_num, by omega, HS6, Lib.hid (fun p hp => by
            rcases List.mem_append.1 hp with hp | hp
            · exact HG.out p hp
            · obtain rfl := List.mem_singleton.1 hp
              exact ⟨HM1.out, .inl rfl⟩)⟩
          case measure => simp [intOf]; omega
        · have hMb : (M1 != 0) = true := by simpa using hM0
          go_wp2_with (first | (go_at_call 17; refine (HKI.out _ _ HS.out.flds).mono ?_; rintro r w3 ⟨gk, ck, rfl, hb⟩; have hs3 := hb.size; have HS3 := Lib.hid (HS.out.next hb); have X3 := Lib.hid (XSt.int HS3.out); clear hb) | (go_at_call 11; refine (HRM.out _ (.inl rfl) _ _ X3.out.nodes).mono ?_; rw [HM1.out]; rintro r w4 ⟨rfl, hb⟩; have X5 := Lib.hid (X3.out.next hb); have c5 := X5.out.c; clear hb) | (go_at_call 18; refine (HWK.out _ X5.out.1.2.2.2.2.2).mono ?_; rintro r w6 ⟨rfl, hb⟩; have HB6 := Lib.hid (below_next X5.out.1.2.2.2.2.2 hb (Nat.le_refl _)); clear hb))
          go_ret
          exact ⟨rfl, HB6.out⟩
    · obtain rfl : q = KL := by omega
      clear HE
      go_upto_region 12 with (go_at_call 17; refine (HKI.out _ _ HS.out.flds).mono ?_; rintro e w3 ⟨gk, ck, rfl, hb⟩; have HS3 := Lib.hid (HS.out.next hb); clear hb)
      have S3d := Lib.hid HS3.out.drew
      have HROW := Lib.hid (made24 w3.drew)
      have HCE := Lib.hid (S3d.out.cells (.cells #[] 24))
      have HONE := Lib.hid S3d.out.one
      have HLE : Hid ((es.map Prod.snd).length = q * 1) := Lib.hid (by rw [List.length_map, S3d.out.2.2.2.1]; omega)
      have HLEN : Hid ((es.map Prod.fst).length = q) := Lib.hid (by rw [List.length_map, S3d.out.2.2.2.1])
      have HGD : Hid (∀ e ∈ es.map Prod.fst, may e = 0 ∧ (e = [int1] ∨ e ∈ ll)) := Lib.hid fun e he => by obtain ⟨p, hp, rfl⟩ := List.mem_map.1 he; exact HG.out p hp
      go_region_held3 (fun W => W.cell? ⟨w.heap.size, 0, none⟩ = some (.int .i64 y.kind) ∧ W.cell? ⟨w.heap.size, 1, none⟩ = some (.int .i64 y.a) ∧ W.cell? ⟨w.heap.size, 2, none⟩ = some (.int .i64 y.b) ∧ W.cell? ⟨w.heap.size, 3, none⟩ = some (.int .i64 y.c) ∧ W.cell? ⟨w.heap.size, 4, none⟩ = some (.int .i64 y.n) ∧ W.cell? ⟨w.heap.size, 5, none⟩ = some (.string y.nm) ∧ W.cell? ⟨w.heap.size, 6, none⟩ = some (.string y.s) ∧ W.cell? ⟨w.heap.size, 7, none⟩ = some (.slice (some ⟨g1, 0, none⟩) 0 c1) ∧ W.cell? ⟨w.heap.size, 8, none⟩ = some (.int .i64 y.pos)) (first | exact nd_cells S3d.out.1 | exact nd_cells (nextAt S3d.out.1) | exact nd_cells S4.out.1 | exact nd_cells S5.out.1 | exact nd_cells S6.out.1 | exact nd_cells S7.out.1 | exact nd_cells S8.out.1) (first
        | (go_at_call 18; refine (HWK.out _ S7.out.2.2.2.2.2).mono ?_; rintro r w8 ⟨rfl, hb⟩; have S8 := Lib.hid (S7.out.next hb); clear hb)
        | (go_at_call 24; refine (HLS.out _ HLEN.out HGD.out _ _ _ N5.out N6.out).mono ?_; rintro r w7 ⟨rfl, hb⟩; have S7 := Lib.hid (S6.out.next hb); clear hb)
        | (go_at_call 27; refine (HJP.out _ HLEN.out HGD.out _ _ _ S4.out.flds X4.out).mono ?_; rintro r w5 ⟨A5, c5, rfl, hn, hb⟩; have S5 := Lib.hid (S4.out.next hb); have N5 := Lib.hid hn; clear hn hb)
        | (refine step_append_own _ rfl _ _ 45 rfl w3.heap.size 24 j0 (.agg #[.slice none 0 0]) 1 24 Tryd.underlying45 hj0 hy0 hy1 hy2 rfl (by decide) _ 0 _ rfl HROW.out ⟨g, 0, none⟩ q k (es.map Prod.snd) rfl HLE.out HCE.out HONE.out (by unfold maxLen; omega) (by omega) (by simp) ?_; intro v4 w4 hown4 hgrow4; have T4 := S3d.out.copy hgrow4 hown4; have S4 := Lib.hid T4.1; have X4 := Lib.hid T4.2; clear T4 hown4 hgrow4)
        | (go_at_call 28; refine (HJR.out _ HLEN.out HGD.out _ _ _ S5.out.flds S5.out.exprs).mono ?_; rintro r w6 ⟨A6, c6, rfl, hn, hb⟩; have S6 := Lib.hid (S5.out.next hb); have N5 := Lib.hid ((N5.out.below hb).mono hb.size); have N6 := Lib.hid hn; clear hn hb))
      all_goals
        go_wp2_with fail
        go_ret
        exact ⟨rfl, S8.out.2.2.2.2.2⟩
end Go.Proofs.YteikpeaakmbihaaDoor.T
