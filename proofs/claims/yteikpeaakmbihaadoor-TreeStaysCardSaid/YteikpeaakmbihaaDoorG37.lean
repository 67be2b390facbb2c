/- Joined by program: PJoin, LNormsA. -/
import Derived.Test.YteikpeaakmbihaaDoorG35
import Derived.Test.YteikpeaakmbihaaDoorG36
import Derived.Test.YteikpeaakmbihaaDoorG34
import Derived.Test.YteikpeaakmbihaaDoorG32
import Derived.Deep.CutRange
import Derived.Deep.DeepCutAuto
import Derived.Deep.RegionLaw
/- Join, the program's. -/
namespace Go.Proofs.YteikpeaakmbihaaDoor.T
open Go.RowKit Go.Shelf
/-- Kids, the program's: a row that may be written. -/
theorem pkids_own (m : Nd) (fv : Value) (W : World) (K : List Int) (hK : kids m = K) (hv : Flds W.heap.size W fv m.l) (hL : m.l.length ≤ 1000000) :
    Calls Tryd.prog 16 #[.agg (ndArr m fv)] W fun e W' => ∃ g c, e = .returned (.slice (some ⟨g, 0, none⟩) K.length c) ∧ KRow W' g K ∧ K.length ≤ c ∧ W.heap.size ≤ g ∧ g < W'.heap.size ∧ Below W.heap.size W W' := by
  subst hK
  refine (pkids_any m fv W (Nat.le_refl _) hv hL).mono ?_
  rintro e W' ⟨g, c, rfl, hi, hb⟩
  have hl := World.ownsRow.lt hi g rfl
  refine ⟨g, c, rfl, KRow.of hi, ?_, hl.1, hl.2, hb⟩
  rcases hi.2 with ⟨h, _⟩ | ⟨g', cap', cur, h, _, _, hle, _⟩
  · cases h
  · cases h; exact hle
theorem mix_all (f : Int → Int) (K : List Int) : mix f K K.length = K.map f := by simp [mix]
theorem res27 (tmps : Array Value) (W : World) (p : Nat) (A : Option Addr) (n c : Nat) (h2 : tmps[4]?.getD undef = .pointer (some ⟨p, 0, none⟩)) (hb : W.cell? ⟨p, 0, none⟩ = some (.slice A n c)) :
    Sem.run Tryd.prog (results Tryd.f27 tmps) W = .ok (.agg #[.slice A n c]) W := by
  simp [results, Tryd.results27, go_sem, h2, hb]
theorem join_ret {N N0 : List Nd} {y : Nd} {J : List Int} {cx : Array Value} {w W : World} {u : Value} {q f g8 c8 : Nat} {tmps : Array Value} (h : JSt (N0 ++ [y]) J cx w W (.slice (some ⟨g8, 0, none⟩) (f + 1) c8) u q) (hN : N = N0 ++ [y]) (hf : N0.length = f)
    (hr : Sem.run Tryd.prog (results Tryd.f27 tmps) (W.setCell ⟨w.heap.size + 1, 0, none⟩ (.slice (some ⟨g8, 0, none⟩) (f + 1) c8)) = .ok (.agg #[.slice (some ⟨g8, 0, none⟩) (f + 1) c8]) (W.setCell ⟨w.heap.size + 1, 0, none⟩ (.slice (some ⟨g8, 0, none⟩) (f + 1) c8))) :
    bodyPost Tryd.prog Tryd.f27 (NPost N w) Exit.ret ⟨tmps, []⟩ (W.setCell ⟨w.heap.size + 1, 0, none⟩ (.slice (some ⟨g8, 0, none⟩) (f + 1) c8)) := by
  obtain ⟨⟨ps, hp, ho⟩, _, _, _, _, hb⟩ := h
  have hl : N.length = f + 1 := by rw [hN, List.length_append, hf]; rfl
  refine bodyPost_ret hr rfl ⟨_, _, ps, by rw [hl], by rw [hp, hN], ?_, hb.setCell (p := ⟨w.heap.size + 1, 0, none⟩) (by show w.heap.size ≤ w.heap.size + 1; omega) _⟩
  rw [hl]
  exact ownN_low (ownN_heap ho fun g hg _ => set_far _ _ _ _ _ (by omega)) (by omega)
theorem rown {B n : Nat} {W : World} {v : Value} {ps : List (Nd × Value)} (h : OwnN B W v ps) (hn : ps.length = n) (o : Obj) : (W.alloc o).ownsRow B 27 9 v n (nCells ps) := by subst hn; exact h.1.alloc o
set_option maxRecDepth 100000 in
set_option maxHeartbeats 16000000 in
theorem pjoin_any (x : Nd) (ll : List (List Nd)) (FX : Option Addr) (fx cl LL be oe : Nat) (w : World) (hF : Flds w.heap.size w (.slice FX x.l.length fx) x.l) (HX : Clonable x) (HLL : Hid (ll.length = LL)) (h0 : 0 < LL) (hL1 : LL ≤ 1000) (hbe : be < w.heap.size)
    (HE : Hid (∀ j e, ll[j]? = some e → ∃ Ae ce, w.cell? ⟨be, oe + j, none⟩ = some (.slice Ae e.length ce) ∧ Nodes w.heap.size w (.slice Ae e.length ce) e))
    (HC : Hid (∀ e ∈ ll, ∀ m ∈ e, Clonable m)) (HB : Hid (∀ e ∈ ll, ∀ m ∈ e, ∀ k ∈ kids m, 0 ≤ k ∧ k ≤ 1000000)) (HT : Hid (∀ q, q ≤ LL → (jn (ll.take q)).1.length ≤ 100000)) (HT2 : Hid (∀ q e, ll[q]? = some e → (jn (ll.take q)).1.length + e.length ≤ 100000)) (HKX : Hid ((kids x).length = LL)) :
    Calls Tryd.prog 27 #[.agg (ndArr x (.slice FX x.l.length fx)), .slice (some ⟨be, oe, none⟩) LL cl] w (NPost (joinN x ll) w) := by
  obtain ⟨i0, hi0, hz0, hz1, hz2⟩ := info_parts intInfo
  obtain ⟨j0, hj0, hy0, hy1, hy2⟩ := info_parts ndInfo
  have HFX := Lib.hid hF
  clear hF
  have HS0 : Hid (JSt [] [] (ndArr x (.slice FX x.l.length fx)) w (((w.alloc (.cells (ndArr x (.slice FX x.l.length fx)) 27)).alloc (.cells #[.slice none 0 0] 24)).alloc (.cells #[.slice none 0 0] 24)) (.slice none 0 0) (.slice none 0 0) 0) := Lib.hid
    ⟨⟨[], rfl, ownN_nil _ _⟩, World.ownsRow_nil _ _ _ _, nextAt (nextAt (newAt rfl)), nextAt (newAt (by simp)), newAt (by simp), (((Below.refl w.heap.size w).alloc (Nat.le_refl _) _).alloc (by simp) _).alloc (by simp; omega) _⟩
  go_enter Tryd.func27, Tryd.ntmps27
  go_wp2
  go_loopw [6, 16] (fun s6 s16 wr => ∃ (q : Nat) (va : Value) (N0 : List Nd) (J0 : List Int), s16 = .int .i64 (q : Int) ∧ q ≤ LL ∧ Hid (jn (ll.take q) = (N0, J0)) ∧ Hid (JSt N0 J0 (ndArr x (.slice FX x.l.length fx)) w wr va s6 q)) (fun _ i _ => LL - (intOf i).toNat)
  case atStart => exact ⟨0, _, [], [], rfl, Nat.zero_le _, Lib.hid rfl, HS0⟩
  case round =>
    obtain ⟨q, va, N0, J0, rfl, hq, HJ, HS⟩ := hrel
    obtain ⟨f, hf⟩ : ∃ f, N0.length = f := ⟨_, rfl⟩
    obtain ⟨ps0, hp0, ho0⟩ := HS.out.1
    obtain ⟨A0, k0, rfl⟩ := own_slice_len ho0 hp0 rfl hf
    obtain ⟨A6, k6, rfl, hn6⟩ := row_slice HS.out.2.1
    have hwr := HS.out.size
    have hfm : f ≤ 100000 := by have := HT.out q hq; rw [HJ.out] at this; simp only at this; omega
    have HF0 := Lib.hid hf
    have HP0 := Lib.hid hp0
    have HO0 := Lib.hid ho0
    clear hp0 ho0 hn6 hf
    by_cases hlt : q < LL
    · obtain ⟨e, he⟩ : ∃ e, ll[q]? = some e := ⟨_, List.getElem?_eq_getElem (by rw [HLL.out]; exact hlt)⟩
      obtain ⟨Ae, ce, hce, hne⟩ := HE.out q e he
      obtain ⟨eL, heL⟩ : ∃ eL, e.length = eL := ⟨_, rfl⟩
      have hf1 := HT2.out q e he
      rw [HJ.out] at hf1
      simp only at hf1
      rw [HF0.out, heL] at hf1
      rw [heL] at hce hne
      have c1 : wr.cell? ⟨be, oe + q, none⟩ = some (.slice Ae eL ce) := (HS.out.2.2.2.2.2.cell (p := ⟨be, oe + q, none⟩) hbe).trans hce
      have HNE := Lib.hid hne
      have HCE : Hid (∀ m ∈ e, Clonable m) := Lib.hid (HC.out e (List.mem_of_getElem? he))
      have HBE : Hid (∀ m ∈ e, ∀ k ∈ kids m, 0 ≤ k ∧ k ≤ 1000000) := Lib.hid (HB.out e (List.mem_of_getElem? he))
      have HJ1 : Hid (jn (ll.take (q + 1)) = (N0 ++ e.map (sh f), J0 ++ [((f + eL : Nat) : Int) - 1])) := Lib.hid (by rw [take_snoc _ _ _ he, jn_snoc, HJ.out, jstep]; simp only; rw [HF0.out, heL])
      have ca := fun o => HS.out.ca o
      have HS1 : Hid (JSt N0 J0 (ndArr x (.slice FX x.l.length fx)) w (wr.alloc (.cells #[.slice Ae eL ce] 24)) (.slice A0 f k0) (.slice A6 q k6) q) := Lib.hid (HS.out.next ((Below.refl wr.heap.size wr).alloc (Nat.le_refl _) (.cells #[.slice Ae eL ce] 24)))
      have HEL := Lib.hid heL
      clear he hce hne heL
      go_wp2
      go_loopw [26] (fun s26 w2 => ∃ (j : Nat) (vb : Value), s26 = .int .i64 (j : Int) ∧ j ≤ eL ∧ Hid (JSt (N0 ++ (e.take j).map (sh f)) J0 (ndArr x (.slice FX x.l.length fx)) w w2 vb (.slice A6 q k6) q)) (fun i _ => eL - (intOf i).toNat)
      case atStart => exact ⟨0, _, rfl, Nat.zero_le _, Lib.hid (by simpa using HS1.out)⟩
      case round =>
        obtain ⟨j, vb, rfl, hj, HS2⟩ := hrel
        obtain ⟨w2, rfl⟩ : ∃ w2, w2 = wr := ⟨_, rfl⟩
        obtain ⟨ps2, hp2, ho2⟩ := HS2.out.1
        have hn2 : ps2.length = f + j := by
          have := congrArg List.length hp2
          rw [List.length_map, List.length_append, List.length_map, List.length_take, HF0.out] at this
          have := HEL.out; omega
        obtain ⟨A2, k2, rfl⟩ : ∃ A c, vb = .slice A (f + j) c := by
          obtain ⟨A, c, h⟩ := own_slice ho2
          exact ⟨A, c, by rw [h, hn2]⟩
        have hw2 := HS2.out.size
        have HP2 := Lib.hid hp2
        have HO2 := Lib.hid ho2
        have HN2 := Lib.hid hn2
        clear hp2 ho2
        by_cases hlt2 : j < eL
        · obtain ⟨m, hm⟩ : ∃ m, e[j]? = some m := ⟨_, List.getElem?_eq_getElem (by rw [HEL.out]; exact hlt2)⟩
          obtain ⟨bq, oq, rfl, hbq, hnd⟩ : ∃ b o, Ae = some (⟨b, o, none⟩ : Addr) ∧ b < w.heap.size ∧ NdsAt w.heap.size w b o e := by
            obtain ⟨_, _, e1, _, _, hqq⟩ := HNE.out
            obtain ⟨b, o, h1, h2, h3⟩ := hqq (by rw [HEL.out]; omega)
            cases e1
            exact ⟨b, o, h1, h2, h3⟩
          have hBw2 : Below w.heap.size w w2 := HS2.out.2.2.2.2.2
          obtain ⟨fv, hfl, m0, m1, m2, m3, m4, m5, m6, m7, m8⟩ := (NdsAt.below hnd hBw2 hbq) j m hm
          have hcm := HCE.out m (List.mem_of_getElem? hm)
          have HFL : Hid (∀ W, Below w2.heap.size w2 W → Flds W.heap.size W fv m.l) := Lib.hid fun W hb => ((hfl.mono (by omega)).below hb).mono hb.size
          obtain ⟨FA, fc, rfl, _⟩ := hfl
          have hkl : (kids m).length ≤ 1000003 := by have := kids_len m; have := hcm.2.2.1; omega
          obtain ⟨K, hK⟩ : ∃ K, kids m = K := ⟨_, rfl⟩
          rw [hK] at hkl
          have HKB : Hid (∀ k ∈ K, 0 ≤ k ∧ k ≤ 1000000) := Lib.hid (by rw [← hK]; exact HBE.out m (List.mem_of_getElem? hm))
          obtain ⟨KL, hKL⟩ : ∃ KL, K.length = KL := ⟨_, rfl⟩
          rw [hKL] at hkl
          have hal : Below w2.heap.size w2 (w2.alloc (.cells (ndArr m (.slice FA m.l.length fc)) 27)) := (Below.refl _ w2).alloc (Nat.le_refl _) _
          have HKC : Hid (Calls Tryd.prog 16 #[.agg #[.int .i64 m.kind, .int .i64 m.a, .int .i64 m.b, .int .i64 m.c, .int .i64 m.n, .string m.nm, .string m.s, .slice FA m.l.length fc, .int .i64 m.pos]] (w2.alloc (.cells (ndArr m (.slice FA m.l.length fc)) 27)) fun e W' => ∃ g c, e = .returned (.slice (some ⟨g, 0, none⟩) KL c) ∧ KRow W' g K ∧ KL ≤ c ∧ w2.heap.size + 1 ≤ g ∧ g < W'.heap.size ∧ Below (w2.heap.size + 1) (w2.alloc (.cells (ndArr m (.slice FA m.l.length fc)) 27)) W') := Lib.hid (by
            have h := pkids_own m _ _ K hK (HFL.out _ hal) hcm.2.2.1
            rw [hKL] at h
            simp only [World.size_alloc] at h
            exact h)
          have HWI : Hid (∀ (W : World) (g c : Nat), Below w2.heap.size w2 W → Row0 W g (K.map (· + (f : Int))) → g < W.heap.size → KL ≤ c → Calls Tryd.prog 47 #[.agg #[.int .i64 m.kind, .int .i64 m.a, .int .i64 m.b, .int .i64 m.c, .int .i64 m.n, .string m.nm, .string m.s, .slice FA m.l.length fc, .int .i64 m.pos], .slice (some ⟨g, 0, none⟩) KL c] W fun e W' => ∃ Ay ny ky, e = .returned (.agg #[.int .i64 (sh f m).kind, .int .i64 (sh f m).a, .int .i64 (sh f m).b, .int .i64 (sh f m).c, .int .i64 (sh f m).n, .string (sh f m).nm, .string (sh f m).s, .slice Ay ny ky, .int .i64 (sh f m).pos]) ∧ OwnF W.heap.size W' (.slice Ay ny ky) (sh f m).l ∧ Below W.heap.size W W') := Lib.hid fun W g c hb hr hg hc => by
            have h := with_any m (.slice FA m.l.length fc) (K.map (· + (f : Int))) g c W (HFL.out W hb) (by rw [List.length_map, hK]) hr hg (by rw [List.length_map, hKL]; exact hc) hcm
            rw [List.length_map, hKL] at h
            refine Calls.mono h ?_
            rintro e W' ⟨A, c', rfl, h1, h2⟩
            have e1 : sh f m = wk m (K.map (· + (f : Int))) := by rw [sh, hK]
            rw [e1]
            exact ⟨A, _, c', rfl, h1, h2⟩
          have HEJ : Hid ((e.take (j + 1)).map (sh f) = (e.take j).map (sh f) ++ [sh f m]) := Lib.hid (by rw [take_snoc _ _ _ hm, List.map_append]; rfl)
          have HKL := Lib.hid hKL
          have HAL := Lib.hid hal
          obtain ⟨y, hy⟩ : ∃ y, sh f m = y := ⟨_, rfl⟩
          rw [hy] at HWI HEJ
          clear hm hnd hcm hK hKL hal hy
          go_wp2_with (go_at_call 16; refine HKC.out.mono ?_; rintro e1 w3 ⟨gk, ck, rfl, hkr, hck, hgk, hgl, hb3⟩; have KR3 := Lib.hid hkr; have B3 := Lib.hid hb3; clear hkr hb3)
          go_loopw [34] (fun s34 w4 => ∃ r : Nat, s34 = .int .i64 (r : Int) ∧ r ≤ KL ∧ Hid (KRow w4 gk (mix (· + (f : Int)) K r)) ∧ Hid (Below (w2.heap.size + 1) (w2.alloc (.cells (ndArr m (.slice FA m.l.length fc)) 27)) w4) ∧ gk < w4.heap.size) (fun i _ => KL - (intOf i).toNat)
          case atStart => exact ⟨0, rfl, Nat.zero_le _, Lib.hid (by simpa [mix] using KR3.out), B3, hgl⟩
          case round =>
            obtain ⟨r, rfl, hr, KR, B4, hgl4⟩ := hrel
            obtain ⟨w4, rfl⟩ : ∃ w4, w4 = wr := ⟨_, rfl⟩
            by_cases hlt4 : r < KL
            · obtain ⟨kz, hkz⟩ : ∃ kz, K[r]? = some kz := ⟨_, List.getElem?_eq_getElem (by rw [HKL.out]; exact hlt4)⟩
              have hkb := HKB.out kz (List.mem_of_getElem? hkz)
              have z1 := KR.out.row _ _ (mix_at (f := (· + (f : Int))) hkz)
              have f1 := KR.out.frozen r
              have HKR : Hid (KRow (w4.setCell ⟨gk, r, none⟩ (.int .i64 (kz + (f : Int)))) gk (mix (· + (f : Int)) K (r + 1))) := Lib.hid (by
                have h := KR.out.set (j := r) (by rw [mix_len, HKL.out]; exact hlt4) (kz + (f : Int))
                rw [mix_step (f := (· + (f : Int))) hkz] at h
                exact h)
              clear hkz
              go_wp2_with fail
              go_roundw
              case rel => exact ⟨r + 1, by go_num, by omega, HKR, Lib.hid (B4.out.setCell (p := ⟨gk, r, none⟩) (by show w2.heap.size + 1 ≤ gk; omega) _), by simpa using hgl4⟩
              case measure => simp [intOf]; omega
            · obtain rfl : r = KL := by omega
              have HRW : Hid (Row0 w4 gk (K.map (· + (f : Int)))) := Lib.hid (by
                have h := KR.out.row
                rw [← HKL.out, mix_all] at h
                exact h)
              have hB24 : Below w2.heap.size w2 w4 := HAL.out.trans (B4.out.mono (by omega))
              have HB24 := Lib.hid hB24
              have HS4 := Lib.hid (HS2.out.next hB24)
              have hmb : w4.heap[w2.heap.size]? = some (.cells (ndArr m (.slice FA m.l.length fc)) 27 (0, 0)) := (B4.out.block w2.heap.size (by omega)).trans (newAt rfl)
              obtain ⟨q0, q1, q2, q3, q4, q5, q6, q7, q8⟩ := nd_cells hmb
              have c4 := HS4.out.c
              have HO4 := Lib.hid (ownN_grow HO2.out (grown_of hB24))
              clear hB24 hmb
              go_wp2_with fail
              go_region_law (first
                | (refine step_append_own _ rfl _ _ 22 rfl (w.heap.size + 3) 27 j0 (.agg #[.int .i64 0, .int .i64 0, .int .i64 0, .int .i64 0, .int .i64 0, .string ⟨#[]⟩, .string ⟨#[]⟩, .slice none 0 0, .int .i64 0]) 9 104 Tryd.underlying22 hj0 hy0 hy1 hy2 rfl (by decide) _ (f + j) _ rfl HR5.out ⟨w5.heap.size, 0, none⟩ 1 1 ((ndArr y (.slice Ay ny ky)).toList) rfl rfl HC5.out (nd_one _ _ _ _) (by unfold maxLen; omega) (by omega) (by simp; omega) ?_; intro v8 w8 hown8 hgrow8; obtain ⟨g8, c8, rfl⟩ := ownsRow_succ hown8; have HE8 := Lib.hid (HS4.out.drew.node HP2.out HO4d.out HN2.out HF5.out HB5.out hown8 hgrow8); have c8' := (Blk_cell HE8.out.1 0).trans rfl; have f8 := Blk_frozen HE8.out.1 0; clear hown8 hgrow8)
                | (go_simp; go_at_call 47; refine (HWI.out _ _ _ HB24.out.drew (Row0.drew HRW.out) hgl4 hck).mono ?_; rintro e1 w5 ⟨Ay, ny, ky, rfl, hf5, hb5⟩; have HF5 := Lib.hid hf5; have HB5 := Lib.hid hb5; have HO4d := Lib.hid (ownN_grow HO4.out (grown_of (Below.refl w4.heap.size w4).drew)); have HR5 : Hid ((w5.alloc (.cells (ndArr y (.slice Ay ny ky)) 27)).ownsRow (w.heap.size + 3) 27 9 (.slice A2 (f + j) k2) (f + j) (nCells ps2)) := Lib.hid (rown (ownN_grow HO4d.out (grown_of hb5)) HN2.out _); have HC5 := Lib.hid (new_cellsT w5 27 (ndArr y (.slice Ay ny ky)).toList w5.heap.size rfl); have HS5 := Lib.hid (HS4.out.drew.next hb5); have c5 := HS5.out.c; have c5a := fun o => HS5.out.ca o; have hs5 : w4.heap.size ≤ w5.heap.size := hb5.size; clear hf5 hb5))
              all_goals
                go_wp2_with fail
                go_roundw
                case rel =>
                  refine ⟨j + 1, .slice (some ⟨g8, 0, none⟩) (f + j + 1) c8, by go_num, by omega, Lib.hid ?_⟩
                  rw [HEJ.out, ← List.append_assoc]
                  exact HE8.out.2
                case measure => simp [intOf]; omega
        · obtain rfl : j = eL := by omega
          obtain ⟨fe, hfe⟩ : ∃ fe, f + j = fe := ⟨_, rfl⟩
          have HTK : Hid ((e.take j).map (sh f) = e.map (sh f)) := Lib.hid (by rw [List.take_of_length_le (by have := HEL.out; omega)])
          have HS3 : Hid (JSt (N0 ++ e.map (sh f)) J0 (ndArr x (.slice FX x.l.length fx)) w w2 (.slice A2 fe k2) (.slice A6 q k6) q) := Lib.hid (by rw [← hfe, ← HTK.out]; exact HS2.out)
          have HJ2 : Hid (jn (ll.take (q + 1)) = (N0 ++ e.map (sh f), J0 ++ [(fe : Int) - 1])) := Lib.hid (by rw [HJ1.out, hfe])
          have hfe2 : fe ≤ 100000 := by omega
          have c22 := HS3.out.c
          have hsw := HS3.out.size
          clear HS2 hfe HP2 HO2
          go_wp2_with (at_builtin; refine wpList_append_own _ rfl _ _ 34 rfl (w.heap.size + 3) 3 i0 (.int .i64 0) 1 8 Tryd.underlying34 hi0 hz0 hz1 hz2 rfl (by decide) _ q _ rfl (HS3.out.2.1.alloc _) ⟨w2.heap.size, 0, none⟩ 1 1 [.int .i64 ((fe : Int) - 1)] rfl rfl (new1 w2 3 _) (fun u hu => by rw [List.mem_singleton.1 hu]; rfl) (by unfold maxLen; omega) (by omega) (by simp; omega) ?_; intro v6 w6 hown6 hgrow6 _; obtain ⟨g6, c6, rfl⟩ := ownsRow_succ hown6; have HS6 := Lib.hid (HS3.out.root hown6 hgrow6); clear hown6 hgrow6)
          go_roundw
          case rel => exact ⟨q + 1, _, _, _, by go_num, by omega, HJ2, HS6⟩
          case measure => simp [intOf]; omega
    · obtain rfl : q = LL := by omega
      have hnl : ps0.length = f := by have := congrArg List.length HP0.out; rw [List.length_map, HF0.out] at this; exact this
      have htk : ll.take q = ll := List.take_of_length_le (by rw [HLL.out]; exact Nat.le_refl _)
      have hj := HJ.out
      rw [htk] at hj
      have hjl : J0.length = q := by have := (jn_len ll).2; rw [hj, HLL.out] at this; exact this
      obtain ⟨g6, cap6, he6, hg6, hg6l⟩ := row_some HS.out.2.1 (by intro h; injection h; omega)
      have hcap : q ≤ k6 := by
        rcases HS.out.2.1.2 with ⟨h, _⟩ | ⟨_, _, _, h, _, _, hle, _⟩
        · injection h; omega
        · injection h with _ _ h; omega
      injection he6 with e1 e2 e3
      subst e1 e3
      have HRR : Hid (Row0 wr g6 J0) := Lib.hid (ints_cells (B := w.heap.size + 3) (c := k6) (by unfold Ints; rw [hjl]; exact HS.out.2.1))
      have HJN : Hid (joinN x ll = N0 ++ [wk x J0]) := Lib.hid (by rw [joinN, hj])
      obtain ⟨y, hy⟩ : ∃ y, wk x J0 = y := ⟨_, rfl⟩
      have HWX : Hid (∀ (W : World), Below wr.heap.size wr W → Calls Tryd.prog 47 #[.agg #[.int .i64 x.kind, .int .i64 x.a, .int .i64 x.b, .int .i64 x.c, .int .i64 x.n, .string x.nm, .string x.s, .slice FX x.l.length fx, .int .i64 x.pos], .slice (some ⟨g6, 0, none⟩) q k6] W fun e W' => ∃ Ay ny ky, e = .returned (.agg #[.int .i64 y.kind, .int .i64 y.a, .int .i64 y.b, .int .i64 y.c, .int .i64 y.n, .string y.nm, .string y.s, .slice Ay ny ky, .int .i64 y.pos]) ∧ OwnF W.heap.size W' (.slice Ay ny ky) y.l ∧ Below W.heap.size W W') := Lib.hid fun W hb => by
        have hbw := below_next HS.out.2.2.2.2.2 hb (Nat.le_refl _)
        have h := with_any x (.slice FX x.l.length fx) J0 g6 k6 W ((HFX.out.below hbw).mono hbw.size) (by rw [hjl]; exact HKX.out.symm) (fun jj z hz => (hb.cell (p := ⟨g6, jj, none⟩) hg6l).trans (HRR.out jj z hz)) (Nat.lt_of_lt_of_le hg6l hb.size) (by rw [hjl]; exact hcap) HX
        rw [hjl] at h
        refine Calls.mono h ?_
        rintro e W' ⟨A, c', rfl, h1, h2⟩
        rw [hy] at h1 ⊢
        exact ⟨A, _, c', rfl, h1, h2⟩
      rw [hy] at HJN
      obtain ⟨q0, q1, q2, q3, q4, q5, q6, q7, q8⟩ := nd_cells HS.out.2.2.1
      have c4 := HS.out.c
      have HNL := Lib.hid hnl
      clear hnl htk hj hjl hy
      go_wp2_with fail
      go_region_law (first
        | (refine step_append_own _ rfl _ _ 22 rfl (w.heap.size + 3) 27 j0 (.agg #[.int .i64 0, .int .i64 0, .int .i64 0, .int .i64 0, .int .i64 0, .string ⟨#[]⟩, .string ⟨#[]⟩, .slice none 0 0, .int .i64 0]) 9 104 Tryd.underlying22 hj0 hy0 hy1 hy2 rfl (by decide) _ f _ rfl HR5.out ⟨w5.heap.size, 0, none⟩ 1 1 ((ndArr y (.slice Ay ny ky)).toList) rfl rfl HC5.out (nd_one _ _ _ _) (by unfold maxLen; omega) (by omega) (by simp; omega) ?_; intro v8 w8 hown8 hgrow8; obtain ⟨g8, c8, rfl⟩ := ownsRow_succ hown8; have HE8 := Lib.hid (HS.out.drew.node HP0.out HO4d.out HNL.out HF5.out HB5.out hown8 hgrow8); have c8' := (Blk_cell HE8.out.1 0).trans rfl; have f8 := Blk_frozen HE8.out.1 0; have c9 := HE8.out.2.c; have c9' := (Blk_cell HE8.out.2.2.2.2.1 0).trans rfl; have f9 := Blk_frozen HE8.out.2.2.2.2.1 0; clear hown8 hgrow8)
        | (go_simp; go_at_call 47; refine (HWX.out _ (Below.refl _ _).drew).mono ?_; rintro e1 w5 ⟨Ay, ny, ky, rfl, hf5, hb5⟩; have HF5 := Lib.hid hf5; have HB5 := Lib.hid hb5; have HO4d := Lib.hid (ownN_grow HO0.out (grown_of (Below.refl wr.heap.size wr).drew)); have HR5 : Hid ((w5.alloc (.cells (ndArr y (.slice Ay ny ky)) 27)).ownsRow (w.heap.size + 3) 27 9 (.slice A0 f k0) f (nCells ps0)) := Lib.hid (rown (ownN_grow HO4d.out (grown_of hb5)) HNL.out _); have HC5 := Lib.hid (new_cellsT w5 27 (ndArr y (.slice Ay ny ky)).toList w5.heap.size rfl); have HS5 := Lib.hid (HS.out.drew.next hb5); have c5 := HS5.out.c; have c5a := fun o => HS5.out.ca o; have hs5 : wr.heap.size ≤ w5.heap.size := hb5.size; clear hf5 hb5))
      all_goals
        go_wp2_with fail
        exact join_ret HE8.out.2 HJN.out HF0.out (res27 _ _ (w.heap.size + 1) _ _ _ rfl ((Blk_cell (blk_put (j := 0) (v := .slice (some ⟨g8, 0, none⟩) (f + 1) c8) HE8.out.2.2.2.2.1) 0).trans rfl))
end Go.Proofs.YteikpeaakmbihaaDoor.T
/- TreeNorms: what it calls, in the words of its walk. -/
namespace Go.Proofs.YteikpeaakmbihaaDoor.T
open Go.RowKit Go.Shelf
theorem sn_self (x : Nd) : sn x x = true := by
  have h : lf x.l x.l = true := by
    unfold lf
    rw [les_yes (fun j f g h1 h2 => by rw [h1] at h2; cases h2; simp [fe]) rfl]
    simp
  simp [sn, h]
theorem ln_self (l : List Nd) : ln l l = true := by
  unfold ln
  rw [lns_yes (fun j x y h1 h2 => by rw [h1] at h2; cases h2; exact sn_self x) rfl]
  simp
/-- What Parents answers. -/
def PR (l : List Nd) (W : World) (v : Value) : Prop := (may l ≠ 0 ∧ v = .slice none 0 0) ∨ (may l = 0 ∧ ∃ (U : List Int) (g cg : Nat), v = .slice (some ⟨g, 0, none⟩) l.length cg ∧ Rw W g U ∧ U.length = l.length ∧ U[l.length - 1]? = some (-1) ∧ ∀ (i : Nat) (x : Nd) (k : Int), l[i]? = some x → k ∈ kids x → U[k.toNat]? = some (i : Int))
theorem PR.next {l : List Nd} {W W' : World} {v : Value} (h : PR l W v) (hb : Below W.heap.size W W') : PR l W' v := by
  rcases h with h | ⟨h0, U, g, cg, h1, h2, h3⟩
  · exact .inl h
  · exact .inr ⟨h0, U, g, cg, h1, h2.next hb, h3⟩
theorem parents_law (l : List Nd) (A : Option Addr) (c : Nat) (w : World) (hK : Kws w.heap.size w) (hN : Nodes w.heap.size w (.slice A l.length c) l) (HS : ∀ x ∈ l, Small x) :
    Calls Tryd.prog 21 #[.agg #[.slice A l.length c]] w fun e w' => ∃ v, e = .returned v ∧ PR l w' v ∧ Below w.heap.size w w' := by
  by_cases hm : may l = 0
  · refine (parents_ok l _ c A rfl w hK hN HS hm).mono ?_
    rintro e w' ⟨U, g, cg, rfl, h1, h2, h3, h4, hb⟩
    exact ⟨_, rfl, .inr ⟨hm, U, g, cg, rfl, h1, h2, h3, h4⟩, hb⟩
  · refine (parents_bad l _ w hK hN HS hm).mono ?_
    rintro e w' ⟨rfl, hb⟩
    exact ⟨_, rfl, .inl ⟨hm, rfl⟩, hb⟩
/-- A box with an Expr in it. -/
def Bx (W : World) (p : Nat) (A : Option Addr) (k : Nat) (N : List Nd) : Prop := W.heap[p]? = some (.cells #[.slice A N.length k] 24 (0, 0)) ∧ Nodes W.heap.size W (.slice A N.length k) N
section
variable {w W W' : World} {p : Nat} {A : Option Addr} {k : Nat} {N : List Nd}
theorem Bx.next (h : Bx W p A k N) (hb : Below W.heap.size W W') : Bx W' p A k N := ⟨blk_next h.1 hb, nodes_next h.2 hb⟩
theorem Bx.c (h : Bx W p A k N) : W.cell? ⟨p, 0, none⟩ = some (.slice A N.length k) := (Blk_cell h.1 0).trans rfl
theorem Bx.new (h : Nodes W.heap.size W (.slice A N.length k) N) : Bx (W.alloc (.cells #[.slice A N.length k] 24)) W.heap.size A k N := ⟨newAt rfl, nodes_next h ((Below.refl _ W).alloc (Nat.le_refl _) _)⟩
end
/-- Two trees in boxes, of the call's own. -/
theorem two_boxes {w W2 : World} {o1 o2 : Value} {ps1 ps2 : List (Nd × Value)} {A C : Option Addr} {ka kc : Nat} {la lc : List Nd} (hb : Below w.heap.size w W2) (h1 : OwnN (w.heap.size + 2) W2 (.slice A la.length ka) ps1) (h2 : OwnN (w.heap.size + 2) W2 (.slice C lc.length kc) ps2) (e1 : ps1.map Prod.fst = la) (e2 : ps2.map Prod.fst = lc)
    (x1 : W2.heap[w.heap.size]? = some (.cells #[o1] 24 (0, 0))) (x2 : W2.heap[w.heap.size + 1]? = some (.cells #[o2] 24 (0, 0))) :
    BSt w ((W2.setCell ⟨w.heap.size, 0, none⟩ (.slice A la.length ka)).setCell ⟨w.heap.size + 1, 0, none⟩ (.slice C lc.length kc)) A ka la.length la C kc lc.length lc := by
  have hh : ∀ g, w.heap.size + 2 ≤ g → g < W2.heap.size → ((W2.setCell ⟨w.heap.size, 0, none⟩ (.slice A la.length ka)).setCell ⟨w.heap.size + 1, 0, none⟩ (.slice C lc.length kc)).heap[g]? = W2.heap[g]? := fun g hg _ => by
    rw [set_far _ _ _ _ _ (by omega), set_far _ _ _ _ _ (by omega)]
  have n1 := own_nodes (ownN_heap h1 hh)
  have n2 := own_nodes (ownN_heap h2 hh)
  rw [e1] at n1
  rw [e2] at n2
  refine ⟨(hb.setCell (p := ⟨w.heap.size, 0, none⟩) (Nat.le_refl _) _).setCell (p := ⟨w.heap.size + 1, 0, none⟩) (by show w.heap.size ≤ w.heap.size + 1; omega) _, n1, n2, ?_, ?_⟩
  · rw [set_far _ _ _ _ _ (by omega)]; exact blk_put (j := 0) (v := .slice A la.length ka) x1
  · exact blk_put (j := 0) (v := .slice C lc.length kc) ((set_far _ _ _ _ _ (by omega)).trans x2)
/-- What stays through the law's walk, behind the calls. -/
def ESt (w W : World) (A : Option Addr) (ka : Nat) (la : List Nd) (C : Option Addr) (kc : Nat) (lb : List Nd) (px : Nat) (Ax : Option Addr) (kx : Nat) (N1 : List Nd) (py : Nat) (Ay : Option Addr) (ky : Nat) (N2 : List Nd) (pv : Value) : Prop :=
  BSt w W A ka la.length la C kc lb.length lb ∧ Bx W px Ax kx N1 ∧ Bx W py Ay ky N2 ∧ PR la W pv
section
variable {w W W' : World} {A C Ax Ay : Option Addr} {ka kc px kx py ky : Nat} {la lb N1 N2 : List Nd} {pv : Value}
theorem ESt.next (h : ESt w W A ka la C kc lb px Ax kx N1 py Ay ky N2 pv) (hb : Below W.heap.size W W') : ESt w W' A ka la C kc lb px Ax kx N1 py Ay ky N2 pv := ⟨h.1.next hb, h.2.1.next hb, h.2.2.1.next hb, h.2.2.2.next hb⟩
theorem ESt.drew (h : ESt w W A ka la C kc lb px Ax kx N1 py Ay ky N2 pv) : ESt w W.drew A ka la C kc lb px Ax kx N1 py Ay ky N2 pv := h.next (Below.refl _ _).drew
end
end Go.Proofs.YteikpeaakmbihaaDoor.T
