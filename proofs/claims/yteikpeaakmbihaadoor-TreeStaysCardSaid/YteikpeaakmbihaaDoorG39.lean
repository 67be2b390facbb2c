/- Joined by program: RJoin, TStayA, TStayB. -/
import Derived.Test.YteikpeaakmbihaaDoorG35
import Derived.Test.YteikpeaakmbihaaDoorG36
/- Join, the document's. -/
namespace Go.Proofs.YteikpeaakmbihaaDoor.T
open Go.RowKit Go.Shelf
/-- Where the document's Join stands. -/
def RSt (N : List Nd) (J : List Int) (cx : Array Value) (w W : World) (v u : Value) (q : Nat) : Prop :=
  (∃ ps, ps.map Prod.fst = N ∧ OwnN (w.heap.size + 2) W v ps) ∧ W.ownsRow (w.heap.size + 2) 3 1 u q (J.map (Value.int .i64)) ∧ W.heap[w.heap.size]? = some (.cells cx 27 (0, 0)) ∧ W.heap[w.heap.size + 1]? = some (.cells #[.slice none 0 0] 24 (0, 0)) ∧ Below w.heap.size w W
section
variable {N : List Nd} {J : List Int} {cx : Array Value} {w W W' : World} {v v2 u u2 : Value} {q : Nat}
theorem RSt.size (h : RSt N J cx w W v u q) : w.heap.size + 2 ≤ W.heap.size := (Array.getElem?_eq_some_iff.1 h.2.2.2.1).1
theorem RSt.next (h : RSt N J cx w W v u q) (hb : Below W.heap.size W W') : RSt N J cx w W' v u q := by
  have hs := h.size
  obtain ⟨⟨ps, a0, a1⟩, a2, a3, a4, a6⟩ := h
  have hg := grown_of hb
  exact ⟨⟨ps, a0, ownN_grow a1 hg⟩, a2.kept hg (ne_none _), blk_next a3 hb, blk_next a4 hb, below_next a6 hb (Nat.le_refl _)⟩
/-- Behind a root's place. -/
theorem RSt.root (h : RSt N J cx w W v u q) {z : Int} {o : Obj} (h1 : W'.ownsRow (w.heap.size + 2) 3 1 u2 (q + 1) (J.map (Value.int .i64) ++ [.int .i64 z])) (h2 : (W.alloc o).grownBy W' u.ownBlock) : RSt N (J ++ [z]) cx w W' v u2 (q + 1) := by
  have hs := h.size
  obtain ⟨⟨ps, a0, a1⟩, a2, a3, a4, a6⟩ := h
  have hu := a2.lt
  have hsz := h2.size
  simp only [World.size_alloc] at hsz
  have hbl : ∀ k, k < w.heap.size + 2 → W'.heap[k]? = W.heap[k]? := fun k hk => (h2.block k (by simp; omega) (fun e => by have := (hu k e.symm).1; omega)).trans (Below.heap_alloc _ _ _ (by omega))
  exact ⟨⟨ps, a0, ownN_kept3 (ownN_grow a1 (grown_alloc W o)) (a2.alloc o) h2⟩, by rw [List.map_append]; exact h1, (hbl _ (by omega)).trans a3, (hbl _ (by omega)).trans a4,
    ⟨h2.os.trans a6.os, h2.tape.trans a6.tape, h2.output.trans a6.output, by have := a6.size; omega, fun k hk => (hbl k (by omega)).trans (a6.block k hk)⟩⟩
/-- Behind a node more. -/
theorem RSt.node (h : RSt N J cx w W v u q) {ps : List (Nd × Value)} {y : Nd} {vy : Value} {n : Nat} {o : Obj} {W5 W8 : World} (hp : ps.map Prod.fst = N) (ho : OwnN (w.heap.size + 2) W v ps) (hn : ps.length = n) (hf : OwnF W.heap.size W5 vy y.l) (hb : Below W.heap.size W W5)
    (h7 : W8.ownsRow (w.heap.size + 2) 27 9 v2 (n + 1) (nCells ps ++ (ndArr y vy).toList)) (hg : (W5.alloc o).grownBy W8 v.ownBlock) : RSt (N ++ [y]) J cx w W8 v2 u q := by
  have hs := h.size
  have h5 := h.next hb
  obtain ⟨_, a2, a3, a4, a6⟩ := h5
  have h6 := ownN_grow (ownN_grow ho (grown_of hb)) (grown_alloc W5 o)
  have hv := h6.1.lt
  have hsz := hg.size
  simp only [World.size_alloc] at hsz
  have hs5 := hb.size
  have hbl : ∀ k, k < w.heap.size + 2 → W8.heap[k]? = W5.heap[k]? := fun k hk => (hg.block k (by simp; omega) (fun e => by have := (hv k e.symm).1; omega)).trans (Below.heap_alloc _ _ _ (by omega))
  have k7 : Kp (w.heap.size + 2) (W5.alloc o) W8 := Kp.grown h6.1 (Nat.le_refl _) (by simp; omega) hg
  subst hn
  refine ⟨⟨ps ++ [(y, vy)], by rw [List.map_append, hp]; rfl, by rw [nCells_snoc, List.length_append]; exact h7, fun x hx => ?_⟩, row_kp (a2.alloc o) (by decide) k7, (hbl _ (by omega)).trans a3, (hbl _ (by omega)).trans a4, ⟨hg.os.trans a6.os, hg.tape.trans a6.tape, hg.output.trans a6.output, by have := a6.size; omega, fun k hk => (hbl k (by omega)).trans (a6.block k hk)⟩⟩
  rcases List.mem_append.1 hx with hx | hx
  · exact row_kp (h6.2 x hx) (by decide) k7
  · obtain rfl : x = (y, vy) := by simpa using hx
    exact row_mono (row_kp (World.ownsRow.alloc hf o) (by decide) k7) (by omega)
end
theorem rownR {B n : Nat} {W : World} {v : Value} {ps : List (Nd × Value)} (h : OwnN B W v ps) (hn : ps.length = n) (o : Obj) : (W.alloc o).ownsRow B 27 9 v n (nCells ps) := by subst hn; exact h.1.alloc o
theorem res28 (tmps : Array Value) (W : World) (p : Nat) (A : Option Addr) (n c : Nat) (h2 : tmps[4]?.getD undef = .pointer (some ⟨p, 0, none⟩)) (hb : W.cell? ⟨p, 0, none⟩ = some (.slice A n c)) :
    Sem.run Tryd.prog (results Tryd.f28 tmps) W = .ok (.agg #[.slice A n c]) W := by
  simp [results, Tryd.results28, go_sem, h2, hb]
theorem rjoin_ret {N N0 : List Nd} {y : Nd} {J : List Int} {cx : Array Value} {w W : World} {u : Value} {q f g8 c8 : Nat} {tmps : Array Value} (h : RSt (N0 ++ [y]) J cx w W (.slice (some ⟨g8, 0, none⟩) (f + 1) c8) u q) (hN : N = N0 ++ [y]) (hf : N0.length = f)
    (hr : Sem.run Tryd.prog (results Tryd.f28 tmps) (W.setCell ⟨w.heap.size + 1, 0, none⟩ (.slice (some ⟨g8, 0, none⟩) (f + 1) c8)) = .ok (.agg #[.slice (some ⟨g8, 0, none⟩) (f + 1) c8]) (W.setCell ⟨w.heap.size + 1, 0, none⟩ (.slice (some ⟨g8, 0, none⟩) (f + 1) c8))) :
    bodyPost Tryd.prog Tryd.f28 (NPost N w) Exit.ret ⟨tmps, []⟩ (W.setCell ⟨w.heap.size + 1, 0, none⟩ (.slice (some ⟨g8, 0, none⟩) (f + 1) c8)) := by
  obtain ⟨⟨ps, hp, ho⟩, _, _, _, hb⟩ := h
  have hl : N.length = f + 1 := by rw [hN, List.length_append, hf]; rfl
  refine bodyPost_ret hr rfl ⟨_, _, ps, by rw [hl], by rw [hp, hN], ?_, hb.setCell (p := ⟨w.heap.size + 1, 0, none⟩) (by show w.heap.size ≤ w.heap.size + 1; omega) _⟩
  rw [hl]
  exact ownN_low (ownN_heap ho fun g hg _ => set_far _ _ _ _ _ (by omega)) (by omega)
set_option maxRecDepth 100000 in
set_option maxHeartbeats 16000000 in
theorem rjoin_any (x : Nd) (ll : List (List Nd)) (FX EA : Option Addr) (fx cl LL : Nat) (w : World) (hF : Flds w.heap.size w (.slice FX x.l.length fx) x.l) (hXL : x.l.length ≤ 1000000) (HLL : Hid (ll.length = LL)) (hL1 : LL ≤ 1000)
    (HE : Hid (0 < LL → ∃ be oe, EA = some (⟨be, oe, none⟩ : Addr) ∧ be < w.heap.size ∧ ∀ j e, ll[j]? = some e → ∃ Ae ce, w.cell? ⟨be, oe + j, none⟩ = some (.slice Ae e.length ce) ∧ Nodes w.heap.size w (.slice Ae e.length ce) e))
    (HC : Hid (∀ e ∈ ll, ∀ m ∈ e, m.l.length ≤ 1000000)) (HB : Hid (∀ e ∈ ll, ∀ m ∈ e, ∀ k ∈ kids m, 0 ≤ k ∧ k ≤ 1000000)) (HT : Hid (∀ q, q ≤ LL → (jn (ll.take q)).1.length ≤ 100000)) (HT2 : Hid (∀ q e, ll[q]? = some e → (jn (ll.take q)).1.length + e.length ≤ 100000)) (HKX : Hid ((kids x).length = LL)) :
    Calls Tryd.prog 28 #[.agg (ndArr x (.slice FX x.l.length fx)), .slice EA LL cl] w (NPost (joinN x ll) w) := by
  obtain ⟨i0, hi0, hz0, hz1, hz2⟩ := info_parts intInfo
  obtain ⟨j0, hj0, hy0, hy1, hy2⟩ := info_parts ndInfo
  have HFX := Lib.hid hF
  clear hF
  have HS0 : Hid (RSt [] [] (ndArr x (.slice FX x.l.length fx)) w ((((w.alloc (.cells (ndArr x (.slice FX x.l.length fx)) 27)).alloc (.cells #[.slice none 0 0] 24)).alloc (.cells #[] 27)).alloc (.cells #[] 3)) (.slice (some ⟨w.heap.size + 2, 0, none⟩) 0 0) (.slice (some ⟨w.heap.size + 3, 0, none⟩) 0 0) 0) := Lib.hid (by
    obtain ⟨W2, hW2⟩ : ∃ W2, (w.alloc (.cells (ndArr x (.slice FX x.l.length fx)) 27)).alloc (.cells #[.slice none 0 0] 24) = W2 := ⟨_, rfl⟩
    have hs2 : W2.heap.size = w.heap.size + 2 := by rw [← hW2]; simp
    have h1 := World.ownsRow_made (base := w.heap.size + 2) (e := 27) (size := 9) W2 #[] 0 (by omega) (by decide) rfl
    have h2 := World.ownsRow_made (base := w.heap.size + 2) (e := 3) (size := 1) (W2.alloc (.cells #[] 27)) #[] 0 (by simp; omega) (by decide) rfl
    rw [hs2] at h1
    simp only [World.size_alloc, hs2] at h2
    have h3 : W2.heap[w.heap.size]? = some (.cells (ndArr x (.slice FX x.l.length fx)) 27 (0, 0)) := by rw [← hW2]; exact nextAt (newAt rfl)
    have h4 : W2.heap[w.heap.size + 1]? = some (.cells #[.slice none 0 0] 24 (0, 0)) := by rw [← hW2]; exact newAt (by simp)
    have hb2 : Below w.heap.size w W2 := by rw [← hW2]; exact ((Below.refl _ w).alloc (Nat.le_refl _) _).alloc (by simp) _
    rw [hW2]
    exact ⟨⟨[], rfl, h1.alloc _, fun y hy => by simp at hy⟩, h2, nextAt (nextAt h3), nextAt (nextAt h4), (hb2.alloc hb2.size _).alloc (by simp; omega) _⟩)
  go_enter Tryd.func28, Tryd.ntmps28
  go_wp2
  go_loopw [5, 6, 7] (fun s5 s6 s7 wr => ∃ (q g6 k6 : Nat) (N0 : List Nd) (J0 : List Int), s6 = .slice (some ⟨g6, 0, none⟩) q k6 ∧ s7 = .int .i64 (q : Int) ∧ q ≤ LL ∧ Hid (jn (ll.take q) = (N0, J0)) ∧ Hid (RSt N0 J0 (ndArr x (.slice FX x.l.length fx)) w wr s5 (.slice (some ⟨g6, 0, none⟩) q k6) q)) (fun _ _ i _ => LL - (intOf i).toNat)
  case atStart => exact ⟨0, _, _, [], [], rfl, rfl, Nat.zero_le _, Lib.hid rfl, HS0⟩
  case round =>
    obtain ⟨q, gr, k6, N0, J0, rfl, rfl, hq, HJ, HS⟩ := hrel
    obtain ⟨f, hf⟩ : ∃ f, N0.length = f := ⟨_, rfl⟩
    obtain ⟨ps0, hp0, ho0⟩ := HS.out.1
    obtain ⟨A0, k0, rfl⟩ := own_slice_len ho0 hp0 rfl hf
    have hwr := HS.out.size
    have hfm : f ≤ 100000 := by have := HT.out q hq; rw [HJ.out] at this; simp only at this; omega
    have HF0 := Lib.hid hf
    have HP0 := Lib.hid hp0
    have HO0 := Lib.hid ho0
    clear hp0 ho0 hf
    by_cases hlt : q < LL
    · obtain ⟨be, oe, rfl, hbe, hee⟩ := HE.out (by omega)
      obtain ⟨e, he⟩ : ∃ e, ll[q]? = some e := ⟨_, List.getElem?_eq_getElem (by rw [HLL.out]; exact hlt)⟩
      obtain ⟨Ae, ce, hce, hne⟩ := hee q e he
      obtain ⟨eL, heL⟩ : ∃ eL, e.length = eL := ⟨_, rfl⟩
      have hf1 := HT2.out q e he
      rw [HJ.out] at hf1
      simp only at hf1
      rw [HF0.out, heL] at hf1
      rw [heL] at hce hne
      have HCE0 : Hid (w.cell? ⟨be, oe + q, none⟩ = some (.slice Ae eL ce)) := Lib.hid hce
      have HNE := Lib.hid hne
      have HCE : Hid (∀ m ∈ e, m.l.length ≤ 1000000) := Lib.hid (HC.out e (List.mem_of_getElem? he))
      have HBE : Hid (∀ m ∈ e, ∀ k ∈ kids m, 0 ≤ k ∧ k ≤ 1000000) := Lib.hid (HB.out e (List.mem_of_getElem? he))
      have HJ1 : Hid (jn (ll.take (q + 1)) = (N0 ++ e.map (sh f), J0 ++ [((f + eL : Nat) : Int) - 1])) := Lib.hid (by rw [take_snoc _ _ _ he, jn_snoc, HJ.out, jstep]; simp only; rw [HF0.out, heL])
      have HEL := Lib.hid heL
      clear he hce hne heL hee
      go_wp2
      go_loopw [5, 9] (fun s5 s9 w2 => ∃ (j : Nat), s9 = .int .i64 (j : Int) ∧ j ≤ eL ∧ Hid (RSt (N0 ++ (e.take j).map (sh f)) J0 (ndArr x (.slice FX x.l.length fx)) w w2 s5 (.slice (some ⟨gr, 0, none⟩) q k6) q)) (fun _ i _ => eL - (intOf i).toNat)
      case atStart => exact ⟨0, rfl, Nat.zero_le _, Lib.hid (by simpa using HS.out)⟩
      case round =>
        obtain ⟨j, rfl, hj, HS2⟩ := hrel
        obtain ⟨w2, rfl⟩ : ∃ w2, w2 = wr := ⟨_, rfl⟩
        obtain ⟨ps2, hp2, ho2⟩ := HS2.out.1
        have hn2 : ps2.length = f + j := by
          have := congrArg List.length hp2
          rw [List.length_map, List.length_append, List.length_map, List.length_take, HF0.out] at this
          have := HEL.out; omega
        obtain ⟨A2, k2, hv2⟩ := own_slice ho2
        rw [hn2] at hv2
        subst hv2
        have hw2 := HS2.out.size
        have HP2 := Lib.hid hp2
        have HO2 := Lib.hid ho2
        have HN2 := Lib.hid hn2
        have hBw2 : Below w.heap.size w w2 := HS2.out.2.2.2.2
        have ce2 : w2.cell? ⟨be, oe + q, none⟩ = some (.slice Ae eL ce) := (hBw2.cell (p := ⟨be, oe + q, none⟩) hbe).trans HCE0.out
        clear hp2 ho2
        by_cases hlt2 : j < eL
        · obtain ⟨m, hm⟩ : ∃ m, e[j]? = some m := ⟨_, List.getElem?_eq_getElem (by rw [HEL.out]; exact hlt2)⟩
          obtain ⟨bq, oq, rfl, hbq, hnd⟩ : ∃ b o, Ae = some (⟨b, o, none⟩ : Addr) ∧ b < w.heap.size ∧ NdsAt w.heap.size w b o e := by
            obtain ⟨_, _, e1, _, _, hqq⟩ := HNE.out
            obtain ⟨b, o, h1, h2, h3⟩ := hqq (by rw [HEL.out]; omega)
            cases e1
            exact ⟨b, o, h1, h2, h3⟩
          obtain ⟨fv, hfl, hnc⟩ := (NdsAt.below hnd hBw2 hbq) j m hm
          have HNC : Hid (NC w2 bq (oq + j * 9) m fv) := Lib.hid hnc
          have hcm := HCE.out m (List.mem_of_getElem? hm)
          have HFL : Hid (∀ W, Below w2.heap.size w2 W → Flds W.heap.size W fv m.l) := Lib.hid fun W hb => ((hfl.mono (by omega)).below hb).mono hb.size
          obtain ⟨FA, fc, rfl, _⟩ := hfl
          have hkl : (kids m).length ≤ 1000003 := by have := kids_len m; omega
          obtain ⟨K, hK⟩ : ∃ K, kids m = K := ⟨_, rfl⟩
          rw [hK] at hkl
          have HKB : Hid (∀ k ∈ K, 0 ≤ k ∧ k ≤ 1000000) := Lib.hid (by rw [← hK]; exact HBE.out m (List.mem_of_getElem? hm))
          obtain ⟨KL, hKL⟩ : ∃ KL, K.length = KL := ⟨_, rfl⟩
          rw [hKL] at hkl
          have HKC : Hid (Calls Tryd.prog 17 #[.agg #[.int .i64 m.kind, .int .i64 m.a, .int .i64 m.b, .int .i64 m.c, .int .i64 m.n, .string m.nm, .string m.s, .slice FA m.l.length fc, .int .i64 m.pos]] w2 fun e W' => ∃ g c, e = .returned (.slice (some ⟨g, 0, none⟩) KL c) ∧ Rw W' g K ∧ Below w2.heap.size w2 W') := Lib.hid (kids_law (x := m) (by rw [← hK]; exact kids_any m _ w2 (Nat.le_refl _) (HFL.out _ (Below.refl _ _)) hcm) hKL)
          have HWI : Hid (∀ (W : World) (g c : Nat), Below w2.heap.size w2 W → Rw W g (K.map (· + (f : Int))) → Calls Tryd.prog 53 #[.agg #[.int .i64 m.kind, .int .i64 m.a, .int .i64 m.b, .int .i64 m.c, .int .i64 m.n, .string m.nm, .string m.s, .slice FA m.l.length fc, .int .i64 m.pos], .slice (some ⟨g, 0, none⟩) KL c] W fun e W' => ∃ Ay ny ky, e = .returned (.agg #[.int .i64 (sh f m).kind, .int .i64 (sh f m).a, .int .i64 (sh f m).b, .int .i64 (sh f m).c, .int .i64 (sh f m).n, .string (sh f m).nm, .string (sh f m).s, .slice Ay ny ky, .int .i64 (sh f m).pos]) ∧ OwnF W.heap.size W' (.slice Ay ny ky) (sh f m).l ∧ Below W.heap.size W W') := Lib.hid fun W g c hb hr => by
            have h := rwith_any m (.slice FA m.l.length fc) (K.map (· + (f : Int))) g c KL W (by rw [List.length_map, hKL]) (HFL.out W hb) hcm (by rw [List.length_map, hK]) hr
            refine Calls.mono h ?_
            rintro e W' ⟨v, rfl, h1, h2⟩
            have e1 : sh f m = wk m (K.map (· + (f : Int))) := by rw [sh, hK]
            rw [e1]
            obtain ⟨A, c', rfl, _⟩ := row_slice h1
            exact ⟨A, _, c', rfl, h1, h2⟩
          have HEJ : Hid ((e.take (j + 1)).map (sh f) = (e.take j).map (sh f) ++ [sh f m]) := Lib.hid (by rw [take_snoc _ _ _ hm, List.map_append]; rfl)
          have HKL := Lib.hid hKL
          obtain ⟨y, hy⟩ : ∃ y, sh f m = y := ⟨_, rfl⟩
          rw [hy] at HWI HEJ
          obtain ⟨m0, m1, m2, m3, m4, m5, m6, m7, m8⟩ := HNC.out
          have hbq2 : bq < w2.heap.size := by omega
          clear hm hnd hcm hK hKL hy hnc
          go_wp2_with (go_at_call 17; refine HKC.out.mono ?_; rintro e1 w3 ⟨gk, ck, rfl, hrw, hb3⟩; have RW3 := Lib.hid hrw; have B3 := Lib.hid hb3; clear hrw hb3)
          go_loopw [11, 12] (fun s11 s12 w4 => ∃ (r gm cm : Nat), s11 = .slice (some ⟨gm, 0, none⟩) r cm ∧ s12 = .int .i64 (r : Int) ∧ r ≤ KL ∧ Hid (w4.ownsRow w3.heap.size 3 1 (.slice (some ⟨gm, 0, none⟩) r cm) r (((K.take r).map (· + (f : Int))).map (Value.int .i64))) ∧ Hid (Below w3.heap.size w3 w4)) (fun _ i _ => KL - (intOf i).toNat)
          case atStart => exact ⟨0, _, _, rfl, rfl, Nat.zero_le _, Lib.hid (by have := World.ownsRow_made (base := w3.heap.size) (e := 3) (size := 1) w3 #[] 0 (Nat.le_refl _) (by decide) rfl; simpa using this), Lib.hid ((Below.refl _ w3).alloc (Nat.le_refl _) _)⟩
          case round =>
            obtain ⟨r, gm, cm, rfl, rfl, hr, HM, B4⟩ := hrel
            obtain ⟨w4, rfl⟩ : ∃ w4, w4 = wr := ⟨_, rfl⟩
            have hs4 := B4.out.size
            by_cases hlt4 : r < KL
            · obtain ⟨kz, hkz⟩ : ∃ kz, K[r]? = some kz := ⟨_, List.getElem?_eq_getElem (by rw [HKL.out]; exact hlt4)⟩
              have hkb := HKB.out kz (List.mem_of_getElem? hkz)
              have z1 := (RW3.out.next B4.out).1 _ _ hkz
              have HKT : Hid (((K.take (r + 1)).map (· + (f : Int))).map (Value.int .i64) = ((K.take r).map (· + (f : Int))).map (Value.int .i64) ++ [.int .i64 (kz + (f : Int))]) := Lib.hid (by rw [take_snoc _ _ _ hkz]; simp)
              clear hkz
              go_wp2_with (at_builtin; refine wpList_append_own _ rfl _ _ 34 rfl w3.heap.size 3 i0 (.int .i64 0) 1 8 Tryd.underlying34 hi0 hz0 hz1 hz2 rfl (by decide) _ r _ rfl (HM.out.alloc _) ⟨w4.heap.size, 0, none⟩ 1 1 [.int .i64 (kz + (f : Int))] rfl rfl (new1 w4 3 _) (fun u hu => by rw [List.mem_singleton.1 hu]; rfl) (by unfold maxLen; omega) (by omega) (by simp; omega) ?_; intro v6 w6 hown6 hgrow6 _; obtain ⟨g6, c6, rfl⟩ := ownsRow_succ hown6; have HO6 := Lib.hid hown6; have HG6 := Lib.hid hgrow6; clear hown6 hgrow6)
              go_roundw
              case rel => exact ⟨r + 1, _, _, rfl, by go_num, by omega, Lib.hid (by rw [HKT.out]; exact HO6.out), Lib.hid ((B4.out.alloc (by omega) _).grown HG6.out (by simp; omega) (fun k hk => (HM.out.lt k hk).1))⟩
              case measure => simp [intOf]; omega
            · obtain rfl : r = KL := by omega
              have hkt : K.take r = K := List.take_of_length_le (by have := HKL.out; omega)
              have HRW : Hid (Rw w4 gm (K.map (· + (f : Int)))) := Lib.hid (by
                have h := HM.out
                rw [hkt] at h
                have hl : (K.map (· + (f : Int))).length = r := by rw [List.length_map, HKL.out]
                have hi2 : Ints w3.heap.size w4 (.slice (some ⟨gm, 0, none⟩) (K.map (· + (f : Int))).length cm) (K.map (· + (f : Int))) := by unfold Ints; rw [hl]; exact h
                exact Rw.of hi2)
              have hs3 := B3.out.size
              have hB24 : Below w2.heap.size w2 w4 := B3.out.trans (B4.out.mono hs3)
              have HB24 := Lib.hid hB24
              have HS4 := Lib.hid (HS2.out.next hB24)
              have HO4 := Lib.hid (ownN_grow HO2.out (grown_of hB24))
              have ce4 : w4.cell? ⟨be, oe + q, none⟩ = some (.slice (some ⟨bq, oq, none⟩) eL ce) := (hB24.cell (p := ⟨be, oe + q, none⟩) (by show be < w2.heap.size; omega)).trans ce2
              obtain ⟨p0, p1, p2, p3, p4, p5, p6, p7, p8⟩ := HNC.out.below hB24 hbq2
              clear hB24 hkt
              go_wp2_with (first
                | (go_at_call 53; refine (HWI.out _ _ _ HB24.out HRW.out).mono ?_; rintro e1 w5 ⟨Ay, ny, ky, rfl, hf5, hb5⟩; have HF5 := Lib.hid hf5; have HB5 := Lib.hid hb5; have HR5 : Hid ((w5.alloc (.cells (ndArr y (.slice Ay ny ky)) 27)).ownsRow (w.heap.size + 2) 27 9 (.slice A2 (f + j) k2) (f + j) (nCells ps2)) := Lib.hid (rownR (ownN_grow HO4.out (grown_of hb5)) HN2.out _); have HC5 := Lib.hid (new_cellsT w5 27 (ndArr y (.slice Ay ny ky)).toList w5.heap.size rfl); have hs5 := hb5.size; clear hf5 hb5)
                | (at_builtin; refine wpList_append_own _ rfl _ _ 22 rfl (w.heap.size + 2) 27 j0 (.agg #[.int .i64 0, .int .i64 0, .int .i64 0, .int .i64 0, .int .i64 0, .string ⟨#[]⟩, .string ⟨#[]⟩, .slice none 0 0, .int .i64 0]) 9 104 Tryd.underlying22 hj0 hy0 hy1 hy2 rfl (by decide) _ (f + j) _ rfl HR5.out ⟨w5.heap.size, 0, none⟩ 1 1 ((ndArr y (.slice Ay ny ky)).toList) rfl rfl HC5.out (nd_one _ _ _ _) (by unfold maxLen; omega) (by omega) (by simp; omega) ?_; intro v8 w8 hown8 hgrow8 _; obtain ⟨g8, c8, rfl⟩ := ownsRow_succ hown8; have HE8 := Lib.hid (HS4.out.node HP2.out HO4.out HN2.out HF5.out HB5.out hown8 hgrow8); clear hown8 hgrow8))
              go_roundw
              case rel =>
                refine ⟨j + 1, by go_num, by omega, Lib.hid ?_⟩
                rw [HEJ.out, ← List.append_assoc]
                exact HE8.out
              case measure => simp [intOf]; omega
        · obtain rfl : j = eL := by omega
          obtain ⟨fe, hfe⟩ : ∃ fe, f + j = fe := ⟨_, rfl⟩
          have HTK : Hid ((e.take j).map (sh f) = e.map (sh f)) := Lib.hid (by rw [List.take_of_length_le (by have := HEL.out; omega)])
          rw [hfe] at HS2 hf1
          rw [hfe]
          rw [hfe] at HJ1
          have HS3 : Hid (RSt (N0 ++ e.map (sh f)) J0 (ndArr x (.slice FX x.l.length fx)) w w2 (.slice A2 fe k2) (.slice (some ⟨gr, 0, none⟩) q k6) q) := Lib.hid (by rw [← HTK.out]; exact HS2.out)
          have hsw := HS3.out.size
          clear HS2 HP2 HO2 hn2 HN2 hfe
          go_wp2_with (at_builtin; refine wpList_append_own _ rfl _ _ 34 rfl (w.heap.size + 2) 3 i0 (.int .i64 0) 1 8 Tryd.underlying34 hi0 hz0 hz1 hz2 rfl (by decide) _ q _ rfl (HS3.out.2.1.alloc _) ⟨w2.heap.size, 0, none⟩ 1 1 [.int .i64 ((fe : Int) - 1)] rfl rfl (new1 w2 3 _) (fun u hu => by rw [List.mem_singleton.1 hu]; rfl) (by unfold maxLen; omega) (by omega) (by simp; omega) ?_; intro v6 w6 hown6 hgrow6 _; obtain ⟨g6, c6, rfl⟩ := ownsRow_succ hown6; have HS6 := Lib.hid (HS3.out.root hown6 hgrow6); clear hown6 hgrow6)
          go_roundw
          case rel => exact ⟨q + 1, _, _, _, _, rfl, by go_num, by omega, HJ1, HS6⟩
          case measure => simp [intOf]; omega
    · obtain rfl : q = LL := by omega
      have hnl : ps0.length = f := by have := congrArg List.length HP0.out; rw [List.length_map, HF0.out] at this; exact this
      have htk : ll.take q = ll := List.take_of_length_le (by rw [HLL.out]; exact Nat.le_refl _)
      have hj := HJ.out
      rw [htk] at hj
      have hjl : J0.length = q := by have := (jn_len ll).2; rw [hj, HLL.out] at this; exact this
      have HRR : Hid (Rw wr gr J0) := Lib.hid (by
        have hi2 : Ints (w.heap.size + 2) wr (.slice (some ⟨gr, 0, none⟩) J0.length k6) J0 := by unfold Ints; rw [hjl]; exact HS.out.2.1
        exact Rw.of hi2)
      have HJN : Hid (joinN x ll = N0 ++ [wk x J0]) := Lib.hid (by rw [joinN, hj])
      obtain ⟨y, hy⟩ : ∃ y, wk x J0 = y := ⟨_, rfl⟩
      have HWX : Hid (Calls Tryd.prog 53 #[.agg #[.int .i64 x.kind, .int .i64 x.a, .int .i64 x.b, .int .i64 x.c, .int .i64 x.n, .string x.nm, .string x.s, .slice FX x.l.length fx, .int .i64 x.pos], .slice (some ⟨gr, 0, none⟩) q k6] wr fun e W' => ∃ Ay ny ky, e = .returned (.agg #[.int .i64 y.kind, .int .i64 y.a, .int .i64 y.b, .int .i64 y.c, .int .i64 y.n, .string y.nm, .string y.s, .slice Ay ny ky, .int .i64 y.pos]) ∧ OwnF wr.heap.size W' (.slice Ay ny ky) y.l ∧ Below wr.heap.size wr W') := Lib.hid (by
        have hbw := HS.out.2.2.2.2
        have h := rwith_any x (.slice FX x.l.length fx) J0 gr k6 q wr hjl ((HFX.out.below hbw).mono hbw.size) hXL (by rw [hjl]; exact HKX.out.symm) HRR.out
        refine Calls.mono h ?_
        rintro e W' ⟨v, rfl, h1, h2⟩
        rw [hy] at h1 ⊢
        obtain ⟨A, c', rfl, _⟩ := row_slice h1
        exact ⟨A, _, c', rfl, h1, h2⟩)
      rw [hy] at HJN
      obtain ⟨q0, q1, q2, q3, q4, q5, q6, q7, q8⟩ := nd_cells HS.out.2.2.1
      have HNL := Lib.hid hnl
      clear hnl htk hj hjl hy
      go_wp2_with (first
        | (go_at_call 53; refine HWX.out.mono ?_; rintro e1 w5 ⟨Ay, ny, ky, rfl, hf5, hb5⟩; have HF5 := Lib.hid hf5; have HB5 := Lib.hid hb5; have HR5 : Hid ((w5.alloc (.cells (ndArr y (.slice Ay ny ky)) 27)).ownsRow (w.heap.size + 2) 27 9 (.slice A0 f k0) f (nCells ps0)) := Lib.hid (rownR (ownN_grow HO0.out (grown_of hb5)) HNL.out _); have HC5 := Lib.hid (new_cellsT w5 27 (ndArr y (.slice Ay ny ky)).toList w5.heap.size rfl); have hs5 := hb5.size; clear hf5 hb5)
        | (at_builtin; refine wpList_append_own _ rfl _ _ 22 rfl (w.heap.size + 2) 27 j0 (.agg #[.int .i64 0, .int .i64 0, .int .i64 0, .int .i64 0, .int .i64 0, .string ⟨#[]⟩, .string ⟨#[]⟩, .slice none 0 0, .int .i64 0]) 9 104 Tryd.underlying22 hj0 hy0 hy1 hy2 rfl (by decide) _ f _ rfl HR5.out ⟨w5.heap.size, 0, none⟩ 1 1 ((ndArr y (.slice Ay ny ky)).toList) rfl rfl HC5.out (nd_one _ _ _ _) (by unfold maxLen; omega) (by omega) (by simp; omega) ?_; intro v8 w8 hown8 hgrow8 _; obtain ⟨g8, c8, rfl⟩ := ownsRow_succ hown8; have HE8 := Lib.hid (HS.out.node HP0.out HO0.out HNL.out HF5.out HB5.out hown8 hgrow8); have c9' := (Blk_cell HE8.out.2.2.2.1 0).trans rfl; have f9 := Blk_frozen HE8.out.2.2.2.1 0; clear hown8 hgrow8))
      exact rjoin_ret HE8.out HJN.out HF0.out (res28 _ _ (w.heap.size + 1) _ _ _ rfl ((Blk_cell (blk_put (j := 0) (v := .slice (some ⟨g8, 0, none⟩) (f + 1) c8) HE8.out.2.2.2.1) 0).trans rfl))
end Go.Proofs.YteikpeaakmbihaaDoor.T
/- A copy of what is below a node, behind others, is the copy alone with its children further on; a node and the copies of its children, joined, are the copy of the node. -/
namespace Go.Proofs.YteikpeaakmbihaaDoor.T
open Go.RowKit
theorem relab_pl : ∀ (l : List Fld) (ks : List Int), ks.length = l.length → (relab l ks).map Fld.pl = ks
  | [], [], _ => rfl
  | [], _ :: _, h => by simp at h
  | _ :: _, [], h => by simp at h
  | f :: l, k :: ks, h => by
    have := relab_pl l ks (by simpa using h)
    simpa [relab] using this
theorem relab_two : ∀ (l : List Fld) (ks js : List Int), ks.length = l.length → relab (relab l ks) js = relab l js
  | [], [], _, _ => by simp [relab]
  | [], _ :: _, _, h => by simp at h
  | _ :: _, [], _, h => by simp at h
  | f :: l, k :: ks, [], _ => by simp [relab]
  | f :: l, k :: ks, j :: js, h => by
    have := relab_two l ks js (by simpa using h)
    simpa [relab] using this
theorem own_wk (x : Nd) (ks : List Int) : own (wk x ks) = own x := by
  unfold own kids0 wk
  simp only
  repeat' split
  all_goals simp_all
theorem many_wk (x : Nd) (ks : List Int) : many (wk x ks) = many x := rfl
theorem kids_length (x : Nd) : (kids x).length = own x + if many x = true then x.l.length else 0 := by
  rw [kids, List.length_append, own]
  split <;> simp
theorem kids_wk {x : Nd} {ks : List Int} (h : ks.length = (kids x).length) : kids (wk x ks) = ks := by
  rw [kids_length] at h
  have hd : many x = true → (ks.drop (own x)).length = x.l.length := fun hm => by rw [List.length_drop, h, if_pos hm]; omega
  rw [kids, many_wk]
  have e0 : kids0 (wk x ks) = ks.take (own x) := by
    have hl : own x ≤ ks.length := by omega
    unfold wk
    unfold own at hl ⊢
    by_cases h1 : x.kind = 5 ∨ x.kind = 12 ∨ x.kind = 13 ∨ x.kind = 14
    · simp only [kids0, if_pos h1, List.length_cons, List.length_nil] at hl ⊢
      match ks, hl with
      | [], hl => simp at hl
      | a :: _, _ => simp
    · by_cases h2 : x.kind = 6 ∨ x.kind = 7 ∨ x.kind = 8 ∨ x.kind = 10
      · simp only [kids0, if_neg h1, if_pos h2, List.length_cons, List.length_nil] at hl ⊢
        match ks, hl with
        | [], hl => simp at hl
        | [_], hl => simp at hl
        | a :: b :: _, _ => simp
      · by_cases h3 : x.kind = 9
        · simp only [kids0, if_neg h1, if_neg h2, if_pos h3, List.length_cons, List.length_nil] at hl ⊢
          match ks, hl with
          | [], hl => simp at hl
          | [_], hl => simp at hl
          | [_, _], hl => simp at hl
          | a :: b :: c :: _, _ => simp
        · simp only [kids0, if_neg h1, if_neg h2, if_neg h3, List.length_nil] at hl ⊢
          simp
  rw [e0]
  by_cases hm : many x = true
  · rw [if_pos hm]
    have e1 : (wk x ks).l = relab x.l (ks.drop (own x)) := by show (if many x = true then _ else _) = _; rw [if_pos hm]
    rw [e1, relab_pl _ _ (hd hm), List.take_append_drop]
  · rw [if_neg hm, List.append_nil]
    rw [if_neg hm] at h
    exact List.take_of_length_le (by omega)
theorem wk_two {x : Nd} {ks js : List Int} (h : ks.length = (kids x).length) : wk (wk x ks) js = wk x js := by
  rw [kids_length] at h
  have ho := own_wk x ks
  show ({ wk x ks with a := _, b := _, c := _, l := _ } : Nd) = _
  rw [ho, many_wk]
  unfold wk
  by_cases hm : many x = true
  · rw [if_pos hm] at h
    simp only [hm, if_true]
    rw [relab_two _ _ _ (by rw [List.length_drop]; omega)]
  · simp only [hm]
    simp
theorem sh_sh (f g : Nat) (m : Nd) : sh f (sh g m) = sh (g + f) m := by
  have hl : ((kids m).map (· + (g : Int))).length = (kids m).length := List.length_map _
  unfold sh
  rw [kids_wk hl, wk_two hl, List.map_map]
  congr 1
  apply List.map_congr_left
  intro k _
  simp only [Function.comp]
  omega
theorem cps_len2 (l : List Nd) : ∀ (ks : List Int) (p : List Nd × List Int), (cps l p ks).2.length = p.2.length + ks.length := by
  intro ks
  induction ks using snocInd with
  | h0 => intro p; simp [cps]
  | h1 ks k ih => intro p; rw [cps_snoc]; simp [ih p]; omega
theorem cp_shift {l : List Nd} (hk : kidsOk l) : ∀ i, i < l.length → ∀ out : List Nd, cp l i out = out ++ (cp l i []).map (sh out.length) := by
  intro i
  induction i using Nat.strongRecOn with
  | ind i ih =>
    intro hi out
    have hx : l[i]? = some (l[i]'hi) := List.getElem?_eq_getElem hi
    obtain ⟨x, hx'⟩ : ∃ x, l[i]'hi = x := ⟨_, rfl⟩
    rw [hx'] at hx
    have ha : ahead i x := fun k hk' => hk i x hx k hk'
    have key : ∀ ks : List Int, (∀ k ∈ ks, 0 ≤ k ∧ k < (i : Int)) → cps l (out, []) ks = (out ++ (cps l ([], []) ks).1.map (sh out.length), (cps l ([], []) ks).2.map (· + (out.length : Int))) := by
      intro ks
      induction ks using snocInd with
      | h0 => intro _; simp [cps]
      | h1 ks k ih2 =>
        intro hks
        have h1 := ih2 fun k' hk' => hks k' (by simp [hk'])
        have hkk := hks k (by simp)
        have hlt : k.toNat < i := toNat_lt hkk
        have e : cp l k.toNat (out ++ (cps l ([], []) ks).1.map (sh out.length)) = out ++ (cp l k.toNat (cps l ([], []) ks).1).map (sh out.length) := by
          rw [ih k.toNat hlt (by omega) (out ++ (cps l ([], []) ks).1.map (sh out.length)), ih k.toNat hlt (by omega) (cps l ([], []) ks).1, List.map_append, List.map_map, List.append_assoc]
          congr 2
          apply List.map_congr_left
          intro m _
          simp only [Function.comp]
          rw [sh_sh, List.length_append, List.length_map, Nat.add_comm]
        rw [cps_snoc, cps_snoc, h1]
        simp only
        rw [e]
        simp only [List.map_append, List.map_cons, List.map_nil, List.length_append, List.length_map]
        congr 2
        simp only [List.cons.injEq, and_true]
        omega
    have hks : ∀ k ∈ kids x, 0 ≤ k ∧ k < (i : Int) := fun k hk' => ha k hk'
    have hlen : (cps l ([], []) (kids x)).2.length = (kids x).length := by rw [cps_len2]; simp
    rw [cp_eq hx ha out, cp_eq hx ha [], key _ hks, List.map_append, List.append_assoc]
    simp only [List.map_cons, List.map_nil]
    congr 3
    unfold sh
    rw [kids_wk hlen, wk_two hlen]
/-- A node and the copies of its children, joined, are the copy of the node. -/
theorem join_subs {l : List Nd} (hk : kidsOk l) {i : Nat} {x : Nd} (hx : l[i]? = some x) : joinN x ((kids x).map fun k => cp l k.toNat []) = cp l i [] := by
  have hi := (List.getElem?_eq_some_iff.1 hx).1
  have ha : ahead i x := fun k hk' => hk i x hx k hk'
  have key : ∀ ks : List Int, (∀ k ∈ ks, 0 ≤ k ∧ k < (i : Int)) → jn (ks.map fun k => cp l k.toNat []) = cps l ([], []) ks := by
    intro ks
    induction ks using snocInd with
    | h0 => intro _; simp [cps, jn]
    | h1 ks k ih =>
      intro hks
      have h1 := ih fun k' hk' => hks k' (by simp [hk'])
      have hkk := hks k (by simp)
      rw [List.map_append, cps_snoc]
      simp only [List.map_cons, List.map_nil]
      rw [jn_snoc, h1, jstep, cp_shift hk k.toNat (by omega) (cps l ([], []) ks).1]
      simp
  rw [joinN, key _ fun k hk' => ha k hk', cp_eq hx ha []]
end Go.Proofs.YteikpeaakmbihaaDoor.T
/- The copy of what is below a node is in order: its children stand ahead, each node but the last one is a child once. -/
namespace Go.Proofs.YteikpeaakmbihaaDoor.T
open Go.RowKit
theorem kidsOk_snoc {N : List Nd} {y : Nd} (h : kidsOk N) (hy : ∀ k ∈ kids y, 0 ≤ k ∧ k < (N.length : Int)) : kidsOk (N ++ [y]) := by
  intro i x hx k hk
  by_cases hi : i < N.length
  · rw [List.getElem?_append_left hi] at hx
    exact h i x hx k hk
  · rw [List.getElem?_append_right (by omega)] at hx
    have hl := (List.getElem?_eq_some_iff.1 hx).1
    simp only [List.length_singleton] at hl
    obtain rfl : i = N.length := by omega
    simp only [Nat.sub_self, List.getElem?_cons_zero, Option.some.injEq] at hx
    subst hx
    exact hy k hk
/-- How often a place is a child in what a copy puts behind others. -/
theorem cp_kids {l : List Nd} (hk : kidsOk l) : ∀ i, i < l.length → ∀ out : List Nd, kidsOk out → kidsOk (cp l i out) ∧ out.length < (cp l i out).length ∧
    ∀ j : Nat, (allKids (cp l i out)).count (j : Int) = (allKids out).count (j : Int) + if out.length ≤ j ∧ j + 1 < (cp l i out).length then 1 else 0 := by
  intro i
  induction i using Nat.strongRecOn with
  | ind i ih =>
    intro hi out ho
    have hx : l[i]? = some (l[i]'hi) := List.getElem?_eq_getElem hi
    obtain ⟨x, hx'⟩ : ∃ x, l[i]'hi = x := ⟨_, rfl⟩
    rw [hx'] at hx
    have ha : ahead i x := fun k hk' => hk i x hx k hk'
    have key : ∀ ks : List Int, (∀ k ∈ ks, 0 ≤ k ∧ k < (i : Int)) → kidsOk (cps l (out, []) ks).1 ∧ out.length ≤ (cps l (out, []) ks).1.length ∧ (∀ m ∈ (cps l (out, []) ks).2, 0 ≤ m ∧ m < ((cps l (out, []) ks).1.length : Int)) ∧
        ∀ j : Nat, (allKids (cps l (out, []) ks).1).count (j : Int) + (cps l (out, []) ks).2.count (j : Int) = (allKids out).count (j : Int) + if out.length ≤ j ∧ j < (cps l (out, []) ks).1.length then 1 else 0 := by
      intro ks
      induction ks using snocInd with
      | h0 => intro _; exact ⟨ho, Nat.le_refl _, fun m hm => by simp [cps] at hm, fun j => by
        have e : cps l (out, []) [] = (out, []) := rfl
        rw [e, if_neg (by simp only; omega)]; rfl⟩
      | h1 ks k ih2 =>
        intro hks
        obtain ⟨b1, b2, b3, b4⟩ := ih2 fun k' hk' => hks k' (by simp [hk'])
        have hkk := hks k (by simp)
        obtain ⟨c1, c2, c3⟩ := ih k.toNat (toNat_lt hkk) (by omega) _ b1
        rw [cps_snoc]
        refine ⟨c1, by simp only; omega, fun m hm => ?_, fun j => ?_⟩
        · simp only at hm ⊢
          rcases List.mem_append.1 hm with hm | hm
          · have := b3 m hm; omega
          · have := List.mem_singleton.1 hm; omega
        · simp only
          rw [List.count_append, c3 j, List.count_singleton]
          have h4 := b4 j
          by_cases hj : (((cp l k.toNat (cps l (out, []) ks).1).length : Int) - 1 == (j : Int)) = true
          · rw [if_pos hj]
            have hj' : ((cp l k.toNat (cps l (out, []) ks).1).length : Int) - 1 = (j : Int) := by simpa using hj
            rw [if_neg (by omega)]
            rw [if_pos (by omega)]
            rw [if_neg (by omega)] at h4
            omega
          · rw [if_neg hj]
            have hj' : ¬ ((cp l k.toNat (cps l (out, []) ks).1).length : Int) - 1 = (j : Int) := by simpa using hj
            split <;> split <;> split at h4 <;> omega
    obtain ⟨b1, b2, b3, b4⟩ := key (kids x) fun k hk' => ha k hk'
    have hlen : (cps l (out, []) (kids x)).2.length = (kids x).length := by rw [cps_len2]; simp
    rw [cp_eq hx ha out]
    have hkw := kids_wk hlen
    refine ⟨kidsOk_snoc b1 (by rw [hkw]; exact b3), by rw [List.length_append]; simp; omega, fun j => ?_⟩
    rw [allKids_snoc, hkw, List.count_append, b4 j, List.length_append, List.length_singleton]
    simp only [Nat.add_lt_add_iff_right]
theorem cp_once {l : List Nd} (hk : kidsOk l) {i : Nat} (hi : i < l.length) : kidsOk (cp l i []) ∧ onceOk (cp l i []) := by
  obtain ⟨h1, h2, h3⟩ := cp_kids hk i hi [] (fun i x hx => by simp at hx)
  have h0 : ∀ j : Nat, (allKids (cp l i [])).count (j : Int) = if j + 1 < (cp l i []).length then 1 else 0 := fun j => by
    rw [h3 j]; simp [allKids]
  refine ⟨h1, List.nodup_iff_count.2 fun k => ?_, fun j hj => ?_⟩
  · by_cases hm : k ∈ allKids (cp l i [])
    · obtain ⟨q, x, hq, hk'⟩ := mem_allKids.1 hm
      have := h1 q x hq k hk'
      obtain ⟨j, rfl⟩ := Int.eq_ofNat_of_zero_le this.1
      rw [h0 j]; split <;> omega
    · rw [List.count_eq_zero.2 hm]; omega
  · have := h0 j
    rw [if_pos hj] at this
    exact List.count_pos_iff.1 (by omega)
end Go.Proofs.YteikpeaakmbihaaDoor.T
