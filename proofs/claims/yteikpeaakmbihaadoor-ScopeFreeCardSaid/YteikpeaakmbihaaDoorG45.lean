/- Joined by program: SWorks, LScopeA, LFrees, SOrder, SFreeN. -/
import Derived.Test.YteikpeaakmbihaaDoorG44
import Derived.Test.YteikpeaakmbihaaDoorG41
import Derived.Test.YteikpeaakmbihaaDoorG34
import Derived.Test.YteikpeaakmbihaaDoorG40
import Derived.Deep.RegionHeld3
import Derived.IntWalk
/- The chapter's example, of layer 6. -/
namespace Go.Proofs.YteikpeaakmbihaaDoor.T
open Go.RowKit Go.Shelf
def exV : Nd := ⟨4, 0, 0, 0, 0, xnm, ByteArray.empty, [], 0⟩
def exF : Nd := ⟨5, 0, 0, 0, 0, xnm, ByteArray.empty, [], 0⟩
/-- fun x -> x. -/
def exN : List Nd := [exV, exF]
theorem ln_refl (l : List Nd) : ln l l = true := by
  have sn1 : ∀ x : Nd, sn x x = true := fun x => by
    have h : lf x.l x.l = true := by
      unfold lf
      rw [les_yes (fun j f g h1 h2 => by rw [h1] at h2; cases h2; simp [fe]) rfl]
      simp
    simp [sn, h]
  unfold ln
  rw [lns_yes (fun j x y h1 h2 => by rw [h1] at h2; cases h2; exact sn1 x) rfl]
  simp
theorem ex_own {w : World} {B g : Nat} (h : w.heap[g]? = some (.cells ((exN.flatMap fun x => (ndArr x (.slice none 0 0)).toList)).toArray 27)) (hg : B ≤ g) : OwnN B w (.slice (some ⟨g, 0, none⟩) 2 2) (exN.map fun x => (x, .slice none 0 0)) := by
  refine ⟨⟨rfl, .inr ⟨g, 2, _, rfl, hg, h, by decide, by decide, rfl, rfl⟩⟩, fun x hx => ?_⟩
  simp only [exN, List.map_cons, List.map_nil, List.mem_cons, List.not_mem_nil, or_false] at hx
  rcases hx with rfl | rfl <;> exact World.ownsRow_nil _ _ _ _
theorem ex_good : ∀ x ∈ exN, Small x ∧ Clonable x := by
  intro x hx
  simp only [exN, List.mem_cons, List.not_mem_nil, or_false] at hx
  rcases hx with rfl | rfl <;> exact ⟨⟨by decide, by decide, by decide, fun f hf => by cases hf⟩, by decide, by decide, by decide, fun f hf => by cases hf⟩
theorem ex_cases {i : Nat} {x : Nd} (h : exN[i]? = some x) : (i = 0 ∧ x = exV) ∨ (i = 1 ∧ x = exF) := by
  match i, h with
  | 0, h => exact .inl ⟨rfl, by simpa [exN] using h.symm⟩
  | 1, h => exact .inr ⟨rfl, by simpa [exN] using h.symm⟩
  | n + 2, h => simp [exN] at h
theorem ex_formed : formed exN := by
  refine ⟨?_, ?_, ⟨?_, ?_⟩, ?_⟩
  · intro x hx
    simp only [exN, List.mem_cons, List.not_mem_nil, or_false] at hx
    rcases hx with rfl | rfl <;> kernel_rfl
  · intro i x h
    rcases ex_cases h with ⟨rfl, rfl⟩ | ⟨rfl, rfl⟩ <;> (intro m hm; revert m; decide)
  · have : allKids exN = [0] := rfl
    rw [this]; decide
  · intro j hj
    have : allKids exN = [0] := rfl
    have hl : exN.length = 2 := rfl
    rw [this]
    rw [hl] at hj
    obtain rfl : j = 0 := by omega
    decide
  · intro i x h
    rcases ex_cases h with ⟨rfl, rfl⟩ | ⟨rfl, rfl⟩ <;> (intro hk; exact absurd hk (by decide))
theorem ex_root : root exN = 2 := rfl
theorem ex_may : may exN = 0 := by
  unfold may
  rw [if_neg (by decide), if_neg (not_not_intro ex_formed), if_neg (by rw [ex_root]; decide)]
theorem ex_bdp : bdp exN = [(1, -1), (-1, -1)] := by
  have h0 : exN[0]? = some exV := rfl
  have h1 : exN[1]? = some exF := rfl
  have k0 : kids exV = [] := rfl
  have k1 : kids exF = [0] := rfl
  have e0 : ∀ env xs, dn exN 0 env xs = xs.set 0 (look env xnm) := fun env xs => by
    rw [dn_eq h0 (by intro k hk; rw [k0] at hk; cases hk), k0]; rfl
  show dn exN 1 [] [(-1, -1), (-1, -1)] = _
  rw [dn_eq h1 (by intro k hk; rw [k1] at hk; simp at hk; omega), k1]
  show dn exN 0 (ofK exF 1 0 []) _ = _
  rw [e0]
  have hx : look (ofK exF 1 0 []) xnm = (1, -1) := by
    have : ofK exF 1 0 [] = [⟨xnm, 1, -1⟩] := by rw [ofK, if_pos (.inl rfl)]; rfl
    rw [this, look, if_pos (by simp)]
  rw [hx]
  rfl
theorem ex_fpl : fpl exN = [] := by
  rw [fpl, ex_bdp]; rfl
theorem ex_alp : alp exN exN = true := by
  obtain ⟨m1, _⟩ := may_cp ex_may
  have hm : may (nx exN) = 0 := by rw [nx, if_pos ex_may]; exact bls_may (bdp_len _) m1
  rw [alp, tsm, hm, ln_refl]
  simp
set_option maxRecDepth 100000 in
set_option maxHeartbeats 8000000 in
theorem sworks_any (w : World) (hK : Kws w.heap.size w) : Calls Tryd.prog 32 #[] w fun e w' => e = .returned (.bool true) ∧ Below w.heap.size w w' := by
  have hal := ((Below.refl w.heap.size w).alloc (Nat.le_refl _) (.cells #[.int .i64 4, .int .i64 0, .int .i64 0, .int .i64 0, .int .i64 0, .string ⟨#[120]⟩, .string ⟨#[]⟩, .slice none 0 0, .int .i64 0, .int .i64 5, .int .i64 0, .int .i64 0, .int .i64 0, .int .i64 0, .string ⟨#[120]⟩, .string ⟨#[]⟩, .slice none 0 0, .int .i64 0] 27)).alloc (by simp) (.cells #[.slice (some ⟨w.heap.size, 0, none⟩) 2 2] 24)
  obtain ⟨W, hW⟩ : ∃ W, (w.alloc (.cells #[.int .i64 4, .int .i64 0, .int .i64 0, .int .i64 0, .int .i64 0, .string ⟨#[120]⟩, .string ⟨#[]⟩, .slice none 0 0, .int .i64 0, .int .i64 5, .int .i64 0, .int .i64 0, .int .i64 0, .int .i64 0, .string ⟨#[120]⟩, .string ⟨#[]⟩, .slice none 0 0, .int .i64 0] 27)).alloc (.cells #[.slice (some ⟨w.heap.size, 0, none⟩) 2 2] 24) = W := ⟨_, rfl⟩
  rw [hW] at hal
  have HX : Hid (W.heap[w.heap.size + 1]? = some (.cells #[.slice (some ⟨w.heap.size, 0, none⟩) 2 2] 24 (0, 0))) := Lib.hid (by rw [← hW]; exact newAt (by simp))
  have HO : Hid (OwnN w.heap.size W (.slice (some ⟨w.heap.size, 0, none⟩) 2 2) (exN.map fun x => (x, .slice none 0 0))) := Lib.hid (ex_own (by rw [← hW]; exact nextAt (newAt rfl)) (Nat.le_refl _))
  have HN : Hid (∀ W', Below W.heap.size W W' → Nodes W'.heap.size W' (.slice (some ⟨w.heap.size, 0, none⟩) 2 2) exN) := Lib.hid fun W' hb => own_nodes (ownN_grow HO.out (grown_of hb))
  have HB0 := Lib.hid hal
  have HKW : Hid (∀ W, Below w.heap.size w W → Kws W.heap.size W) := Lib.hid fun W hb => Kws_mono (hK.on hb) hb.size
  have HBI : Hid (∀ W v, Kws W.heap.size W → Nodes W.heap.size W v exN → Calls Tryd.prog 30 #[.agg #[v]] W (BinPost exN W)) := Lib.hid fun W v h1 h2 => bind_ok exN v ex_may W h1 h2 (fun x hx => (ex_good x hx).1)
  have HCL : Hid (∀ W v, Kws W.heap.size W → Nodes W.heap.size W v exN → Calls Tryd.prog 36 #[.agg #[v]] W (CloPost (0, 0) W)) := Lib.hid fun W v h1 h2 => by
    have := closed_ok exN v ex_may W h1 h2 (fun x hx => (ex_good x hx).1)
    rwa [ex_fpl] at this
  have HAL : Hid (∀ W v, Kws W.heap.size W → Nodes W.heap.size W v exN → Calls Tryd.prog 40 #[.agg #[v], .agg #[v]] W fun e w' => e = .returned (.bool true) ∧ Below W.heap.size W w') := Lib.hid fun W v h1 h2 => by
    have := alpha_any exN exN v v W h1 h2 h2 ex_good ex_good (by decide) (by decide)
    rwa [ex_alp] at this
  have hWs := hal.size
  go_enter Tryd.func32, Tryd.ntmps32
  go_upto_region 2 with fail
  clear hW
  have x0 := (Blk_cell HX.out 0).trans rfl
  go_upto_region 4 with (first
    | (go_at_call 30; refine (HBI.out _ _ (HKW.out _ HB0.out) (HN.out _ (Below.refl _ _))).mono ?_; rintro e w1 ⟨gl, cl, rfl, hg, hlen, _, _, hb1⟩; have B1 := Lib.hid hb1; have HB1 := Lib.hid (below_next HB0.out hb1 (Nat.le_refl _)); have X1 := Lib.hid (blk_next HX.out hb1); have x1 := (Blk_cell X1.out 0).trans rfl; have R1 := Lib.hid (RowB.blk hg); clear hg hlen hb1)
    | (go_at_call 36; refine (HCL.out _ _ (HKW.out _ HB1.out) (HN.out _ B1.out)).mono ?_; rintro e w2 ⟨rfl, hb2⟩; have B2 := Lib.hid (B1.out.trans (hb2.mono B1.out.size)); have HB2 := Lib.hid (below_next HB1.out hb2 (Nat.le_refl _)); have X2 := Lib.hid (blk_next X1.out hb2); have x2 := (Blk_cell X2.out 0).trans rfl; have R2 := Lib.hid (R1.out.next hb2); clear hb2))
  obtain ⟨r1, r2⟩ := R2.out.cell (i := 0) (p := (1, -1)) (by rw [ex_bdp]; rfl)
  simp only [Nat.zero_mul, Nat.zero_add] at r1 r2
  go_wp2_with (go_at_call 40; refine (HAL.out _ _ (HKW.out _ HB2.out) (HN.out _ B2.out)).mono ?_; rintro e w3 ⟨rfl, hb3⟩; have HB3 := Lib.hid (below_next HB2.out hb3 (Nat.le_refl _)); clear hb3)
  go_ret
  exact ⟨rfl, HB3.out⟩
end Go.Proofs.YteikpeaakmbihaaDoor.T
/- The laws of layer 6: what stays through their walks. -/
namespace Go.Proofs.YteikpeaakmbihaaDoor.T
open Go.RowKit Go.Shelf
theorem int_cell {W : World} {B n c j : Nat} {A : Option Addr} {X : List Int} {s : Int} (h : W.ownsRow B 3 1 (.slice A n c) n (X.map (Value.int .i64))) (hj : X[j]? = some s) : ∃ g, A = some ⟨g, 0, none⟩ ∧ W.cell? ⟨g, j, none⟩ = some (.int .i64 s) := by
  rcases h.2 with ⟨h1, h0⟩ | ⟨g, cap, cur, h1, _⟩
  · exfalso
    have := h.1
    rw [List.length_map, h0] at this
    have := (List.getElem?_eq_some_iff.1 hj).1
    omega
  · cases h1
    refine ⟨g, rfl, ?_⟩
    have := World.ownsRow.cells h (g := g) rfl j (.int .i64 s) (by rw [List.getElem?_map, hj]; rfl)
    rwa [Addr.add_lit, Nat.zero_add] at this
set_option maxRecDepth 100000 in
set_option maxHeartbeats 4000000 in
theorem sints_any (X : List Int) (v u : Value) (B B' n : Nat) (w : World) (hn : n ≤ 1000000) (HL : Hid (X.length = n)) (HV : Hid (w.ownsRow B 3 1 v n (X.map (Value.int .i64)))) (HU : Hid (w.ownsRow B' 3 1 u n (X.map (Value.int .i64)))) :
    Calls Tryd.prog 15 #[v, u] w fun e w' => e = .returned (.bool true) ∧ Below w.heap.size w w' := by
  obtain ⟨A, c, rfl, _⟩ := row_slice HV.out
  obtain ⟨A', c', rfl, _⟩ := row_slice HU.out
  go_enter Tryd.func15, Tryd.ntmps15
  go_wp2
  go_loopw [5] (fun i wr => ∃ q : Nat, i = .int .i64 (q : Int) ∧ q ≤ n ∧ Hid (Below w.heap.size w wr)) (fun i _ => n - (intOf i).toNat)
  case atStart => exact ⟨0, rfl, Nat.zero_le _, Lib.hid (Below.refl _ _)⟩
  case round =>
    obtain ⟨q, rfl, hq, HB⟩ := hrel
    by_cases hlt : q < n
    · obtain ⟨s, hs⟩ : ∃ s, X[q]? = some s := ⟨_, List.getElem?_eq_getElem (by rw [HL.out]; exact hlt)⟩
      obtain ⟨g, rfl, h1⟩ := int_cell (World.ownsRow.kept HV.out (grown_of HB.out) (ne_none _)) hs
      obtain ⟨g', rfl, h2⟩ := int_cell (World.ownsRow.kept HU.out (grown_of HB.out) (ne_none _)) hs
      have e1 : (s != s) = false := by simp
      clear hs
      go_upto_region 6 with fail
      go_region_held3 (fun W => W.cell? ⟨g, q, none⟩ = some (.int .i64 s) ∧ W.cell? ⟨g', q, none⟩ = some (.int .i64 s)) (first | exact ⟨h1, h2⟩) (fail)
      all_goals
        go_wp2_with fail
        go_roundw
        case rel => exact ⟨q + 1, by go_num, by omega, Lib.hid HB.out.drew⟩
        case measure => simp [intOf]; omega
    · obtain rfl : q = n := by omega
      go_wp2
      go_ret
      exact ⟨rfl, HB.out⟩
/-- A tree of the call's own in its box. -/
def SSt (w W : World) (A : Option Addr) (k : Nat) (la : List Nd) : Prop :=
  (∃ ps : List (Nd × Value), ps.map Prod.fst = la ∧ OwnN (w.heap.size + 1) W (.slice A la.length k) ps) ∧ W.heap[w.heap.size]? = some (.cells #[.slice A la.length k] 24 (0, 0)) ∧ Below w.heap.size w W
section
variable {w W W' : World} {A : Option Addr} {k : Nat} {la : List Nd}
theorem SSt.size (h : SSt w W A k la) : w.heap.size + 1 ≤ W.heap.size := (Array.getElem?_eq_some_iff.1 h.2.1).1
theorem SSt.next (h : SSt w W A k la) (hb : Below W.heap.size W W') : SSt w W' A k la := by
  obtain ⟨⟨ps, h1, h2⟩, h3, h4⟩ := h
  exact ⟨⟨ps, h1, ownN_grow h2 (grown_of hb)⟩, blk_next h3 hb, below_next h4 hb (Nat.le_refl _)⟩
theorem SSt.c (h : SSt w W A k la) : W.cell? ⟨w.heap.size, 0, none⟩ = some (.slice A la.length k) := (Blk_cell h.2.1 0).trans rfl
theorem SSt.nodes (h : SSt w W A k la) : Nodes W.heap.size W (.slice A la.length k) la := by
  obtain ⟨⟨ps, h1, h2⟩, _⟩ := h
  exact own_nodes' h2 h1
theorem SSt.put {v2 : Value} {ps : List (Nd × Value)} {o : Value} (hb : Below w.heap.size w W) (h : OwnN (w.heap.size + 1) W (.slice A la.length k) ps) (he : ps.map Prod.fst = la) (hx : W.heap[w.heap.size]? = some (.cells #[o] 24 (0, 0))) (hv : v2 = .slice A la.length k) :
    SSt w (W.setCell ⟨w.heap.size, 0, none⟩ v2) A k la := by
  subst hv
  refine ⟨⟨ps, he, ownN_heap h fun g hg _ => set_far _ _ _ _ _ (by omega)⟩, blk_put (j := 0) hx, hb.setCell (p := ⟨w.heap.size, 0, none⟩) (Nat.le_refl _) _⟩
end
end Go.Proofs.YteikpeaakmbihaaDoor.T
/- The walks of ScopeFree. -/
namespace Go.Proofs.YteikpeaakmbihaaDoor.T
open Go.RowKit Go.Shelf
set_option maxRecDepth 100000 in
set_option maxHeartbeats 16000000 in
theorem frees_bad (a la : List Nd) (A0 : Option Addr) (LA c0 : Nat) (w : World) (X : List ByteArray) (m c1 c2 : Int)
    (HK : Hid (∀ W, Below w.heap.size w W → Kws W.heap.size W))
    (HWK : Hid (∀ W, Kws W.heap.size W → Calls Tryd.prog 32 #[] W fun e W' => e = .returned (.bool true) ∧ Below W.heap.size W W'))
    (HFA : Hid (∀ W, Below w.heap.size w W → Calls Tryd.prog 10 #[.agg #[.slice A0 LA c0]] W (FewPost a W))) (HLA : Hid (few a = la))
    (HF2 : Hid (∀ (W : World) (A : Option Addr) (c : Nat), Nodes W.heap.size W (.slice A la.length c) la → Calls Tryd.prog 10 #[.agg #[.slice A la.length c]] W fun e W' => ∃ A c, e = .returned (.agg #[.slice A la.length c]) ∧ Nodes W'.heap.size W' (.slice A la.length c) la ∧ Below W.heap.size W W'))
    (HFR : Hid (∀ (W : World) (v : Value), Kws W.heap.size W → Nodes W.heap.size W v la → Calls Tryd.prog 35 #[.agg #[v]] W (FrPost X m W)))
    (HCL : Hid (∀ (W : World) (v : Value), Kws W.heap.size W → Nodes W.heap.size W v la → Calls Tryd.prog 36 #[.agg #[v]] W (CloPost (c1, c2) W)))
    (HRM : Hid (∀ (W : World) (v : Value), Nodes W.heap.size W v la → Calls Tryd.prog 11 #[.agg #[v]] W fun e W' => e = .returned (.int .i64 m) ∧ Below W.heap.size W W'))
    (h0 : m ≠ 0) (hX : X = []) (hc : c1 = 0 ∧ c2 = m) :
    Calls Tryd.prog 8 #[.agg #[.slice A0 LA c0]] w fun e w' => e = .returned (.bool true) ∧ Below w.heap.size w w' := by
  have X0 : Hid ((w.alloc (.cells #[.slice A0 LA c0] 24)).heap[w.heap.size]? = some (.cells #[.slice A0 LA c0] 24 (0, 0))) := Lib.hid (newAt rfl)
  have HB0 : Hid (Below w.heap.size w (w.alloc (.cells #[.slice A0 LA c0] 24))) := Lib.hid ((Below.refl _ w).alloc (Nat.le_refl _) _)
  obtain ⟨rfl, rfl⟩ := hc
  subst hX
  have hmb : (c2 != 0) = true := by simpa using h0
  have hmm : (c2 == c2) = true := by simp
  clear h0
  go_enter Tryd.func8, Tryd.ntmps8
  go_upto_region 2 with (go_at_call 10; refine (HFA.out _ HB0.out).mono ?_; rintro e w2 ⟨v2, ps2, rfl, hps2, hown2, hb2⟩; obtain ⟨A2, k2, rfl⟩ := own_slice_len hown2 hps2 HLA.out rfl; have S2 := Lib.hid (SSt.put (below_next HB0.out hb2 (Nat.le_refl _)) (own_lowS hown2 (by simp)) (hps2.trans HLA.out) (blk_next X0.out hb2) rfl); have c2 := S2.out.c; have x2 := blk_next X0.out hb2; have f2 := Blk_frozen x2 0; have d2 : w2.cell? ⟨w.heap.size, 0, none⟩ = some (.slice A0 LA c0) := (Blk_cell x2 0).trans rfl; clear x2 hb2 hown2 hps2)
  clear d2 f2
  go_upto_region 4 with (first
    | (go_at_call 36; refine (HCL.out _ _ (HK.out _ S5.out.2.2) N5.out).mono ?_; rintro e w6 ⟨rfl, hb⟩; have S6 := Lib.hid (S5.out.next hb); have U6 := Lib.hid (World.ownsRow.kept U5.out (grown_of hb) (ne_none _)); have c6 := S6.out.c; clear hb)
    | (go_at_call 10; have _tag := S4.out; clear _tag; refine (HF2.out _ _ _ S4.out.nodes).mono ?_; rintro e w5 ⟨A5, k5, rfl, hn, hb⟩; have S5 := Lib.hid (S4.out.next hb); have U5 := Lib.hid (World.ownsRow.kept U4.out (grown_of hb) (ne_none _)); have N5 := Lib.hid hn; clear hb hn)
    | (go_at_call 35; refine (HFR.out _ _ (HK.out _ S3.out.2.2) N3.out).mono ?_; rintro e w4 ⟨v4, rfl, ho, hb⟩; obtain ⟨UA, uc, rfl, _⟩ := row_slice ho; have S4 := Lib.hid (S3.out.next hb); have U4 := Lib.hid ho; have c4 := S4.out.c; clear hb ho)
    | (go_at_call 10; refine (HF2.out _ _ _ S2.out.nodes).mono ?_; rintro e w3 ⟨A3, k3, rfl, hn, hb⟩; have S3 := Lib.hid (S2.out.next hb); have N3 := Lib.hid hn; clear hb hn))
  go_wp2_with (first
    | (go_at_call 11; refine (HRM.out _ _ S6.out.nodes).mono ?_; rintro e w7 ⟨rfl, hb⟩; have S7 := Lib.hid (S6.out.next hb); clear hb)
    | (go_at_call 32; refine (HWK.out _ (HK.out _ S7.out.2.2)).mono ?_; rintro e w8 ⟨rfl, hb⟩; have S8 := Lib.hid (S7.out.next hb); clear hb))
  go_ret
  exact ⟨rfl, S8.out.2.2⟩
set_option maxRecDepth 100000 in
set_option maxHeartbeats 16000000 in
theorem frees_ok (a la : List Nd) (A0 : Option Addr) (LA c0 : Nat) (w : World) (X : List ByteArray) (m c1 c2 : Int)
    (HK : Hid (∀ W, Below w.heap.size w W → Kws W.heap.size W))
    (HWK : Hid (∀ W, Kws W.heap.size W → Calls Tryd.prog 32 #[] W fun e W' => e = .returned (.bool true) ∧ Below W.heap.size W W'))
    (HFA : Hid (∀ W, Below w.heap.size w W → Calls Tryd.prog 10 #[.agg #[.slice A0 LA c0]] W (FewPost a W))) (HLA : Hid (few a = la))
    (HF2 : Hid (∀ (W : World) (A : Option Addr) (c : Nat), Nodes W.heap.size W (.slice A la.length c) la → Calls Tryd.prog 10 #[.agg #[.slice A la.length c]] W fun e W' => ∃ A c, e = .returned (.agg #[.slice A la.length c]) ∧ Nodes W'.heap.size W' (.slice A la.length c) la ∧ Below W.heap.size W W'))
    (HFR : Hid (∀ (W : World) (v : Value), Kws W.heap.size W → Nodes W.heap.size W v la → Calls Tryd.prog 35 #[.agg #[v]] W (FrPost X m W)))
    (HCL : Hid (∀ (W : World) (v : Value), Kws W.heap.size W → Nodes W.heap.size W v la → Calls Tryd.prog 36 #[.agg #[v]] W (CloPost (c1, c2) W)))
    (HRM : Hid (∀ (W : World) (v : Value), Nodes W.heap.size W v la → Calls Tryd.prog 11 #[.agg #[v]] W fun e W' => e = .returned (.int .i64 m) ∧ Below W.heap.size W W'))
    (h0 : m = 0) (n : Nat) (HXL : Hid (X.length = n)) (hn : n ≤ 1000) (r : Int)
    (HRC : Hid (∀ (W : World) (v : Value), Nodes W.heap.size W v la → Calls Tryd.prog 37 #[.agg #[v]] W fun e W' => e = .returned (.int .i64 r) ∧ Below W.heap.size W W'))
    (HRF : Hid (∀ (W : World) (v : Value), Nodes W.heap.size W v la → Calls Tryd.prog 39 #[.agg #[v]] W (TxPost X W)))
    (hr : 0 ≤ r ∧ c1 = r ∧ c2 = 10 ∨ r < 0 ∧ c1 = 0 ∧ c2 = 0 ∧ n = 0) :
    Calls Tryd.prog 8 #[.agg #[.slice A0 LA c0]] w fun e w' => e = .returned (.bool true) ∧ Below w.heap.size w w' := by
  have X0 : Hid ((w.alloc (.cells #[.slice A0 LA c0] 24)).heap[w.heap.size]? = some (.cells #[.slice A0 LA c0] 24 (0, 0))) := Lib.hid (newAt rfl)
  have HB0 : Hid (Below w.heap.size w (w.alloc (.cells #[.slice A0 LA c0] 24))) := Lib.hid ((Below.refl _ w).alloc (Nat.le_refl _) _)
  subst h0
  go_enter Tryd.func8, Tryd.ntmps8
  go_upto_region 2 with (go_at_call 10; refine (HFA.out _ HB0.out).mono ?_; rintro e w2 ⟨v2, ps2, rfl, hps2, hown2, hb2⟩; obtain ⟨A2, k2, rfl⟩ := own_slice_len hown2 hps2 HLA.out rfl; have S2 := Lib.hid (SSt.put (below_next HB0.out hb2 (Nat.le_refl _)) (own_lowS hown2 (by simp)) (hps2.trans HLA.out) (blk_next X0.out hb2) rfl); have c2 := S2.out.c; have x2 := blk_next X0.out hb2; have f2 := Blk_frozen x2 0; have d2 : w2.cell? ⟨w.heap.size, 0, none⟩ = some (.slice A0 LA c0) := (Blk_cell x2 0).trans rfl; clear x2 hb2 hown2 hps2)
  clear d2 f2
  go_upto_region 4 with (first
    | (go_at_call 36; refine (HCL.out _ _ (HK.out _ S5.out.2.2) N5.out).mono ?_; rintro e w6 ⟨rfl, hb⟩; have S6 := Lib.hid (S5.out.next hb); have U6 := Lib.hid (World.ownsRow.kept U5.out (grown_of hb) (ne_none _)); have c6 := S6.out.c; clear hb)
    | (go_at_call 10; have _tag := S4.out; clear _tag; refine (HF2.out _ _ _ S4.out.nodes).mono ?_; rintro e w5 ⟨A5, k5, rfl, hn, hb⟩; have S5 := Lib.hid (S4.out.next hb); have U5 := Lib.hid (World.ownsRow.kept U4.out (grown_of hb) (ne_none _)); have N5 := Lib.hid hn; clear hb hn)
    | (go_at_call 35; refine (HFR.out _ _ (HK.out _ S3.out.2.2) N3.out).mono ?_; rintro e w4 ⟨v4, rfl, ho, hb⟩; obtain ⟨UA, uc, rfl, _⟩ := row_slice ho; have S4 := Lib.hid (S3.out.next hb); have U4 := Lib.hid ho; have c4 := S4.out.c; clear hb ho)
    | (go_at_call 10; refine (HF2.out _ _ _ S2.out.nodes).mono ?_; rintro e w3 ⟨A3, k3, rfl, hn, hb⟩; have S3 := Lib.hid (S2.out.next hb); have N3 := Lib.hid hn; clear hb hn))
  rcases hr with ⟨hr0, rfl, rfl⟩ | ⟨hr0, rfl, rfl, rfl⟩
  · have d1 : decide (c1 ≥ 0) = true := by simpa using hr0
    have d2 : (c1 == c1) = true := by simp
    go_wp2_with (first
      | (go_at_call 11; refine (HRM.out _ _ S6.out.nodes).mono ?_; rintro e w7 ⟨rfl, hb⟩; have S7 := Lib.hid (S6.out.next hb); have U7 := Lib.hid (World.ownsRow.kept U6.out (grown_of hb) (ne_none _)); have c7 := S7.out.c; clear hb)
      | (go_at_call 37; refine (HRC.out _ _ S7.out.nodes).mono ?_; rintro e w8 ⟨rfl, hb⟩; have S8 := Lib.hid (S7.out.next hb); have U8 := Lib.hid (World.ownsRow.kept U7.out (grown_of hb) (ne_none _)); have c8 := S8.out.c; clear hb)
      | (go_at_call 39; refine (HRF.out _ _ S8.out.nodes).mono ?_; rintro e w9 ⟨g9, c9, rfl, ho, hb⟩; have S9 := Lib.hid (S8.out.next hb); have U9 := Lib.hid (World.ownsRow.kept U8.out (grown_of hb) (ne_none _)); have T9 := Lib.hid ho; clear hb ho)
      | (go_at_call 38; refine (stexts_any X _ _ _ _ X.length _ (by have := HXL.out; omega) (Lib.hid rfl) U9 T9).mono ?_; rintro e wa ⟨rfl, hb⟩; have Sa := Lib.hid (S9.out.next hb); clear hb)
      | (go_at_call 32; refine (HWK.out _ (HK.out _ Sa.out.2.2)).mono ?_; rintro e wb ⟨rfl, hb⟩; have Sb := Lib.hid (Sa.out.next hb); clear hb))
  
    go_ret
    exact ⟨rfl, Sb.out.2.2⟩
  · have d1 : decide (r ≥ 0) = false := by simpa using hr0
    have hxl := HXL.out
    obtain rfl : X = [] := List.eq_nil_of_length_eq_zero hxl
    clear hxl
    go_wp2_with (first
      | (go_at_call 11; refine (HRM.out _ _ S6.out.nodes).mono ?_; rintro e w7 ⟨rfl, hb⟩; have S7 := Lib.hid (S6.out.next hb); have U7 := Lib.hid (World.ownsRow.kept U6.out (grown_of hb) (ne_none _)); have c7 := S7.out.c; clear hb)
      | (go_at_call 37; refine (HRC.out _ _ S7.out.nodes).mono ?_; rintro e w8 ⟨rfl, hb⟩; have S8 := Lib.hid (S7.out.next hb); have U8 := Lib.hid (World.ownsRow.kept U7.out (grown_of hb) (ne_none _)); have c8 := S8.out.c; clear hb)
      | (go_at_call 39; refine (HRF.out _ _ S8.out.nodes).mono ?_; rintro e w9 ⟨g9, c9, rfl, ho, hb⟩; have S9 := Lib.hid (S8.out.next hb); have U9 := Lib.hid (World.ownsRow.kept U8.out (grown_of hb) (ne_none _)); have T9 := Lib.hid ho; clear hb ho)
      | (go_at_call 38; refine (stexts_any [] _ _ _ _ 0 _ (by omega) (Lib.hid rfl) U9 T9).mono ?_; rintro e wa ⟨rfl, hb⟩; have Sa := Lib.hid (S9.out.next hb); clear hb)
      | (go_at_call 32; refine (HWK.out _ (HK.out _ Sa.out.2.2)).mono ?_; rintro e wb ⟨rfl, hb⟩; have Sb := Lib.hid (Sa.out.next hb); clear hb))
  
    go_ret
    exact ⟨rfl, Sb.out.2.2⟩
end Go.Proofs.YteikpeaakmbihaaDoor.T
/- A copy is in order: its nodes are told in their order; and so is a tree without its binders' names. -/
namespace Go.Proofs.YteikpeaakmbihaaDoor.T
theorem range_glue (a n m : Nat) : List.range' a n ++ List.range' (a + n) m = List.range' a (n + m) := by
  simp
/-- The places below the copy of a node are those of the copy, rising. -/
theorem post_cp {l : List Nd} (hk : kidsOk l) : ∀ i, i < l.length → ∀ (out r : List Nd), kidsOk out → post (cp l i out ++ r) ((cp l i out).length - 1) = List.range' out.length ((cp l i out).length - out.length) := by
  intro i
  induction i using Nat.strongRecOn with
  | ind i ih =>
    intro hi out r ho
    obtain ⟨x, hx⟩ : ∃ x, l[i]? = some x := ⟨_, List.getElem?_eq_getElem hi⟩
    have ha : ahead i x := fun k hk' => hk i x hx k hk'
    have key : ∀ ks : List Int, (∀ k ∈ ks, 0 ≤ k ∧ k < (i : Int)) → ∀ r : List Nd, kidsOk (cps l (out, []) ks).1 ∧ out.length ≤ (cps l (out, []) ks).1.length ∧ (∀ m ∈ (cps l (out, []) ks).2, 0 ≤ m ∧ m < ((cps l (out, []) ks).1.length : Int)) ∧
        ((cps l (out, []) ks).2.flatMap fun m => post ((cps l (out, []) ks).1 ++ r) m.toNat) = List.range' out.length ((cps l (out, []) ks).1.length - out.length) := by
      intro ks
      induction ks using snocInd with
      | h0 => intro _ r; exact ⟨ho, Nat.le_refl _, fun m hm => by simp [cps] at hm, by simp [cps]⟩
      | h1 ks k ih2 =>
        intro hks r
        have hkk := hks k (by simp)
        have e := cp_shift hk k.toNat (by omega) (cps l (out, []) ks).1
        obtain ⟨b1, b2, b3, b4⟩ := ih2 (fun k' hk' => hks k' (by simp [hk'])) ((cp l k.toNat []).map (sh (cps l (out, []) ks).1.length) ++ r)
        obtain ⟨c1, c2, _⟩ := cp_kids hk k.toNat (by omega) _ b1
        have h2 := ih k.toNat (toNat_lt hkk) (by omega) (cps l (out, []) ks).1 r b1
        rw [cps_snoc]
        refine ⟨c1, by show out.length ≤ (cp l k.toNat (cps l (out, []) ks).1).length; omega, fun m hm => ?_, ?_⟩
        · simp only at hm ⊢
          rcases List.mem_append.1 hm with hm | hm
          · have := b3 m hm; omega
          · have := List.mem_singleton.1 hm; omega
        · simp only
          have e3 : (((cp l k.toNat (cps l (out, []) ks).1).length : Int) - 1).toNat = (cp l k.toNat (cps l (out, []) ks).1).length - 1 := by omega
          rw [List.flatMap_append, List.flatMap_cons, List.flatMap_nil, List.append_nil, e3, h2]
          have e4 : ((cps l (out, []) ks).2.flatMap fun m => post (cp l k.toNat (cps l (out, []) ks).1 ++ r) m.toNat) = List.range' out.length ((cps l (out, []) ks).1.length - out.length) := by
            rw [← b4, e, List.append_assoc]
          rw [e4]
          have h3 := range_glue out.length ((cps l (out, []) ks).1.length - out.length) ((cp l k.toNat (cps l (out, []) ks).1).length - (cps l (out, []) ks).1.length)
          rw [show out.length + ((cps l (out, []) ks).1.length - out.length) = (cps l (out, []) ks).1.length by omega] at h3
          rw [h3]
          congr 1
          omega
    have hlen : (cps l (out, []) (kids x)).2.length = (kids x).length := by rw [cps_len2]; simp
    obtain ⟨_, b2, b3, b4⟩ := key (kids x) (fun k hk' => ha k hk') ([wk x (cps l (out, []) (kids x)).2] ++ r)
    have e5 : cp l i out ++ r = (cps l (out, []) (kids x)).1 ++ ([wk x (cps l (out, []) (kids x)).2] ++ r) := by rw [cp_eq hx ha out, List.append_assoc]
    have e7 : (cp l i out).length = (cps l (out, []) (kids x)).1.length + 1 := by rw [cp_eq hx ha out]; simp
    have e6 : (cp l i out).length - 1 = (cps l (out, []) (kids x)).1.length := by omega
    rw [e6, e5, e7]
    have hat : ((cps l (out, []) (kids x)).1 ++ ([wk x (cps l (out, []) (kids x)).2] ++ r))[(cps l (out, []) (kids x)).1.length]? = some (wk x (cps l (out, []) (kids x)).2) := by simp
    have hkw := kids_wk hlen
    rw [post_eq hat (fun k hk' => by rw [hkw] at hk'; exact b3 k hk'), hkw, b4]
    have h3 := range_glue out.length ((cps l (out, []) (kids x)).1.length - out.length) 1
    rw [show out.length + ((cps l (out, []) (kids x)).1.length - out.length) = (cps l (out, []) (kids x)).1.length by omega] at h3
    rw [show (cps l (out, []) (kids x)).1.length + 1 - out.length = (cps l (out, []) (kids x)).1.length - out.length + 1 by omega, ← h3]
    rfl
theorem nrm_post {l : List Nd} (h : may l = 0) : post (nrm l) ((nrm l).length - 1) = List.range (nrm l).length := by
  obtain ⟨h1, _⟩ := may_big h
  have hk := (may_zero h).2.1.2.1
  have e : nrm l = cp l (l.length - 1) [] := by rw [nrm, if_pos h]
  have := post_cp hk (l.length - 1) (by omega) [] [] (fun i x hx => by simp at hx)
  rw [List.append_nil, ← e] at this
  rw [this, List.range_eq_range']
  simp
theorem relab_fbl : ∀ (l : List Fld) (ks : List Int), relab (l.map fbl) ks = (relab l ks).map fbl
  | [], _ => rfl
  | f :: l, [] => rfl
  | f :: l, k :: ks => by
    have := relab_fbl l ks
    simp only [relab, List.map_cons, List.zipWith_cons_cons] at this ⊢
    rw [this]; rfl
theorem wk_bl (x : Nd) (p : Int × Int) (ks : List Int) : wk (bl x p) ks = bl (wk x ks) p := by
  have hk : (wk x ks).kind = x.kind := rfl
  have ho : own (bl x p) = own x := by
    obtain ⟨h1, h2, h3⟩ := bl_abc x p
    unfold own kids0; rw [bl_kind, h1, h2, h3]
  have hm : many (bl x p) = many x := by unfold many; rw [bl_kind]
  unfold wk
  rw [ho, hm]
  by_cases h5 : x.kind = 5 ∨ x.kind = 7 ∨ x.kind = 8
  · rw [show bl x p = { x with nm := xnm } by rw [bl, if_pos h5]]
    rw [bl, if_pos h5]
  · by_cases h14 : x.kind = 14
    · rw [show bl x p = { x with l := x.l.map fbl } by rw [bl, if_neg h5, if_pos h14]]
      rw [bl, if_neg h5, if_pos h14]
      have hmx : many x = true := by unfold many; rw [h14]; rfl
      simp only [hmx, if_true, relab_fbl]
    · by_cases h4 : x.kind = 4 ∧ p ≠ (-1, -1)
      · rw [show bl x p = { x with nm := xnm } by rw [bl, if_neg h5, if_neg h14, if_pos h4]]
        rw [bl, if_neg h5, if_neg h14, if_pos h4]
      · rw [show bl x p = x by rw [bl, if_neg h5, if_neg h14, if_neg h4]]
        rw [bl, if_neg h5, if_neg h14, if_neg h4]
theorem post_bls {N : List Nd} {B : List (Int × Int)} (hl : B.length = N.length) (hk : kidsOk N) : ∀ i, post (bls N B) i = post N i := by
  intro i
  induction i using Nat.strongRecOn with
  | ind i ih =>
    cases hx : N[i]? with
    | none =>
      have h1 : (bls N B)[i]? = none := by
        rw [List.getElem?_eq_none_iff, bls_len hl]; exact List.getElem?_eq_none_iff.1 hx
      rw [post, post, hx, h1]
    | some x =>
      obtain ⟨p, _, hp⟩ := bls_get hl hx
      have ha := hk i x hx
      rw [post_eq hx ha, post_eq hp (by intro k hk'; rw [bl_kids] at hk'; exact ha k hk'), bl_kids]
      congr 1
      have : ∀ ks : List Int, (∀ k ∈ ks, 0 ≤ k ∧ k < (i : Int)) → (ks.flatMap fun k => post (bls N B) k.toNat) = ks.flatMap fun k => post N k.toNat := by
        intro ks
        induction ks with
        | nil => intro _; rfl
        | cons k ks ihk =>
          intro h
          have hk1 := h k (by simp)
          rw [List.flatMap_cons, List.flatMap_cons, ih k.toNat (by omega), ihk fun k' h' => h k' (by simp [h'])]
      exact this _ ha
def fo (l : List Nd) (n k : Nat) : List Nd × List Int := (List.range k).foldl (stp l) ([], List.replicate n 0)
theorem fo_succ (l : List Nd) (n k : Nat) : fo l n (k + 1) = stp l (fo l n k) k := by rw [fo, List.range_succ, List.foldl_append]; rfl
theorem fo_step {l : List Nd} {n k : Nat} {x : Nd} (h : l[k]? = some x) : fo l n (k + 1) = ((fo l n k).1 ++ [wk x ((kids x).map fun m => (fo l n k).2.getD m.toNat 0)], (fo l n k).2.set k ((fo l n k).1.length : Int)) := by
  rw [fo_succ, stp, h]
theorem fo_len {l : List Nd} (n : Nat) : ∀ k, k ≤ l.length → (fo l n k).1.length = k
  | 0, _ => rfl
  | k + 1, h => by
    obtain ⟨x, hx⟩ : ∃ x, l[k]? = some x := ⟨_, List.getElem?_eq_getElem (by omega)⟩
    rw [fo_step hx]
    simp [fo_len (l := l) n k (by omega)]
theorem fo_pre {l : List Nd} (n : Nat) (k : Nat) : ∀ j, k + j ≤ l.length → ∃ r, (fo l n (k + j)).1 = (fo l n k).1 ++ r
  | 0, _ => ⟨[], by simp⟩
  | j + 1, h => by
    obtain ⟨r, hr⟩ := fo_pre (l := l) n k j (by omega)
    obtain ⟨x, hx⟩ : ∃ x, l[k + j]? = some x := ⟨_, List.getElem?_eq_getElem (by omega)⟩
    refine ⟨r ++ [wk x ((kids x).map fun m => (fo l n (k + j)).2.getD m.toNat 0)], ?_⟩
    rw [show k + (j + 1) = k + j + 1 by omega, fo_step hx, hr]
    simp
/-- In order it stays, without its binders' names. -/
theorem nrm_bls {N : List Nd} {B : List (Int × Int)} (hl : B.length = N.length) (hm : may N = 0) (hn : nrm N = N) (hp : post N (N.length - 1) = List.range N.length) : nrm (bls N B) = bls N B := by
  have hm' := bls_may hl hm
  obtain ⟨h1, _⟩ := may_big hm
  have hf := (may_zero hm).2.1
  have hf' := (may_zero hm').2.1
  have hlen := bls_len hl
  have e : ∀ (l : List Nd), may l = 0 → post l (l.length - 1) = List.range l.length → nrm l = (fo l l.length l.length).1 := fun l hml hpl => by
    have hfl := (may_zero hml).2.1
    have h1l := (may_big hml).1
    rw [nrm, if_pos hml, fo, ← hpl, (stp_post hfl.2.1 hfl.2.2.1.1 _ (by omega) _ (by simp)).1]
  have eN := e N hm hp
  have hp' : post (bls N B) ((bls N B).length - 1) = List.range (bls N B).length := by rw [hlen, post_bls hl hf.2.1]; exact hp
  rw [e (bls N B) hm' hp', hlen]
  have hN : (fo N N.length N.length).1 = N := by rw [← eN]; exact hn
  have hpre : ∀ k, k ≤ N.length → (fo N N.length k).1 = N.take k := fun k hk => by
    obtain ⟨r, hr⟩ := fo_pre N.length k (N.length - k) (by omega) (l := N)
    rw [show k + (N.length - k) = N.length by omega, hN] at hr
    have := fo_len N.length k hk (l := N)
    conv => rhs; rw [hr]
    rw [List.take_left' this]
  have key : ∀ k, k ≤ N.length → (fo (bls N B) N.length k).1 = (bls N B).take k ∧ (fo (bls N B) N.length k).2 = (fo N N.length k).2 := by
    intro k
    induction k with
    | zero => intro _; exact ⟨by simp [fo], rfl⟩
    | succ k ih =>
      intro hk
      obtain ⟨i1, i2⟩ := ih (by omega)
      obtain ⟨x, hx⟩ : ∃ x, N[k]? = some x := ⟨_, List.getElem?_eq_getElem (by omega)⟩
      obtain ⟨p, _, hb⟩ := bls_get hl hx
      have hs := fo_step (n := N.length) hx
      have hw : wk x ((kids x).map fun m => (fo N N.length k).2.getD m.toNat 0) = x := by
        have h2 := hpre (k + 1) hk
        rw [hs, take_snoc _ _ _ hx, hpre k (by omega)] at h2
        simpa using h2
      rw [fo_step hb, bl_kids, i2, i1, wk_bl, hw, take_snoc _ _ _ hb, hs]
      refine ⟨rfl, ?_⟩
      rw [hpre k (by omega), List.length_take, List.length_take, hlen]
  have := (key N.length (Nat.le_refl _)).1
  rw [this, List.take_of_length_le (by omega)]
end Go.Proofs.YteikpeaakmbihaaDoor.T
/- Free names, by what stands around; a tree in order has the same. -/
namespace Go.Proofs.YteikpeaakmbihaaDoor.T
/-- The names that a node adds around its k-th child. -/
def nsK (x : Nd) (k : Nat) (ns : List (List UInt8)) : List (List UInt8) :=
  if x.kind = 5 ∨ x.kind = 8 then x.nm.toList :: ns
  else if x.kind = 7 then (if k = 1 then x.nm.toList :: ns else ns)
  else if x.kind = 14 then (if 0 < k then (vrAt x (k - 1)).toList :: ns else ns)
  else ns
/-- The free names below a node. -/
def fN (l : List Nd) (i : Nat) (ns : List (List UInt8)) : List (List UInt8) :=
  match l[i]? with
  | none => []
  | some x => ((kids x).zipIdx.flatMap fun (p : Int × Nat) => if _h : p.1.toNat < i then fN l p.1.toNat (nsK x p.2 ns) else []) ++ if x.kind = 4 ∧ x.nm.toList ∉ ns then [x.nm.toList] else []
termination_by i
theorem flatMap_same {α β : Type} {f g : α → List β} : ∀ (l : List α), (∀ a ∈ l, f a = g a) → l.flatMap f = l.flatMap g
  | [], _ => rfl
  | a :: l, h => by rw [List.flatMap_cons, List.flatMap_cons, h a (by simp), flatMap_same l fun a' h' => h a' (by simp [h'])]
theorem fN_eq {l : List Nd} {i : Nat} {x : Nd} (h : l[i]? = some x) (ha : ahead i x) (ns : List (List UInt8)) : fN l i ns = ((kids x).zipIdx.flatMap fun (p : Int × Nat) => fN l p.1.toNat (nsK x p.2 ns)) ++ if x.kind = 4 ∧ x.nm.toList ∉ ns then [x.nm.toList] else [] := by
  rw [fN, h]
  simp only
  congr 1
  refine flatMap_same _ fun p hp => ?_
  have hm : p.1 ∈ kids x := by
    have := List.mem_zipIdx hp
    exact List.mem_of_getElem (this.2.2.symm)
  have := ha _ hm
  rw [dif_pos (by omega)]
theorem look_none {env : List Rch} (h : ∀ r ∈ env, 0 ≤ r.nd) (s : ByteArray) : look env s = (-1, -1) ↔ s.toList ∉ env.map fun r => r.nm.toList := by
  induction env with
  | nil => simp [look]
  | cons r env ih =>
    have ih := ih fun r' h' => h r' (by simp [h'])
    rw [look]
    by_cases he : (r.nm.toList == s.toList) = true
    · rw [if_pos he]
      have h1 := h r (by simp)
      have h2 : r.nm.toList = s.toList := by simpa using he
      constructor
      · intro h; have := congrArg Prod.fst h; simp at this; omega
      · intro h; exact absurd (by simp [h2]) h
    · rw [if_neg he, ih]
      have h2 : ¬ s.toList = r.nm.toList := fun e => he (by simp [e])
      simp [h2]
theorem ofK_names (x : Nd) (i k : Nat) (env : List Rch) : (ofK x i k env).map (fun r => r.nm.toList) = nsK x k (env.map fun r => r.nm.toList) := by
  unfold ofK nsK
  split
  · rfl
  · split
    · split <;> rfl
    · split
      · split <;> rfl
      · rfl
/-- What is free below a node. -/
theorem fN_mem {l : List Nd} {U : List Int} (hk : kidsOk l) (hn : (allKids l).Nodup) (hU : ∀ (i : Nat) (x : Nd) (k : Int), l[i]? = some x → k ∈ kids x → U[k.toNat]? = some (i : Int)) :
    ∀ i, i < l.length → ∀ (env : List Rch), (∀ s, look env s = upw l U i s) → (∀ r ∈ env, 0 ≤ r.nd) → ∀ b, b ∈ fN l i (env.map fun r => r.nm.toList) ↔ ∃ m ∈ post l i, ∃ y, l[m]? = some y ∧ y.kind = 4 ∧ y.nm.toList = b ∧ upw l U m y.nm = (-1, -1) := by
  intro i
  induction i using Nat.strongRecOn with
  | ind i ih =>
    intro hi env he hg b
    obtain ⟨x, hx⟩ : ∃ x, l[i]? = some x := ⟨_, List.getElem?_eq_getElem hi⟩
    have ha := hk i x hx
    have hnd := kids_nodup hn hx
    rw [fN_eq hx ha, post_eq hx ha, List.mem_append]
    have key : ∀ (ks r : List Int), ks ++ r = kids x → (b ∈ (ks.zipIdx.flatMap fun (p : Int × Nat) => fN l p.1.toNat (nsK x p.2 (env.map fun r => r.nm.toList))) ↔ ∃ m ∈ ks.flatMap (fun k => post l k.toNat), ∃ y, l[m]? = some y ∧ y.kind = 4 ∧ y.nm.toList = b ∧ upw l U m y.nm = (-1, -1)) := by
      intro ks
      induction ks using snocInd with
      | h0 => intro r _; simp
      | h1 ks k ihk =>
        intro r hr
        have h1 := ihk (k :: r) (by simpa using hr)
        have hkm : (kids x)[ks.length]? = some k := by rw [← hr]; simp
        have hkk := ha k (List.mem_of_getElem? hkm)
        have hki : k.toNat < i := by omega
        have hup : ∀ s, look (ofK x i ks.length env) s = upw l U k.toNat s := fun s => by
          rw [look_ofK hnd hkm, upw_kid (hU i x k hx (List.mem_of_getElem? hkm)) hx hki, he s]
          rw [show ((k.toNat : Nat) : Int) = k by omega]
        have h2 := ih k.toNat hki (by omega) _ hup (ofK_good hg) b
        rw [ofK_names] at h2
        rw [zip_snoc, List.flatMap_append, List.flatMap_append, List.mem_append, h1, List.flatMap_cons, List.flatMap_nil, List.append_nil, h2, List.flatMap_cons, List.flatMap_nil, List.append_nil]
        constructor
        · rintro (⟨m, hm, h⟩ | ⟨m, hm, h⟩)
          · exact ⟨m, List.mem_append_left _ hm, h⟩
          · exact ⟨m, List.mem_append_right _ hm, h⟩
        · rintro ⟨m, hm, h⟩
          rcases List.mem_append.1 hm with hm | hm
          · exact .inl ⟨m, hm, h⟩
          · exact .inr ⟨m, hm, h⟩
    rw [key (kids x) [] (by simp)]
    have hlk := look_none hg x.nm
    constructor
    · rintro (⟨m, hm, h⟩ | h)
      · exact ⟨m, List.mem_append_left _ hm, h⟩
      · by_cases hc : x.kind = 4 ∧ x.nm.toList ∉ env.map fun r => r.nm.toList
        · rw [if_pos hc] at h
          obtain rfl : b = x.nm.toList := by simpa using h
          exact ⟨i, by simp, x, hx, hc.1, rfl, by rw [← he]; exact hlk.2 hc.2⟩
        · rw [if_neg hc] at h; simp at h
    · rintro ⟨m, hm, y, hy, h4, hb, hup⟩
      rcases List.mem_append.1 hm with hm | hm
      · exact .inl ⟨m, hm, y, hy, h4, hb, hup⟩
      · obtain rfl : m = i := by simpa using hm
        rw [hx] at hy
        obtain rfl := Option.some.inj hy
        right
        rw [if_pos ⟨h4, hlk.1 (by rw [he]; exact hup)⟩]
        simp [hb]
theorem vrAt_wk {x : Nd} {ks : List Int} (h : ks.length = (kids x).length) (hm : x.kind = 14) (k : Nat) : (vrAt (wk x ks) k).toList = (vrAt x k).toList := by
  have hmx : many x = true := by unfold many; rw [hm]; rfl
  have hl : (wk x ks).l = relab x.l (ks.drop (own x)) := by simp [wk, hmx]
  have hlen : (ks.drop (own x)).length = x.l.length := by
    rw [kids_length, if_pos hmx] at h; rw [List.length_drop]; omega
  have key : ∀ (l : List Fld) (js : List Int), js.length = l.length → ∀ j : Nat, (relab l js)[j]?.map Fld.vr = l[j]?.map Fld.vr := by
    intro l
    induction l with
    | nil => intro js _ j; simp [relab]
    | cons f l ih =>
      intro js hj j
      cases js with
      | nil => simp at hj
      | cons z js =>
        cases j with
        | zero => rfl
        | succ j => exact ih js (by simpa using hj) j
  rw [vrAt, vrAt, hl, key _ _ hlen]
theorem nsK_wk {x : Nd} {ks : List Int} (h : ks.length = (kids x).length) (k : Nat) (ns : List (List UInt8)) : nsK (wk x ks) k ns = nsK x k ns := by
  have hk : (wk x ks).kind = x.kind := rfl
  have hn : (wk x ks).nm = x.nm := rfl
  unfold nsK
  rw [hk, hn]
  split
  · rfl
  · split
    · rfl
    · split
      · rename_i h14
        rw [vrAt_wk h h14]
      · rfl
/-- Below the copy of a node the same is free. -/
theorem fN_cp {l : List Nd} (hk : kidsOk l) : ∀ i, i < l.length → ∀ (out r : List Nd) (ns : List (List UInt8)), kidsOk out → fN (cp l i out ++ r) ((cp l i out).length - 1) ns = fN l i ns := by
  intro i
  induction i using Nat.strongRecOn with
  | ind i ih =>
    intro hi out r ns ho
    obtain ⟨x, hx⟩ : ∃ x, l[i]? = some x := ⟨_, List.getElem?_eq_getElem hi⟩
    have ha : ahead i x := fun k hk' => hk i x hx k hk'
    have key : ∀ ks : List Int, (∀ k ∈ ks, 0 ≤ k ∧ k < (i : Int)) → ∀ r : List Nd, kidsOk (cps l (out, []) ks).1 ∧ (cps l (out, []) ks).2.length = ks.length ∧ (∀ m ∈ (cps l (out, []) ks).2, 0 ≤ m ∧ m < ((cps l (out, []) ks).1.length : Int)) ∧
        ((cps l (out, []) ks).2.zipIdx.flatMap fun (p : Int × Nat) => fN ((cps l (out, []) ks).1 ++ r) p.1.toNat (nsK x p.2 ns)) = ks.zipIdx.flatMap fun (p : Int × Nat) => fN l p.1.toNat (nsK x p.2 ns) := by
      intro ks
      induction ks using snocInd with
      | h0 => intro _ r; exact ⟨ho, rfl, fun m hm => by simp [cps] at hm, by simp [cps]⟩
      | h1 ks k ih2 =>
        intro hks r
        have hkk := hks k (by simp)
        have e := cp_shift hk k.toNat (by omega) (cps l (out, []) ks).1
        obtain ⟨b1, b2, b3, b4⟩ := ih2 (fun k' hk' => hks k' (by simp [hk'])) ((cp l k.toNat []).map (sh (cps l (out, []) ks).1.length) ++ r)
        obtain ⟨c1, c2, _⟩ := cp_kids hk k.toNat (by omega) _ b1
        have h2 := ih k.toNat (toNat_lt hkk) (by omega) (cps l (out, []) ks).1 r (nsK x ks.length ns) b1
        rw [cps_snoc]
        refine ⟨c1, by simp [b2], fun m hm => ?_, ?_⟩
        · simp only at hm ⊢
          rcases List.mem_append.1 hm with hm | hm
          · have := b3 m hm; omega
          · have := List.mem_singleton.1 hm; omega
        · simp only
          have e3 : (((cp l k.toNat (cps l (out, []) ks).1).length : Int) - 1).toNat = (cp l k.toNat (cps l (out, []) ks).1).length - 1 := by omega
          rw [zip_snoc, zip_snoc, List.flatMap_append, List.flatMap_append, List.flatMap_cons, List.flatMap_nil, List.append_nil, List.flatMap_cons, List.flatMap_nil, List.append_nil, b2]
          simp only
          rw [e3, h2]
          have e4 : ((cps l (out, []) ks).2.zipIdx.flatMap fun (p : Int × Nat) => fN (cp l k.toNat (cps l (out, []) ks).1 ++ r) p.1.toNat (nsK x p.2 ns)) = ks.zipIdx.flatMap fun (p : Int × Nat) => fN l p.1.toNat (nsK x p.2 ns) := by
            rw [← b4, e, List.append_assoc]
          rw [e4]
    have hlen : (cps l (out, []) (kids x)).2.length = (kids x).length := by rw [cps_len2]; simp
    obtain ⟨_, _, b3, b4⟩ := key (kids x) (fun k hk' => ha k hk') ([wk x (cps l (out, []) (kids x)).2] ++ r)
    have e5 : cp l i out ++ r = (cps l (out, []) (kids x)).1 ++ ([wk x (cps l (out, []) (kids x)).2] ++ r) := by rw [cp_eq hx ha out, List.append_assoc]
    have e6 : (cp l i out).length - 1 = (cps l (out, []) (kids x)).1.length := by rw [cp_eq hx ha out]; simp
    rw [e6, e5]
    have hat : ((cps l (out, []) (kids x)).1 ++ ([wk x (cps l (out, []) (kids x)).2] ++ r))[(cps l (out, []) (kids x)).1.length]? = some (wk x (cps l (out, []) (kids x)).2) := by simp
    have hkw := kids_wk hlen
    rw [fN_eq hat (fun k hk' => by rw [hkw] at hk'; exact b3 k hk'), fN_eq hx ha, hkw]
    have hk4 : (wk x (cps l (out, []) (kids x)).2).kind = x.kind := rfl
    have hn4 : (wk x (cps l (out, []) (kids x)).2).nm = x.nm := rfl
    rw [hk4, hn4]
    congr 1
    rw [← b4]
    exact flatMap_same _ fun p _ => by rw [nsK_wk hlen]
end Go.Proofs.YteikpeaakmbihaaDoor.T
