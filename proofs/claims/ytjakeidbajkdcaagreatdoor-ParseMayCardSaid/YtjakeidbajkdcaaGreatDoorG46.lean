/- Joined by program: AProg, AProgB. -/
import Derived.Test.YtjakeidbajkdcaaGreatDoorG44
import Derived.Test.YtjakeidbajkdcaaGreatDoorG45
import Derived.Test.YtjakeidbajkdcaaGreatDoorG20
import Derived.RegionTactic
/- program: what was read, as a tree, or the first error. -/
namespace Go.Proofs.YtjakeidbajkdcaaGreatDoor.A
open T Go.RowKit Go.Shelf
attribute [local go_sem] field_p field_s field_n
set_option maxRecDepth 100000 in
theorem may1_any (x : Nd) (A : Option Addr) (n c : Nat) (w : World) : Calls Tryz.prog 89 #[.agg #[.int .i64 x.kind, .int .i64 x.a, .int .i64 x.b, .int .i64 x.c, .int .i64 x.n, .string x.nm, .string x.s, .slice A n c, .int .i64 x.pos]] w fun e w' => e = .returned (.bool (decide (1048576 < x.pos))) ∧ Below w.heap.size w w' := by
  obtain ⟨p, hp⟩ : ∃ p, x.pos = p := ⟨_, rfl⟩
  rw [hp]
  by_cases h : 1048576 < p
  · rw [decide_eq_true h]
    go_enter Tryz.func89, Tryz.ntmps89
    go_wp2
    go_ret
    exact ⟨rfl, (Below.refl _ w).alloc (Nat.le_refl _) _⟩
  · rw [decide_eq_false h]
    go_enter Tryz.func89, Tryz.ntmps89
    go_wp2
    go_ret
    exact ⟨rfl, (Below.refl _ w).alloc (Nat.le_refl _) _⟩
set_option maxRecDepth 100000 in
set_option maxHeartbeats 4000000 in
theorem idxn_any (l : List Nd) (L c : Nat) (A : Option Addr) (w : World) (HL : Hid (l.length = L)) (hL : L ≤ 1000000) (HN : Hid (0 < L → ∃ b o, A = some (⟨b, o, none⟩ : Addr) ∧ b < w.heap.size ∧ NdsAt w.heap.size w b o l)) :
    Calls Tryz.prog 130 #[.slice A L c, .func (.func 89) #[] #[]] w (FxPost (l.any fun x => decide (1048576 < x.pos)) w) := by
  go_enter Tryz.func130, Tryz.ntmps130
  go_wp2
  go_loopw [8] (fun i wr => ∃ q : Nat, i = .int .i64 (q : Int) ∧ q ≤ L ∧ Hid ((l.take q).any (fun x => decide (1048576 < x.pos)) = false) ∧ Hid (Below w.heap.size w wr)) (fun i _ => L - (intOf i).toNat)
  case atStart => exact ⟨0, rfl, Nat.zero_le _, Lib.hid (by simp), Lib.hid (Below.refl _ _)⟩
  case round =>
    obtain ⟨q, rfl, hq, HC, HB⟩ := hrel
    have hsz := HB.out.size
    by_cases hlt : q < L
    · obtain ⟨x, hx⟩ : ∃ x, l[q]? = some x := ⟨_, List.getElem?_eq_getElem (by rw [HL.out]; exact hlt)⟩
      obtain ⟨b, o, rfl, hb, hn⟩ := HN.out (by omega)
      obtain ⟨fv, hfl, m0, m1, m2, m3, m4, m5, m6, m7, m8⟩ := (NdsAt.below hn HB.out hb) q x hx
      obtain ⟨FA, fc, rfl, _⟩ := hfl
      have HNN := Lib.hid hn
      clear hn
      cases hp : decide (1048576 < x.pos) with
      | true =>
        have HY := Lib.hid (any_yes (fun x : Nd => decide (1048576 < x.pos)) l q x hx hp)
        have HP := Lib.hid hp
        clear hx hp
        go_wp2_with (go_at_call 89; refine (may1_any x FA _ fc wr).mono ?_; rintro e w1 ⟨rfl, hb1⟩; rw [HP.out]; have HBB := Lib.hid hb1; clear hb1)
        go_ret
        exact ⟨⟨_, rfl, by rw [HY.out]; simp⟩, HB.out.trans (HBB.out.mono hsz)⟩
      | false =>
        have HY := Lib.hid (any_no (fun x : Nd => decide (1048576 < x.pos)) l q x hx HC.out hp)
        have HP := Lib.hid hp
        clear hx hp
        go_wp2_with (go_at_call 89; refine (may1_any x FA _ fc wr).mono ?_; rintro e w1 ⟨rfl, hb1⟩; rw [HP.out]; have HBB := Lib.hid hb1; clear hb1)
        go_roundw
        case rel => exact ⟨q + 1, by go_num, by omega, HY, Lib.hid (HB.out.trans (HBB.out.mono hsz))⟩
        case measure => simp [intOf]; omega
    · obtain rfl : q = L := by omega
      go_wp2
      go_ret
      exact ⟨⟨_, rfl, by have := HC.out; rw [List.take_of_length_le (by rw [HL.out]; omega)] at this; rw [this]; rfl⟩, HB.out⟩
set_option maxRecDepth 100000 in
theorem contn_any (l : List Nd) (v : Value) (w : World) (t : Bool) (ht : far l = t) (hL : l.length ≤ 1000000) (hv : Nodes w.heap.size w v l) :
    Calls Tryz.prog 88 #[v, .func (.func 89) #[] #[]] w fun e w' => e = .returned (.bool t) ∧ Below w.heap.size w w' := by
  obtain ⟨A, c, rfl, _, _, hh⟩ := hv
  obtain ⟨L, hl⟩ : ∃ L, l.length = L := ⟨_, rfl⟩
  rw [hl] at hh hL ⊢
  have HC := Lib.hid (idxn_any l L c A w (Lib.hid hl) hL (Lib.hid hh))
  rw [show (l.any fun x => decide (1048576 < x.pos)) = t from ht] at HC
  clear ht hh hl
  go_enter Tryz.func88, Tryz.ntmps88
  go_wp2_with (go_at_call 130; refine HC.out.mono ?_; rintro e w1 ⟨⟨r, rfl, hr⟩, hb1⟩)
  go_ret
  exact ⟨ret_b (by first | exact hr | simp), hb1⟩
/-- may's error, of nodes. -/
noncomputable def mayE (l : List Nd) : Int := if far l = true then 7 else may l
set_option maxRecDepth 100000 in
set_option maxHeartbeats 1000000 in
theorem mayp_any (l : List Nd) (v : Value) (w : World) (hK : Kws w.heap.size w) (hv : Nodes w.heap.size w v l) (hS : ∀ x ∈ l, Small x) (hL : l.length ≤ 1000000) :
    Calls Tryz.prog 55 #[.agg #[v]] w fun e w' => e = .returned (.int .i64 (mayE l)) ∧ Below w.heap.size w w' := by
  have hal : Below w.heap.size w (w.alloc (.cells #[v] 25)) := (Below.refl _ w).alloc (Nat.le_refl _) _
  have HC := fun t ht => Lib.hid (contn_any l v (w.alloc (.cells #[v] 25)) t ht hL ((hv.below hal).mono hal.size))
  have HM : Hid (∀ W, Below (w.alloc (.cells #[v] 25)).heap.size (w.alloc (.cells #[v] 25)) W → Calls Tryz.prog 13 #[.agg #[v]] W fun e w' => e = .returned (.int .i64 (may l)) ∧ Below W.heap.size W w') := Lib.hid fun W hb =>
    may_any l v W (Kws_mono ((Kws_mono (hK.on hal) hal.size).on hb) hb.size) ((((hv.below hal).mono hal.size).below hb).mono hb.size) hS
  have HAL := Lib.hid hal
  have HCL : Hid (∃ A c, v = .slice A l.length c) := Lib.hid (by obtain ⟨A, c, e, _⟩ := hv; exact ⟨A, c, e⟩)
  obtain ⟨A, c, rfl⟩ := HCL.out
  unfold mayE
  clear hv hS hK HCL hal
  cases hf : far l with
  | true =>
    have H1 := HC true hf
    rw [if_pos rfl]
    clear HC hf
    go_enter Tryz.func55, Tryz.ntmps55
    go_wp2_with (go_at_call 88; refine H1.out.mono ?_; rintro e w1 ⟨rfl, hb1⟩)
    go_ret
    exact ⟨rfl, HAL.out.trans (hb1.mono (by simp))⟩
  | false =>
    have H1 := HC false hf
    rw [if_neg (by decide)]
    obtain ⟨m, hm⟩ : ∃ m, may l = m := ⟨_, rfl⟩
    rw [hm] at HM ⊢
    clear HC hf hm
    go_enter Tryz.func55, Tryz.ntmps55
    go_wp2_with (first
      | (go_at_call 13; refine (HM.out _ H2.out).mono ?_; rintro e w2 ⟨rfl, hb2⟩)
      | (go_at_call 88; refine H1.out.mono ?_; rintro e w1 ⟨rfl, hb1⟩; have H2 := Lib.hid hb1; have hc1 := (hb1.cell (p := ⟨w.heap.size, 0, none⟩) (by simp)).trans (Blk_cell (World.alloc_heap_new w (.cells #[.slice A l.length c] 25)) 0); clear hb1))
    go_ret
    exact ⟨rfl, HAL.out.trans ((H2.out.mono (by simp)).trans (hb2.mono (by have := H2.out.size; simp at this; omega)))⟩
end Go.Proofs.YtjakeidbajkdcaaGreatDoor.A
/- program, of a state. -/
namespace Go.Proofs.YtjakeidbajkdcaaGreatDoor.A
open T Go.RowKit Go.Shelf
attribute [local go_sem] field_p field_s field_n
/-- A tree, a place, an error. -/
def PPost (B : Nat) (t : List Nd) (n er : Int) (w : World) (e : Ending) (w' : World) : Prop := ∃ v ps, e = .returned (.tuple #[.agg #[v], .int .i64 n, .int .i64 er]) ∧ ps.map Prod.fst = t ∧ OwnN B w' v ps ∧ Below w.heap.size w w'
section
variable {Av : Nat → Prop} {B rb b : Nat} {w w' W : World} {s s' : PS}
theorem res28 (tmps : Array Value) (W : World) (p : Nat) (A : Option Addr) (n c : Nat) (z er : Int) (h2 : tmps[2]?.getD undef = .pointer (some ⟨p, 0, none⟩)) (h3 : tmps[3]?.getD undef = .int .i64 z) (h4 : tmps[4]?.getD undef = .int .i64 er) (hb : W.cell? ⟨p, 0, none⟩ = some (.slice A n c)) :
    Sem.run Tryz.prog (results Tryz.f28 tmps) W = .ok (.tuple #[.agg #[.slice A n c], .int .i64 z, .int .i64 er]) W := by
  simp [results, Tryz.results28, go_sem, h2, h3, h4, hb]
set_option maxRecDepth 100000 in
set_option maxHeartbeats 4000000 in
theorem prog_bad (h : St Av B rb b w s) (he : s.err ≠ 0) : Calls Tryz.prog 28 #[.pointer (some ⟨rb, 0, none⟩)] w (PPost B [] s.place s.err w) := by
  have hb0 : Below w.heap.size w (w.alloc (.cells #[.slice none 0 0] 25)) := (Below.refl _ w).alloc (Nat.le_refl _) _
  obtain ⟨p, v, hp, _⟩ := (h.alloc (.cells #[.slice none 0 0] 25)).rb_
  obtain ⟨c0, c1, c2, c3, c4⟩ := hp.cells
  have f0 : (w.alloc (.cells #[.slice none 0 0] 25)).frozen? ⟨w.heap.size, 0, none⟩ = false := Blk_frozen (World.alloc_heap_new w _) 0
  have d0 : (w.alloc (.cells #[.slice none 0 0] 25)).cell? ⟨w.heap.size, 0, none⟩ = some (.slice none 0 0) := Blk_cell (World.alloc_heap_new w _) 0
  have hz : (s.err != 0) = true := by simpa using he
  have HB := Lib.hid hb0
  have hl := h.rlt
  have hne : ¬ (w.heap.size = rb) := by omega
  have hne2 : ¬ (rb = w.heap.size) := by omega
  clear h hp he hb0
  go_enter Tryz.func28, Tryz.ntmps28
  go_wp2
  go_region
  all_goals
    go_wp2
    refine bodyPost_ret (res28 _ _ w.heap.size none 0 0 _ _ rfl rfl rfl (by go_simp)) rfl ⟨_, [], rfl, rfl, ownN_nil _ _, HB.out.drew⟩
set_option maxRecDepth 100000 in
set_option maxHeartbeats 4000000 in
theorem prog_good (h : St Av B rb b w s) (he : s.err = 0) (hK : Kws w.heap.size w) (hS : ∀ x ∈ s.N, Small x) (hL : s.N.length ≤ 1000000) : Calls Tryz.prog 28 #[.pointer (some ⟨rb, 0, none⟩)] w (PPost B (if mayE s.N = 0 then s.N else []) 0 (mayE s.N) w) := by
  obtain ⟨p, v, ps, h1, h2, h3, h4⟩ := h.at_
  obtain ⟨A, c, hv, _⟩ := own_nodes h4.1
  rw [h3] at hv
  subst hv
  have hn := own_nodes h4.1
  rw [h3] at hn
  have hb0 : Below w.heap.size w (w.alloc (.cells #[.slice none 0 0] 25)) := (Below.refl _ w).alloc (Nat.le_refl _) _
  have hb1 : Below w.heap.size w ((w.alloc (.cells #[.slice none 0 0] 25)).alloc (.cells #[.slice A s.N.length c] 25)) := hb0.alloc (by simp) _
  have h0 := h.alloc (.cells #[.slice none 0 0] 25)
  have hp : Rb (w.alloc (.cells #[.slice none 0 0] 25)) rb p (.slice A s.N.length c) s := (hb0.block rb h.rlt).trans h1
  obtain ⟨c0, c1, c2, c3, c4⟩ := hp.cells
  have hz : (s.err != 0) = false := by simpa using he
  have hlt := h.rlt
  have HM := Lib.hid (mayp_any s.N _ _ (Kws_mono (hK.on hb1) hb1.size) ((hn.below hb1).mono hb1.size) hS hL)
  have HO : Hid (∀ W, Below (w.heap.size + 1) ((w.alloc (.cells #[.slice none 0 0] 25)).alloc (.cells #[.slice A s.N.length c] 25)) W → ∀ u : Value, OwnN B (W.setCell ⟨w.heap.size, 0, none⟩ u) (.slice A s.N.length c) ps) := Lib.hid fun W hb u => by
    have hbb : Below w.heap.size w W := hb1.trans (hb.mono (by omega))
    have h5 := ownN_grow h4.1 (grown_of hbb)
    refine ⟨⟨h5.1.1, ?_⟩, fun x hx => ⟨(h5.2 x hx).1, ?_⟩⟩
    · rcases h4.1.1.2 with e0 | ⟨g, cap, cur, e1, e2, e3, e4⟩
      · exact .inl e0
      · have hg := (Array.getElem?_eq_some_iff.1 e3).1
        exact .inr ⟨g, cap, cur, e1, e2, (set_far _ _ _ _ _ (by omega)).trans ((hbb.block g hg).trans e3), e4⟩
    · rcases (h4.1.2 x hx).2 with e0 | ⟨g, cap, cur, e1, e2, e3, e4⟩
      · exact .inl e0
      · have hg := (Array.getElem?_eq_some_iff.1 e3).1
        exact .inr ⟨g, cap, cur, e1, e2, (set_far _ _ _ _ _ (by omega)).trans ((hbb.block g hg).trans e3), e4⟩
  have HB1 := Lib.hid hb1
  have HN := Lib.hid h3
  obtain ⟨m, hm⟩ : ∃ m, s.N.length = m := ⟨_, rfl⟩
  obtain ⟨N, hNN⟩ : ∃ N, s.N = N := ⟨_, rfl⟩
  rw [hm] at HM HO HB1 c1
  rw [hNN] at HM HN ⊢
  obtain ⟨q, hq⟩ : ∃ q, mayE N = q := ⟨_, rfl⟩
  rw [hq] at HM ⊢
  clear h h1 h2 h3 h4 hn hb0 hb1 h0 hp he hK hS hL hm hNN hq
  by_cases h0 : q = 0
  · subst h0
    rw [if_pos rfl]
    go_enter Tryz.func28, Tryz.ntmps28
    go_wp2_with (go_at_call 55; refine HM.out.mono ?_; rintro e w1 ⟨rfl, hb1⟩; have k0 := (hb1.cell (p := ⟨w.heap.size, 0, none⟩) (by simp; omega)).trans (Blk_cell (nextAt (World.alloc_heap_new w (.cells #[.slice none 0 0] 25))) 0); have k1 := (hb1.cell (p := ⟨w.heap.size + 1, 0, none⟩) (by simp)).trans (Blk_cell (newAt (W := w.alloc (.cells #[.slice none 0 0] 25)) (o := .cells #[.slice A m c] 25) (by simp)) 0); have k2 : w1.frozen? ⟨w.heap.size, 0, none⟩ = false := (hb1.frozen (p := ⟨w.heap.size, 0, none⟩) (by simp; omega)).trans (Blk_frozen (nextAt (World.alloc_heap_new w (.cells #[.slice none 0 0] 25))) 0); have HX := Lib.hid hb1; clear hb1)
    exact bodyPost_ret (res28 _ _ w.heap.size A m c _ _ rfl rfl rfl (by go_simp)) rfl ⟨_, ps, rfl, HN.out, HO.out _ (HX.out.mono (by simp)) _, (HB1.out.trans (HX.out.mono (by simp; omega))).setCell (p := ⟨w.heap.size, 0, none⟩) (Nat.le_refl _) _⟩
  · have hz2 : (q != 0) = true := by simpa using h0
    rw [if_neg h0]
    clear h0
    go_enter Tryz.func28, Tryz.ntmps28
    go_wp2_with (go_at_call 55; refine HM.out.mono ?_; rintro e w1 ⟨rfl, hb1⟩; have k0 := (hb1.cell (p := ⟨w.heap.size, 0, none⟩) (by simp; omega)).trans (Blk_cell (nextAt (World.alloc_heap_new w (.cells #[.slice none 0 0] 25))) 0); have k2 : w1.frozen? ⟨w.heap.size, 0, none⟩ = false := (hb1.frozen (p := ⟨w.heap.size, 0, none⟩) (by simp; omega)).trans (Blk_frozen (nextAt (World.alloc_heap_new w (.cells #[.slice none 0 0] 25))) 0); have HX := Lib.hid hb1; clear hb1)
    exact bodyPost_ret (res28 _ _ w.heap.size none 0 0 _ _ rfl rfl rfl (by go_simp)) rfl ⟨_, [], rfl, rfl, ownN_nil _ _, (HB1.out.trans (HX.out.mono (by simp; omega))).setCell (p := ⟨w.heap.size, 0, none⟩) (Nat.le_refl _) _⟩
end
end Go.Proofs.YtjakeidbajkdcaaGreatDoor.A
