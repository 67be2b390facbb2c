/- Joined by program. -/
import Derived.Test.YtjakeidbajkdcaaGreatDoorH44
import Derived.Test.YtjakeidbajkdcaaGreatDoorH45
import Derived.Test.YtjakeidbajkdcaaGreatDoorH32
import Derived.Test.YtjakeidbajkdcaaGreatDoorH18
import Derived.Test.YtjakeidbajkdcaaGreatDoorH38
import Derived.Test.YtjakeidbajkdcaaGreatDoorH17
import Derived.KernelRfl
import Derived.RegionTactic
set_option maxRecDepth 100000
set_option maxHeartbeats 8000000
namespace Go.Proofs.YtjakeidbajkdcaaGreatDoor.A
open T Go.RowKit L
noncomputable def asked (s : ByteArray) : List Nd × Int × Int := if err s = 0 then told (whole (place s) (tks s)) else ([], place s, err s)
theorem own_low {B B' : Nat} {W : World} {v : Value} {ps : List (Nd × Value)} (h : OwnN B' W v ps) (hB : B <= B') : OwnN B W v ps := ⟨row_mono h.1 hB, fun x hx => row_mono (h.2 x hx) hB⟩
theorem clon_small {x : Nd} (h : Clonable x) : Small x := ⟨by have := h.1; omega, by have := h.2.1; omega, h.2.2.1, fun f hf => by have := h.2.2.2 f hf; omega⟩
theorem kpt_below {rb b B : Nat} {w w' : World} (h : Kpt rb b w w') (hr : B <= rb) (hb : B <= b) (hn : ∀ k, nbk w rb = some k -> B <= k) (hB : B <= w.heap.size) : Below B w w' :=
  h.fr.below (fun k hk => hk.elim (fun e => e ▸ hr) fun hk => hk.elim (fun e => e ▸ hb) (hn k)) hB
theorem read_all {l : List Tk} {E : Int} (hl : l.length <= 200000) (ht : ∀ t ∈ l, t.s.size <= 281474976710656) : ∃ a s1, exprP 101 ⟨l, E, false, 0, 0, [], 0⟩ = some (a, s1) /\
    ((∃ e p, told (whole E l) = ([], p, e) /\ s1.fin.err = e /\ s1.fin.place = p /\ e ≠ 0) ∨ (s1.fin.err = 0 /\ told (whole E l) = (if mayE s1.fin.N = 0 then s1.fin.N else [], 0, mayE s1.fin.N) /\ (∀ x ∈ s1.fin.N, Clonable x) /\ s1.fin.N.length <= 1000000)) := by
  have h : Sim [] ⟨l, E, false, 0, 0, [], 0⟩ (fi ⟨l, E, false, 0, 0, [], 0⟩ + 4) (ex E l) (exprP 101 ⟨l, E, false, 0, 0, [], 0⟩) := (rows_all (need .expr l.length)).expr 101 0 ⟨l, E, false, 0, 0, [], 0⟩ ⟨rfl, rfl⟩ rfl (by omega) (by omega) (by simp [fi]; omega) (Nat.le_refl _)
  have hcl : ∀ a s1, exprP 101 ⟨l, E, false, 0, 0, [], 0⟩ = some (a, s1) -> ∀ x ∈ s1.N, Clonable x := fun a s1 hx x hm => (expr_c 101 _ _ ⟨ht, fun x hx => by cases hx⟩ hx).2 x hm
  cases hx : ex E l with
  | ok t r =>
    have h2 := h
    rw [hx] at h2
    simp only [Sim] at h2
    obtain ⟨k1, k2, k3⟩ := ex_ok0 hx
    rw [lay_nil k1] at h2
    refine ⟨_, _, h2, ?_⟩
    have hs := hcl _ _ h2
    cases r with
    | nil =>
      refine .inr ⟨rfl, ?_, hs, by show t.length <= _; omega⟩
      show told (whole E l) = (if mayE t = 0 then t else [], 0, mayE t)
      unfold whole
      rw [hx]
      unfold told mayE
      simp only
      by_cases hf : far t = true
      · simp [hf]
      · simp only [hf]
        by_cases hm : may t = 0 <;> simp [hm]
    | cons y r =>
      refine .inl ⟨5, y.p, ?_, rfl, rfl, by decide⟩
      unfold whole
      rw [hx]
      rfl
  | bad e p =>
    have h2 := h
    rw [hx] at h2
    simp only [Sim] at h2
    obtain ⟨a, s1, e1, hd, _, _⟩ := h2
    refine ⟨a, s1, e1, .inl ⟨e, p, ?_, ?_, ?_, hd.2.2.2.2.2⟩⟩
    · unfold whole; rw [hx]; rfl
    · unfold PS.fin; rw [hd.2.1]; exact hd.2.2.2.1
    · unfold PS.fin; rw [hd.2.1]; exact hd.2.2.2.2.1
theorem res8 (tmps : Array Value) (W : World) (p : Nat) (A : Option Addr) (n c : Nat) (z er : Int) (h2 : tmps[2]?.getD undef = .pointer (some ⟨p, 0, none⟩)) (h3 : tmps[3]?.getD undef = .int .i64 z) (h4 : tmps[4]?.getD undef = .int .i64 er) (hb : W.cell? ⟨p, 0, none⟩ = some (.slice A n c)) :
    Sem.run Tryz.prog (results Tryz.f8 tmps) W = .ok (.tuple #[.agg #[.slice A n c], .int .i64 z, .int .i64 er]) W := by
  simp [results, Tryz.results8, go_sem, h2, h3, h4, hb]
def ParsePost (r : List Nd × Int × Int) (w : World) (e : Ending) (w' : World) : Prop := PPost w.heap.size r.1 r.2.1 r.2.2 w e w'
theorem parse_bad (s : ByteArray) (hs : s.size <= 1000000) (w : World) (hO : On w.heap.size w) (he : err s ≠ 0) : Calls Tryz.prog 8 #[.string s] w (ParsePost ([], place s, err s) w) := by
  have hb0 : Below w.heap.size w (w.alloc (.cells #[.slice none 0 0] 25)) := (Below.refl _ w).alloc (Nat.le_refl _) _
  have HA := Lib.hid (all_any s (by omega) (w.alloc (.cells #[.slice none 0 0] 25)) ((hO.on hb0).up hb0.size))
  have HB := Lib.hid hb0
  have hz : (err s != 0) = true := by simpa using he
  clear hb0 hO he
  go_enter Tryz.func8, Tryz.ntmps8
  go_wp2_with (go_at_call 24; refine HA.out.mono ?_; rintro e w1 ⟨v, rfl, hrow, hb1⟩; obtain ⟨A, cp, rfl⟩ := row_form hrow; have k0 := (hb1.cell (p := ⟨w.heap.size, 0, none⟩) (by simp)).trans (Blk_cell (World.alloc_heap_new w (.cells #[.slice none 0 0] 25)) 0); have k2 : w1.frozen? ⟨w.heap.size, 0, none⟩ = false := (hb1.frozen (p := ⟨w.heap.size, 0, none⟩) (by simp)).trans (Blk_frozen (World.alloc_heap_new w (.cells #[.slice none 0 0] 25)) 0); have HX := Lib.hid hb1; clear hb1 hrow)
  exact bodyPost_ret (res8 _ _ w.heap.size none 0 0 _ _ rfl rfl rfl (by go_simp)) rfl ⟨_, [], rfl, rfl, ownN_nil _ _, (HB.out.trans (HX.out.mono (by simp))).setCell (p := ⟨w.heap.size, 0, none⟩) (Nat.le_refl _) _⟩
theorem own_set {B r0 j : Nat} {W : World} {v u : Value} {ps : List (Nd × Value)} (h : OwnN B W v ps) (hr : r0 < B) : OwnN B (W.setCell ⟨r0, j, none⟩ u) v ps := by
  refine ⟨⟨h.1.1, ?_⟩, fun x hx => ⟨(h.2 x hx).1, ?_⟩⟩
  · rcases h.1.2 with e0 | ⟨g, cap, cur, e1, e2, e3, e4⟩
    · exact .inl e0
    · exact .inr ⟨g, cap, cur, e1, e2, (set_far _ _ _ _ _ (by omega)).trans e3, e4⟩
  · rcases (h.2 x hx).2 with e0 | ⟨g, cap, cur, e1, e2, e3, e4⟩
    · exact .inl e0
    · exact .inr ⟨g, cap, cur, e1, e2, (set_far _ _ _ _ _ (by omega)).trans e3, e4⟩
theorem kpt_blk {rb b k : Nat} {w w' : World} {cs : Array Value} {t : TypeId} (h : Kpt rb b w w') (hk : w.heap[k]? = some (.cells cs t (0, 0))) (hr : k ≠ rb) (hb : k ≠ b) (hn : nbk w rb ≠ some k) : w'.heap[k]? = some (.cells cs t (0, 0)) :=
  (h.fr.block k (Array.getElem?_eq_some_iff.1 hk).1 fun hh => hh.elim hr fun hh => hh.elim hb hn).trans hk
structure Stage (w W : World) (rb b : Nat) (s : PS) : Prop where
  st : St (fun _ => False) (rb + 1) rb b W s
  r0 : W.heap[w.heap.size]? = some (.cells #[.slice none 0 0] 25 (0, 0))
  bl : Below w.heap.size w W
  hb : w.heap.size < b
  hr : w.heap.size < rb
theorem Stage.next {w W W' : World} {rb b : Nat} {s s' : PS} (h : Stage w W rb b s) (h' : St (fun _ => False) (rb + 1) rb b W' s') (k : Kpt rb b W W') : Stage w W' rb b s' := by
  have h1 := h.hb; have h2 := h.hr
  have hn : ∀ k, nbk W rb = some k -> rb + 1 <= k := fun k hk => (h.st.nbB k hk).1
  have hw := h.bl.size
  exact ⟨h', kpt_blk k h.r0 (by omega) (by omega) (fun e => by have := hn _ e; omega), h.bl.trans (kpt_below k (by omega) (by omega) (fun k hk => by have := hn _ hk; omega) hw), h1, h2⟩
theorem prog_told {w W : World} {rb b : Nat} {s1 : PS} {r : List Nd × Int × Int} (hK : Kws w.heap.size w) (h : Stage w W rb b s1)
    (he : (∃ e p, r = ([], p, e) /\ s1.err = e /\ s1.place = p /\ e ≠ 0) ∨ (s1.err = 0 /\ r = (if mayE s1.N = 0 then s1.N else [], 0, mayE s1.N) /\ (∀ x ∈ s1.N, Clonable x) /\ s1.N.length <= 1000000)) :
    Calls Tryz.prog 28 #[.pointer (some ⟨rb, 0, none⟩)] W (PPost (rb + 1) r.1 r.2.1 r.2.2 W) := by
  rcases he with ⟨e, p, rfl, rfl, rfl, h0⟩ | ⟨h0, rfl, h1, h2⟩
  · exact prog_bad h.st h0
  · exact prog_good h.st h0 (Kws_mono (hK.on h.bl) h.bl.size) (fun x hx => clon_small (h1 x hx)) h2
theorem stage0 {w w1 w2 : World} {l : List L.Item} {n : Int} {b c : Nat} {A : Option Addr} (h0 : Below w.heap.size w (w.alloc (.cells #[.slice none 0 0] 25))) (h1 : Below (w.alloc (.cells #[.slice none 0 0] 25)).heap.size (w.alloc (.cells #[.slice none 0 0] 25)) w1) (h2 : Below w1.heap.size w1 w2)
    (hR : Rd w2 b A l.length c n) (hc : l.length <= c) (hg : l ≠ [] -> ∃ g, A = some ⟨g, 0, none⟩ /\ HoldsT w2 g l /\ w1.heap.size <= g /\ g < b) (hb : w1.heap.size <= b) (hL : l.length <= 200000) (ht : ∀ x ∈ l, x.1.t.size <= 281474976710656) :
    Stage w (w2.alloc (.cells #[.pointer (some ⟨b, 0, none⟩), .slice none 0 0, .int .i64 0, .int .i64 0, .int .i64 0] 51)) w2.heap.size b ⟨l.map tkOf, n, false, 0, 0, [], 0⟩ := by
  have e1 := h1.size
  have e2 := h2.size
  have e3 : (w.alloc (.cells #[.slice none 0 0] 25)).heap.size = w.heap.size + 1 := by simp
  refine ⟨made (w := w1) hR hc hg (by omega) ht, ?_, ?_, by omega, by omega⟩
  · rw [Below.heap_alloc _ _ _ (by omega), h2.block _ (by omega), h1.block _ (by omega)]
    exact World.alloc_heap_new w _
  · exact (h0.trans ((h1.mono (by omega)).trans (h2.mono (by omega)))).alloc (by omega) _
theorem parse_good (s : ByteArray) (hs : s.size <= 1000000) (hL : (toks s).length <= 200000) (w : World) (hO : On w.heap.size w) (hK : Kws w.heap.size w) (he : err s = 0) : Calls Tryz.prog 8 #[.string s] w (ParsePost (told (whole (place s) (tks s))) w) := by
  have hb0 : Below w.heap.size w (w.alloc (.cells #[.slice none 0 0] 25)) := (Below.refl _ w).alloc (Nat.le_refl _) _
  have HA := Lib.hid (all_any s (by omega) (w.alloc (.cells #[.slice none 0 0] 25)) ((hO.on hb0).up hb0.size))
  have HB := Lib.hid hb0
  have hz : (err s != 0) = false := by simpa using he
  have HL : Hid ((toks s).length <= 200000) := Lib.hid hL
  have HT : Hid (∀ x ∈ toks s, x.1.t.size <= 281474976710656) := Lib.hid fun x hx => by have := (toks_facts s x hx).1; omega
  have HKw := Lib.hid hK
  obtain ⟨a, s1, hx, hend⟩ := read_all (l := tks s) (E := place s) (by rw [tks, List.length_map]; exact HL.out) (fun t ht => by obtain ⟨x, hx, rfl⟩ := List.mem_map.1 ht; exact HT.out x hx)
  have HX := Lib.hid hx
  have HE := Lib.hid hend
  clear hb0 hO he hx hend hK hL
  go_enter Tryz.func8, Tryz.ntmps8
  go_wp2_with (first | (go_at_call 24; refine HA.out.mono ?_; rintro e w1 ⟨v, rfl, hrow, hb1⟩; obtain ⟨A, cp, rfl⟩ := row_form hrow; have HR := Lib.hid hrow; have H1 := Lib.hid hb1; clear hb1 hrow) | (go_at_call 25; refine (new_any w1 (toks s) _ _ (by have := HL.out; omega) HR.out).mono ?_; rintro e w2 ⟨b, A2, c2, rfl, n1, n2, n3, n4, hb2⟩; have N1 := Lib.hid n1; have N3 := Lib.hid n3; have HS := Lib.hid (stage0 HB.out H1.out hb2 n1 n2 n3 n4 HL.out HT.out); clear n1 n2 n3 n4 hb2 H1 HR) | (go_at_call 26; refine (expr_any 101 _ _ _ _ HS.out.st HX.out).mono ?_; rintro e w4 ⟨rfl, h4, k4⟩; have HS4 := Lib.hid (HS.out.next h4 k4); clear h4 k4) | (go_at_call 27; refine (end_any HS4.out.st).mono ?_; rintro e w5 ⟨rfl, h5, k5⟩; have HS5 := Lib.hid (HS4.out.next h5 k5); clear h5 k5) | (go_at_call 28; refine (prog_told HKw.out HS5.out HE.out).mono ?_; rintro e w6 ⟨v6, ps, rfl, h1, h2, h3⟩; obtain ⟨A6, c6, rfl⟩ := row_form h2.1; have f0 : w6.heap[w.heap.size]? = some (.cells #[.slice none 0 0] 25 (0, 0)) := (h3.block _ (Array.getElem?_eq_some_iff.1 HS5.out.r0).1).trans HS5.out.r0; have f1 := Blk_cell f0 0; have f2 := Blk_frozen f0 0; have HF := Lib.hid h1; have HO6 := Lib.hid h2; have HB6 := Lib.hid h3; clear h1 h2 h3))
  have hr := HS5.out.hr
  exact bodyPost_ret (res8 _ _ w.heap.size A6 _ c6 _ _ rfl rfl rfl (by go_simp)) rfl ⟨_, ps, rfl, HF.out, own_low (own_set HO6.out (by omega)) (by omega), ((HS5.out.bl.trans (HB6.out.mono HS5.out.bl.size))).setCell (p := ⟨w.heap.size, 0, none⟩) (Nat.le_refl _) _⟩
theorem parse_big (s : ByteArray) (hs : s.size <= 1000000) (hL : (toks s).length <= 200000) (w : World) (hO : On w.heap.size w) (hK : Kws w.heap.size w) : Calls Tryz.prog 8 #[.string s] w (ParsePost (asked s) w) := by
  by_cases he : err s = 0
  · rw [asked, if_pos he]; exact parse_good s hs hL w hO hK he
  · rw [asked, if_neg he]; exact parse_bad s hs w hO he
theorem parse_any (s : ByteArray) (hs : s.size <= 200000) (w : World) (hO : On w.heap.size w) (hK : Kws w.heap.size w) : Calls Tryz.prog 8 #[.string s] w (ParsePost (asked s) w) :=
  parse_big s (by omega) (Nat.le_trans (toks_len s) hs) w hO hK
open T Go.RowKit
def exS : ByteArray := ⟨#[102, 117, 110, 32, 120, 32, 45, 62, 32, 120, 32, 43, 32, 49]⟩
def exI : List L.Item := [(⟨1, ⟨#[102, 117, 110]⟩, 0, 3, 0⟩, 0), (⟨2, ⟨#[120]⟩, 0, 1, 0⟩, 4), (⟨7, ⟨#[45, 62]⟩, 0, 2, 0⟩, 6), (⟨2, ⟨#[120]⟩, 0, 1, 0⟩, 9), (⟨7, ⟨#[43]⟩, 0, 1, 0⟩, 11), (⟨4, ⟨#[]⟩, 1, 1, 0⟩, 13)]
theorem ex_items : L.items exS = exI := by kernel_rfl
theorem ex_all : L.toks exS = exI /\ L.place exS = 14 /\ L.err exS = 0 := L.no_wrong (s := exS) ex_items.symm (by decide)
def exT : List Nd := [{ mk 4 9 with nm := ⟨#[120]⟩ }, { mk 1 13 with n := 1 }, { mk 10 11 with n := 1, a := 0, b := 1 }, { mk 5 0 with nm := ⟨#[120]⟩, a := 2 }]
theorem ex_tree : whole 14 (exI.map tkOf) = .ok exT [] := by kernel_rfl
theorem ex_cases {i : Nat} {x : Nd} (h : exT[i]? = some x) : (i = 0 /\ x = { mk 4 9 with nm := ⟨#[120]⟩ }) ∨ (i = 1 /\ x = { mk 1 13 with n := 1 }) ∨ (i = 2 /\ x = { mk 10 11 with n := 1, a := 0, b := 1 }) ∨ (i = 3 /\ x = { mk 5 0 with nm := ⟨#[120]⟩, a := 2 }) := by
  match i, h with
  | 0, h => exact .inl ⟨rfl, by simpa [exT] using h.symm⟩
  | 1, h => exact .inr (.inl ⟨rfl, by simpa [exT] using h.symm⟩)
  | 2, h => exact .inr (.inr (.inl ⟨rfl, by simpa [exT] using h.symm⟩))
  | 3, h => exact .inr (.inr (.inr ⟨rfl, by simpa [exT] using h.symm⟩))
  | n + 4, h => simp [exT] at h
theorem ex_formed : formed exT := by
  refine ⟨?_, ?_, ⟨?_, ?_⟩, ?_⟩
  · intro x hx
    obtain ⟨i, hi⟩ := List.getElem?_of_mem hx
    rcases ex_cases hi with ⟨_, rfl⟩ | ⟨_, rfl⟩ | ⟨_, rfl⟩ | ⟨_, rfl⟩ <;> kernel_rfl
  · intro i x h
    rcases ex_cases h with ⟨rfl, rfl⟩ | ⟨rfl, rfl⟩ | ⟨rfl, rfl⟩ | ⟨rfl, rfl⟩ <;> (intro m hm; revert m; decide)
  · have : allKids exT = [0, 1, 2] := rfl
    rw [this]; decide
  · intro j hj
    have : allKids exT = [0, 1, 2] := rfl
    have hl : exT.length = 4 := rfl
    rw [this]
    rw [hl] at hj
    obtain rfl | rfl | rfl : j = 0 ∨ j = 1 ∨ j = 2 := by omega
    · decide
    · decide
    · decide
  · intro i x h
    rcases ex_cases h with ⟨rfl, rfl⟩ | ⟨rfl, rfl⟩ | ⟨rfl, rfl⟩ | ⟨rfl, rfl⟩ <;> (intro hk; exact absurd hk (by decide))
theorem ex_may : may exT = 0 := by
  unfold may
  rw [if_neg (by decide), if_neg (not_not_intro ex_formed), if_neg (by rw [show root exT = 3 from rfl]; decide)]
theorem ex_asked : asked exS = (exT, 0, 0) := by
  obtain ⟨h1, h2, h3⟩ := ex_all
  unfold asked tks
  rw [if_pos h3, h1, h2, ex_tree]
  unfold told
  simp only
  rw [if_neg (by decide), if_pos ex_may]
open T Go.RowKit
theorem ex_at {w : World} {v : Value} {ps : List (Nd × Value)} {B : Nat} (h : ps.map Prod.fst = exT) (ho : OwnN B w v ps) : ∃ g c, v = .slice (some ⟨g, 0, none⟩) 4 c /\ g < w.heap.size /\ w.cell? ⟨g, 0, none⟩ = some (.int .i64 4) /\ w.cell? ⟨g, 18, none⟩ = some (.int .i64 10) /\ w.cell? ⟨g, 27, none⟩ = some (.int .i64 5) := by
  have hn := own_nodes ho
  rw [h] at hn
  obtain ⟨A, c, rfl, _, _, hq⟩ := hn
  obtain ⟨b, o, rfl, hb, hf⟩ := hq (by decide)
  have ho0 : o = 0 := by
    rcases ho.1.2 with ⟨e, _⟩ | ⟨g, cap, cur, e, _⟩
    · cases e
    · injection e with e _ _; injection e with e; injection e
  subst ho0
  obtain ⟨_, _, a0, _⟩ := hf 0 _ rfl
  obtain ⟨_, _, a2, _⟩ := hf 2 _ rfl
  obtain ⟨_, _, a3, _⟩ := hf 3 _ rfl
  exact ⟨b, c, rfl, hb, a0, a2, a3⟩
theorem works_any (w : World) (hO : L.On w.heap.size w) : Calls Tryz.prog 11 #[] w fun e w' => e = .returned (.bool true) /\ Below w.heap.size w w' := by
  have HP : Hid (Calls Tryz.prog 8 #[.string ⟨#[102, 117, 110, 32, 120, 32, 45, 62, 32, 120, 32, 43, 32, 49]⟩] w fun e w' => ∃ g c, e = .returned (.tuple #[.agg #[.slice (some ⟨g, 0, none⟩) 4 c], .int .i64 0, .int .i64 0]) /\ g < w'.heap.size /\ w'.cell? ⟨g, 0, none⟩ = some (.int .i64 4) /\ w'.cell? ⟨g, 18, none⟩ = some (.int .i64 10) /\ w'.cell? ⟨g, 27, none⟩ = some (.int .i64 5) /\ Below w.heap.size w w') := Lib.hid (by
    refine (parse_any exS (by decide) w hO hO.1).mono ?_
    rintro e w' ⟨v, ps, rfl, h1, h2, h3⟩
    rw [ex_asked] at h1 ⊢
    obtain ⟨g, c, rfl, k1, k2, k3, k4⟩ := ex_at h1 h2
    exact ⟨g, c, rfl, k1, k2, k3, k4, h3⟩)
  clear hO
  go_enter Tryz.func11, Tryz.ntmps11
  go_wp2_with (go_at_call 8; refine HP.out.mono ?_; rintro e w1 ⟨g, c, rfl, hg, c0, c2, c3, hb⟩; have HB := Lib.hid hb; have d0 := ((Below.refl _ w1).alloc (Nat.le_refl _) (.cells #[.slice (some ⟨g, 0, none⟩) 4 c] 25)).cell (p := ⟨g, 0, none⟩) hg |>.trans c0; have d2 := ((Below.refl _ w1).alloc (Nat.le_refl _) (.cells #[.slice (some ⟨g, 0, none⟩) 4 c] 25)).cell (p := ⟨g, 18, none⟩) hg |>.trans c2; have d3 := ((Below.refl _ w1).alloc (Nat.le_refl _) (.cells #[.slice (some ⟨g, 0, none⟩) 4 c] 25)).cell (p := ⟨g, 27, none⟩) hg |>.trans c3; clear hb)
  go_ret
  exact ⟨rfl, HB.out.alloc HB.out.size _⟩
open T Go.RowKit
theorem fe_self (f : Fld) : fe f f = true := by simp [fe]
theorem sn_self (x : Nd) : sn x x = true := by
  have h : les x.l x.l = true := les_yes (fun j f g h1 h2 => by rw [h1] at h2; cases h2; exact fe_self f) rfl
  simp [sn, lf, h]
end Go.Proofs.YtjakeidbajkdcaaGreatDoor.A
namespace Go.Proofs.YtjakeidbajkdcaaGreatDoor.S
open T A Go.RowKit
def exS : ByteArray := ⟨#[40, 49, 32, 43, 32, 50, 41, 32, 42, 32, 51]⟩
def exI : List L.Item := [(⟨7, ⟨#[40]⟩, 0, 1, 0⟩, 0), (⟨4, ⟨#[]⟩, 1, 1, 0⟩, 1), (⟨7, ⟨#[43]⟩, 0, 1, 0⟩, 3), (⟨4, ⟨#[]⟩, 2, 1, 0⟩, 5), (⟨7, ⟨#[41]⟩, 0, 1, 0⟩, 6), (⟨7, ⟨#[42]⟩, 0, 1, 0⟩, 8), (⟨4, ⟨#[]⟩, 3, 1, 0⟩, 10)]
theorem ex_items : L.items exS = exI := by kernel_rfl
theorem ex_all : L.toks exS = exI /\ L.place exS = 11 /\ L.err exS = 0 := L.no_wrong (s := exS) ex_items.symm (by decide)
def exT : List Nd := [{ mk 1 1 with n := 1 }, { mk 1 5 with n := 2 }, { mk 10 3 with n := 1, a := 0, b := 1 }, { mk 1 10 with n := 3 }, { mk 10 8 with n := 3, a := 2, b := 3 }]
theorem ex_tree : whole 11 (exI.map tkOf) = .ok exT [] := by kernel_rfl
theorem ex_cases {i : Nat} {x : Nd} (h : exT[i]? = some x) : (i = 0 /\ x = { mk 1 1 with n := 1 }) ∨ (i = 1 /\ x = { mk 1 5 with n := 2 }) ∨ (i = 2 /\ x = { mk 10 3 with n := 1, a := 0, b := 1 }) ∨ (i = 3 /\ x = { mk 1 10 with n := 3 }) ∨ (i = 4 /\ x = { mk 10 8 with n := 3, a := 2, b := 3 }) := by
  match i, h with
  | 0, h => exact .inl ⟨rfl, by simpa [exT] using h.symm⟩
  | 1, h => exact .inr (.inl ⟨rfl, by simpa [exT] using h.symm⟩)
  | 2, h => exact .inr (.inr (.inl ⟨rfl, by simpa [exT] using h.symm⟩))
  | 3, h => exact .inr (.inr (.inr (.inl ⟨rfl, by simpa [exT] using h.symm⟩)))
  | 4, h => exact .inr (.inr (.inr (.inr ⟨rfl, by simpa [exT] using h.symm⟩)))
  | n + 5, h => simp [exT] at h
theorem ex_formed : formed exT := by
  refine ⟨?_, ?_, ⟨?_, ?_⟩, ?_⟩
  · intro x hx
    obtain ⟨i, hi⟩ := List.getElem?_of_mem hx
    rcases ex_cases hi with ⟨_, rfl⟩ | ⟨_, rfl⟩ | ⟨_, rfl⟩ | ⟨_, rfl⟩ | ⟨_, rfl⟩ <;> kernel_rfl
  · intro i x h
    rcases ex_cases h with ⟨rfl, rfl⟩ | ⟨rfl, rfl⟩ | ⟨rfl, rfl⟩ | ⟨rfl, rfl⟩ | ⟨rfl, rfl⟩ <;> (intro m hm; revert m; decide)
  · have : allKids exT = [0, 1, 2, 3] := rfl
    rw [this]; decide
  · intro j hj
    have : allKids exT = [0, 1, 2, 3] := rfl
    have hl : exT.length = 5 := rfl
    rw [this]
    rw [hl] at hj
    obtain rfl | rfl | rfl | rfl : j = 0 ∨ j = 1 ∨ j = 2 ∨ j = 3 := by omega
    · decide
    · decide
    · decide
    · decide
  · intro i x h
    rcases ex_cases h with ⟨rfl, rfl⟩ | ⟨rfl, rfl⟩ | ⟨rfl, rfl⟩ | ⟨rfl, rfl⟩ | ⟨rfl, rfl⟩ <;> (intro hk; exact absurd hk (by decide))
theorem ex_may : may exT = 0 := by
  unfold may
  rw [if_neg (by decide), if_neg (not_not_intro ex_formed), if_neg (by rw [show root exT = 3 from rfl]; decide)]
theorem ex_asked : asked exS = (exT, 0, 0) := by
  obtain ⟨h1, h2, h3⟩ := ex_all
  unfold asked tks
  rw [if_pos h3, h1, h2, ex_tree]
  unfold told
  simp only
  rw [if_neg (by decide), if_pos ex_may]
theorem ex_text : tx exT 4 = exS := by kernel_rfl
theorem ex_shown : shown exT = exS := by
  unfold shown
  rw [if_pos ex_may]
  exact ex_text
theorem ex_small : ∀ x ∈ exT, Small x := fun x hx => by
  obtain ⟨i, hi⟩ := List.getElem?_of_mem hx
  rcases ex_cases hi with ⟨_, rfl⟩ | ⟨_, rfl⟩ | ⟨_, rfl⟩ | ⟨_, rfl⟩ | ⟨_, rfl⟩ <;> exact ⟨by decide, by decide, by decide, fun f hf => by cases hf⟩
theorem ex_num : ∀ x ∈ exT, -9223372036854775808 <= x.n /\ x.n <= 9223372036854775807 := fun x hx => by
  obtain ⟨i, hi⟩ := List.getElem?_of_mem hx
  rcases ex_cases hi with ⟨_, rfl⟩ | ⟨_, rfl⟩ | ⟨_, rfl⟩ | ⟨_, rfl⟩ | ⟨_, rfl⟩ <;> exact ⟨by decide, by decide⟩
open T Go.RowKit Go.Shelf
theorem nodes_next {W W' : World} {v : Value} {l : List Nd} (h : Nodes W.heap.size W v l) (hb : Below W.heap.size W W') : Nodes W'.heap.size W' v l := (h.below hb).mono hb.size
theorem works_any (w : World) (hO : Go.Proofs.YtjakeidbajkdcaaGreatDoor.L.On w.heap.size w) : Calls Tryz.prog 21 #[] w fun e w' => e = .returned (.bool true) /\ Below w.heap.size w w' := by
  have HP : Hid (Calls Tryz.prog 8 #[.string ⟨#[40, 49, 32, 43, 32, 50, 41, 32, 42, 32, 51]⟩] w fun e w' => ∃ A n c, e = .returned (.tuple #[.agg #[.slice A n c], .int .i64 0, .int .i64 0]) /\ Nodes w'.heap.size w' (.slice A n c) exT /\ Below w.heap.size w w') := Lib.hid (by
    refine (A.parse_any exS (by decide) w hO hO.1).mono ?_
    rintro e w' ⟨v, ps, rfl, h1, h2, h3⟩
    rw [ex_asked] at h1 ⊢
    have hn := own_nodes h2
    rw [h1] at hn
    obtain ⟨A, c, rfl⟩ := L.row_form h2.1
    exact ⟨A, _, c, rfl, hn, h3⟩)
  have HO := Lib.hid hO
  have HR : Hid (∀ (v : Value) (w1 : World), Below w.heap.size w w1 -> Nodes w1.heap.size w1 v exT -> Calls Tryz.prog 15 #[.agg #[v]] w1 fun e w' => e = .returned (.tuple #[.string ⟨#[40, 49, 32, 43, 32, 50, 41, 32, 42, 32, 51]⟩, .int .i64 0]) /\ Below w1.heap.size w1 w') := Lib.hid fun v w1 hb hn => by
    have := print_any exT v w1 ((HO.out.on hb).up hb.size) hn ex_small ex_num
    rw [ex_shown, ex_may] at this
    exact this
  clear hO
  go_enter Tryz.func21, Tryz.ntmps21
  go_wp2_with (first | (go_at_call 8; refine HP.out.mono ?_; rintro e w1 ⟨A, n, c, rfl, hn, hb⟩; have H1 := Lib.hid hb; have N1 := Lib.hid hn; have H2 := Lib.hid (H1.out.alloc H1.out.size (.cells #[.slice A n c] 25)); have N2 := Lib.hid (nodes_next hn ((Below.refl w1.heap.size w1).alloc (Nat.le_refl _) (.cells #[.slice A n c] 25))); clear hb hn) | (go_at_call 15; refine (HR.out _ _ H2.out N2.out).mono ?_; rintro e w2 ⟨rfl, hb⟩; have H3 := Lib.hid (H2.out.trans (hb.mono H2.out.size)); clear hb) | (go_at_call 19; refine (sign_is 7 ⟨#[94]⟩ rfl _).mono ?_; rintro e w3 ⟨rfl, hb⟩; have H4 := Lib.hid (H3.out.trans (hb.mono H3.out.size)); clear hb))
  go_ret
  exact ⟨rfl, H4.out⟩
open T Go.RowKit Go.Shelf
theorem blk_set0 {W : World} {b : Nat} {o v : Value} (h : W.heap[b]? = some (.cells #[o] 25 (0, 0))) : (W.setCell ⟨b, 0, none⟩ v).heap[b]? = some (.cells #[v] 25 (0, 0)) := by
  obtain ⟨hlt, hk⟩ := Array.getElem?_eq_some_iff.1 h
  show (W.heap.modify b _)[b]? = _
  rw [Array.getElem?_eq_getElem (by rw [Array.size_modify]; exact hlt), Array.getElem_modify_self, hk]
  rfl
def ASt (m : Nat) (w W : World) (A : Option Addr) (k L : Nat) (la : List Nd) : Prop :=
  (∃ ps : List (Nd × Value), ps.map Prod.fst = la /\ OwnN (w.heap.size + m) W (.slice A L k) ps) /\ W.heap[w.heap.size]? = some (.cells #[.slice A L k] 25 (0, 0)) /\ Below w.heap.size w W
section
variable {m L : Nat} {w W W' : World} {A : Option Addr} {k : Nat} {la : List Nd} {v2 : Value}
theorem ASt.size (h : ASt m w W A k L la) : w.heap.size + 1 <= W.heap.size := (Array.getElem?_eq_some_iff.1 h.2.1).1
theorem ASt.next (h : ASt m w W A k L la) (hb : Below W.heap.size W W') : ASt m w W' A k L la := by
  obtain ⟨⟨ps, h1, h2⟩, h3, h4⟩ := h
  exact ⟨⟨ps, h1, ownN_grow h2 (grown_of hb)⟩, blk_next h3 hb, below_next h4 hb (Nat.le_refl _)⟩
theorem ASt.c (h : ASt m w W A k L la) : W.cell? ⟨w.heap.size, 0, none⟩ = some (.slice A L k) := (Blk_cell h.2.1 0).trans rfl
theorem ASt.nodes (h : ASt m w W A k L la) : Nodes W.heap.size W (.slice A L k) la := by
  obtain ⟨⟨ps, h1, h2⟩, _⟩ := h
  have := own_nodes h2
  rwa [h1] at this
theorem ASt.put {v2 : Value} {ps : List (Nd × Value)} {o : Value} (hm : 1 <= m) (hb : Below w.heap.size w W) (h : OwnN (w.heap.size + m) W (.slice A L k) ps) (he : ps.map Prod.fst = la) (hx : W.heap[w.heap.size]? = some (.cells #[o] 25 (0, 0))) (hv : v2 = .slice A L k) :
    ASt m w (W.setCell ⟨w.heap.size, 0, none⟩ v2) A k L la := by
  subst hv
  refine ⟨⟨ps, he, ownN_heap h fun g hg _ => set_far _ _ _ _ _ (by omega)⟩, blk_set0 hx, hb.setCell (p := ⟨w.heap.size, 0, none⟩) (Nat.le_refl _) _⟩
end
def Bx (W : World) (p : Nat) (A : Option Addr) (k L : Nat) (N : List Nd) : Prop := W.heap[p]? = some (.cells #[.slice A L k] 25 (0, 0)) /\ Nodes W.heap.size W (.slice A L k) N
section
variable {w W W' : World} {p L : Nat} {A : Option Addr} {k : Nat} {N : List Nd}
theorem Bx.next (h : Bx W p A k L N) (hb : Below W.heap.size W W') : Bx W' p A k L N := ⟨blk_next h.1 hb, nodes_next h.2 hb⟩
theorem Bx.c (h : Bx W p A k L N) : W.cell? ⟨p, 0, none⟩ = some (.slice A L k) := (Blk_cell h.1 0).trans rfl
theorem Bx.new (h : Nodes W.heap.size W (.slice A L k) N) : Bx (W.alloc (.cells #[.slice A L k] 25)) W.heap.size A k L N := ⟨newAt rfl, nodes_next h ((Below.refl _ W).alloc (Nat.le_refl _) _)⟩
end
end Go.Proofs.YtjakeidbajkdcaaGreatDoor.S
