/- Joined by program. -/
import Derived.Test.YtjakeidbajkdcaaGreatDoorH40
import Derived.Deep.QuietTactic
import Derived.BigQuiet
set_option maxRecDepth 100000
set_option maxHeartbeats 8000000
namespace Go.Proofs.YtjakeidbajkdcaaGreatDoor.A
open T Go.RowKit Go.Shelf
attribute [local go_sem] field_p field_s field_n
section
variable {Av : Nat -> Prop} {B rb b : Nat} {w w' : World} {s s' : PS}
theorem below_drewN (B : Nat) (W : World) (n : Nat) : Below B W (W.drewN n) := ⟨rfl, rfl, rfl, Nat.le_refl _, fun _ _ => rfl⟩
theorem bind_let {X : PS -> Ans} (HX : Reads B rb b 26 X) (p : Int) {af : Nat} {sf : PS} (h : St Av B rb b w s) (hr : s.is 1 w_rec = false) {a0 a1 : Nat} {s0 s1 : PS} {nm : ByteArray} (hnm : (s.txt 2).1 = nm) (h1 : X ((s.txt 2).2.must 7 s_eqs) = some (a0, s0)) (h3 : X (s0.must 1 w_in) = some (a1, s1)) (h4 : s1.add { mk 7 p with nm := nm, a := a0, b := a1 } = some (af, sf)) : Calls Tryz.prog 51 #[.pointer (some ⟨rb, 0, none⟩), .int .i64 p] w (APost Av B rb b w af sf) := by
  have HNM := Lib.hid hnm
  have HR := Lib.hid (tk_not hr)
  have hr2 : s.is 1 #[114, 101, 99].toList = false := hr
  have hlt := h.rlt
  have hBw := h.hB
  have H0 := Lib.hid (h.alloc (.cells #[.int .i64 7, .int .i64 0, .int .i64 0, .int .i64 0, .int .i64 0, .string ⟨#[]⟩, .string ⟨#[]⟩, .slice none 0 0, .int .i64 p] 37))
  have K0 := Lib.hid ((Kpt.refl rb b w).alloc h.rlt (.cells #[.int .i64 7, .int .i64 0, .int .i64 0, .int .i64 0, .int .i64 0, .string ⟨#[]⟩, .string ⟨#[]⟩, .slice none 0 0, .int .i64 p] 37))
  have L0 := Lib.hid (Loc.new h #[.int .i64 7, .int .i64 0, .int .i64 0, .int .i64 0, .int .i64 0, .string ⟨#[]⟩, .string ⟨#[]⟩, .slice none 0 0, .int .i64 p] 37)
  have HX1 : Hid (∀ W, St Av B rb b W ((s.txt 2).2.must 7 s_eqs) -> Calls Tryz.prog 26 #[.pointer (some ⟨rb, 0, none⟩)] W (APost Av B rb b W a0 s0)) := Lib.hid fun W hW => HX W _ _ _ hW h1
  have HX2 : Hid (∀ W, St Av B rb b W (s0.must 1 w_in) -> Calls Tryz.prog 26 #[.pointer (some ⟨rb, 0, none⟩)] W (APost Av B rb b W a1 s1)) := Lib.hid fun W hW => HX W _ _ _ hW h3
  have HAD : Hid (∀ W, St Av B rb b W s1 -> Calls Tryz.prog 84 #[.pointer (some ⟨rb, 0, none⟩), .agg #[.int .i64 7, .int .i64 (a0 : Int), .int .i64 (a1 : Int), .int .i64 0, .int .i64 0, .string nm, .string ⟨#[]⟩, .slice none 0 0, .int .i64 p]] W (APost Av B rb b W af sf)) := Lib.hid fun W hW => add_any (y := ⟨7, (a0 : Int), (a1 : Int), 0, 0, nm, ⟨#[]⟩, [], p⟩) hW (ownF_nil _ _) (no_own _) h4
  clear h h1 h3 h4 HX hnm hr
  go_enter Tryz.func51, Tryz.ntmps51
  go_wp2_with (first | (go_at_call 26; refine (HX1.out _ H4.out).mono ?_; rintro e w5 ⟨rfl, h, k⟩; have La := L4.out.kpt k; have hfz5 := fun j => La.frozen j; obtain ⟨q50, q51, q52, q53, q54, q55, q56, q57, q58⟩ := nd_cells (x := ⟨7, 0, 0, 0, 0, nm, ⟨#[]⟩, [], p⟩) (v := .slice none 0 0) La.1; have H5 := Lib.hid (h.loc La (by decide) hBw (j := 1) (.int .i64 (a0 : Int))); have K5 := Lib.hid ((K4.out.trans k).set (k := w.heap.size) (j := 1) (.int .i64 (a0 : Int)) (Nat.le_refl _) hlt); have L5 := Lib.hid (La.set (j := 1) (.int .i64 (a0 : Int))); clear h k La) | (go_at_call 46; refine (peek_s H3.out HP3.out).mono ?_; rintro e w4 ⟨rfl, hb⟩; have h := H3.out.below hb; have k := Kpt.of_below (b := b) H3.out.rlt hb; have La := L3.out.kpt k; have hfz4 := fun j => La.frozen j; obtain ⟨q40, q41, q42, q43, q44, q45, q46, q47, q48⟩ := nd_cells (x := ⟨7, 0, 0, 0, 0, nm, ⟨#[]⟩, [], p⟩) (v := .slice none 0 0) La.1; have H4 := Lib.hid h; have K4 := Lib.hid (K3.out.trans k); have L4 := Lib.hid La; clear h k La hb) | (go_at_call 83; refine (must_at H2.out 7 (l := s_eqs) (mk_list #[61]) (by decide) (by decide)).mono ?_; rintro e w3 ⟨rfl, h, k⟩; have La := L2.out.kpt k; have hfz3 := fun j => La.frozen j; obtain ⟨q30, q31, q32, q33, q34, q35, q36, q37, q38⟩ := nd_cells (x := ⟨7, 0, 0, 0, 0, nm, ⟨#[]⟩, [], p⟩) (v := .slice none 0 0) La.1; have H3 := Lib.hid h; have K3 := Lib.hid (K2.out.trans k); have L3 := Lib.hid La; clear h k La; obtain ⟨p3, v3, hp3, _⟩ := H3.out.rb_; obtain ⟨c0, c1, c2, c3, c4⟩ := hp3.cells; have HP3 := Lib.hid hp3; clear hp3) | (go_at_call 82; refine (text_any H1.out 2).mono ?_; rintro e w2 ⟨rfl, h, k⟩; rw [HNM.out]; have La := L1.out.kpt k; have hfz2 := fun j => La.frozen j; obtain ⟨q20, q21, q22, q23, q24, q25, q26, q27, q28⟩ := nd_cells (x := ⟨7, 0, 0, 0, 0, ⟨#[]⟩, ⟨#[]⟩, [], p⟩) (v := .slice none 0 0) La.1; have H2 := Lib.hid (h.loc La (by decide) hBw (j := 5) (.string nm)); have K2 := Lib.hid ((K1.out.trans k).set (k := w.heap.size) (j := 5) (.string nm) (Nat.le_refl _) hlt); have L2 := Lib.hid (La.set (j := 5) (.string nm)); clear h k La) | (go_at_call 49; refine (word_at H0.out (mk_list #[114, 101, 99])).mono ?_; rintro e w1 ⟨rfl, h, k⟩; rw [show s.tk 1 #[114, 101, 99].toList = s from HR.out] at h; have La := L0.out.kpt k; have hfz1 := fun j => La.frozen j; obtain ⟨q10, q11, q12, q13, q14, q15, q16, q17, q18⟩ := nd_cells (x := ⟨7, 0, 0, 0, 0, ⟨#[]⟩, ⟨#[]⟩, [], p⟩) (v := .slice none 0 0) La.1; have H1 := Lib.hid h; have K1 := Lib.hid (K0.out.trans k); have L1 := Lib.hid La; clear h k La))
  go_quiet (fail)
  have H6 := Lib.hid (H5.out.below (below_drewN _ _ nq))
  have K6 := Lib.hid (K5.out.trans (Kpt.of_below (b := b) H5.out.rlt (below_drewN _ _ nq)))
  have L6 := Lib.hid (L5.out.kpt (Kpt.of_below (b := b) H5.out.rlt (below_drewN _ _ nq)))
  go_wp2_with (first | (go_at_call 84; refine (HAD.out _ H8.out).mono ?_; rintro e w9 ⟨rfl, h, k⟩; have H9 := Lib.hid h; have K9 := Lib.hid (K8.out.trans k); clear h k) | (go_at_call 26; refine (HX2.out _ H7.out).mono ?_; rintro e w8 ⟨rfl, h, k⟩; have La := L7.out.kpt k; have hfz8 := fun j => La.frozen j; obtain ⟨q80, q81, q82, q83, q84, q85, q86, q87, q88⟩ := nd_cells (x := ⟨7, (a0 : Int), 0, 0, 0, nm, ⟨#[]⟩, [], p⟩) (v := .slice none 0 0) La.1; have H8 := Lib.hid (h.loc La (by decide) hBw (j := 2) (.int .i64 (a1 : Int))); have K8 := Lib.hid ((K7.out.trans k).set (k := w.heap.size) (j := 2) (.int .i64 (a1 : Int)) (Nat.le_refl _) hlt); have L8 := Lib.hid (La.set (j := 2) (.int .i64 (a1 : Int))); clear h k La) | (go_at_call 83; refine (must_at H6.out 1 (l := w_in) (mk_list #[105, 110]) (by decide) (by decide)).mono ?_; rintro e w7 ⟨rfl, h, k⟩; have La := L6.out.kpt k; have hfz7 := fun j => La.frozen j; obtain ⟨q70, q71, q72, q73, q74, q75, q76, q77, q78⟩ := nd_cells (x := ⟨7, (a0 : Int), 0, 0, 0, nm, ⟨#[]⟩, [], p⟩) (v := .slice none 0 0) La.1; have H7 := Lib.hid h; have K7 := Lib.hid (K6.out.trans k); have L7 := Lib.hid La; clear h k La))
  go_ret
  exact ⟨rfl, H9.out, K9.out⟩
theorem bind_fun {X : PS -> Ans} (HX : Reads B rb b 26 X) (p : Int) {af : Nat} {sf : PS} (h : St Av B rb b w s) (hr : s.is 1 w_rec = true) {a0 a1 : Nat} {s0 s1 : PS} {nm : ByteArray} (hnm : (s.nx.txt 2).1 = nm) (h1 : X ((s.nx.txt 2).2.must 7 s_eqs) = some (a0, s0)) {y : Nd} (hy : s0.N[a0]? = some y) (hk : y.kind = 5) (h3 : X (s0.must 1 w_in) = some (a1, s1)) (h4 : s1.add { mk 8 p with nm := nm, a := a0, b := a1 } = some (af, sf)) : Calls Tryz.prog 51 #[.pointer (some ⟨rb, 0, none⟩), .int .i64 p] w (APost Av B rb b w af sf) := by
  have HNM := Lib.hid hnm
  have HR := Lib.hid (tk_yes hr)
  have hr2 : s.is 1 #[114, 101, 99].toList = true := hr
  have hlt := h.rlt
  have hBw := h.hB
  have H0 := Lib.hid (h.alloc (.cells #[.int .i64 7, .int .i64 0, .int .i64 0, .int .i64 0, .int .i64 0, .string ⟨#[]⟩, .string ⟨#[]⟩, .slice none 0 0, .int .i64 p] 37))
  have K0 := Lib.hid ((Kpt.refl rb b w).alloc h.rlt (.cells #[.int .i64 7, .int .i64 0, .int .i64 0, .int .i64 0, .int .i64 0, .string ⟨#[]⟩, .string ⟨#[]⟩, .slice none 0 0, .int .i64 p] 37))
  have L0 := Lib.hid (Loc.new h #[.int .i64 7, .int .i64 0, .int .i64 0, .int .i64 0, .int .i64 0, .string ⟨#[]⟩, .string ⟨#[]⟩, .slice none 0 0, .int .i64 p] 37)
  have HX1 : Hid (∀ W, St Av B rb b W ((s.nx.txt 2).2.must 7 s_eqs) -> Calls Tryz.prog 26 #[.pointer (some ⟨rb, 0, none⟩)] W (APost Av B rb b W a0 s0)) := Lib.hid fun W hW => HX W _ _ _ hW h1
  have HX2 : Hid (∀ W, St Av B rb b W (s0.must 1 w_in) -> Calls Tryz.prog 26 #[.pointer (some ⟨rb, 0, none⟩)] W (APost Av B rb b W a1 s1)) := Lib.hid fun W hW => HX W _ _ _ hW h3
  have HAD : Hid (∀ W, St Av B rb b W s1 -> Calls Tryz.prog 84 #[.pointer (some ⟨rb, 0, none⟩), .agg #[.int .i64 8, .int .i64 (a0 : Int), .int .i64 (a1 : Int), .int .i64 0, .int .i64 0, .string nm, .string ⟨#[]⟩, .slice none 0 0, .int .i64 p]] W (APost Av B rb b W af sf)) := Lib.hid fun W hW => add_any (y := ⟨8, (a0 : Int), (a1 : Int), 0, 0, nm, ⟨#[]⟩, [], p⟩) hW (ownF_nil _ _) (no_own _) h4
  have HND : Hid (∀ W, St Av B rb b W s0 -> ∃ g o c, W.cell? ⟨rb, 1, none⟩ = some (.slice (some ⟨g, o, none⟩) s0.N.length c) /\ W.cell? ⟨g, o + a0 * 9, none⟩ = some (.int .i64 y.kind)) := Lib.hid fun W hW => by obtain ⟨g, o, c, g1, g2, _⟩ := hW.nd hy; exact ⟨g, o, c, g1, g2⟩
  have hal : a0 < s0.N.length := (List.getElem?_eq_some_iff.1 hy).1
  obtain ⟨NL, hNL⟩ : ∃ NL, s0.N.length = NL := ⟨_, rfl⟩
  rw [hNL] at HND hal
  obtain ⟨yk, hyk⟩ : ∃ yk, y.kind = yk := ⟨_, rfl⟩
  rw [hyk] at HND hk
  subst hk
  have hkk : ((5 : Int) != 5) = false := rfl
  clear hyk
  clear hNL hy
  clear h h1 h3 h4 HX hnm hr
  go_enter Tryz.func51, Tryz.ntmps51
  go_wp2_with (first | (go_at_call 26; refine (HX1.out _ H4.out).mono ?_; rintro e w5 ⟨rfl, h, k⟩; have La := L4.out.kpt k; have hfz5 := fun j => La.frozen j; obtain ⟨q50, q51, q52, q53, q54, q55, q56, q57, q58⟩ := nd_cells (x := ⟨8, 0, 0, 0, 0, nm, ⟨#[]⟩, [], p⟩) (v := .slice none 0 0) La.1; have H5 := Lib.hid (h.loc La (by decide) hBw (j := 1) (.int .i64 (a0 : Int))); have K5 := Lib.hid ((K4.out.trans k).set (k := w.heap.size) (j := 1) (.int .i64 (a0 : Int)) (Nat.le_refl _) hlt); have L5 := Lib.hid (La.set (j := 1) (.int .i64 (a0 : Int))); clear h k La; obtain ⟨g, o, c, g1, g2⟩ := HND.out _ H5.out) | (go_at_call 46; refine (peek_s H3.out HP3.out).mono ?_; rintro e w4 ⟨rfl, hb⟩; have h := H3.out.below hb; have k := Kpt.of_below (b := b) H3.out.rlt hb; have La := L3.out.kpt k; have hfz4 := fun j => La.frozen j; obtain ⟨q40, q41, q42, q43, q44, q45, q46, q47, q48⟩ := nd_cells (x := ⟨8, 0, 0, 0, 0, nm, ⟨#[]⟩, [], p⟩) (v := .slice none 0 0) La.1; have H4 := Lib.hid h; have K4 := Lib.hid (K3.out.trans k); have L4 := Lib.hid La; clear h k La hb) | (go_at_call 83; refine (must_at H2.out 7 (l := s_eqs) (mk_list #[61]) (by decide) (by decide)).mono ?_; rintro e w3 ⟨rfl, h, k⟩; have La := L2.out.kpt k; have hfz3 := fun j => La.frozen j; obtain ⟨q30, q31, q32, q33, q34, q35, q36, q37, q38⟩ := nd_cells (x := ⟨8, 0, 0, 0, 0, nm, ⟨#[]⟩, [], p⟩) (v := .slice none 0 0) La.1; have H3 := Lib.hid h; have K3 := Lib.hid (K2.out.trans k); have L3 := Lib.hid La; clear h k La; obtain ⟨p3, v3, hp3, _⟩ := H3.out.rb_; obtain ⟨c0, c1, c2, c3, c4⟩ := hp3.cells; have HP3 := Lib.hid hp3; clear hp3) | (go_at_call 82; refine (text_any H1.out 2).mono ?_; rintro e w2 ⟨rfl, h, k⟩; rw [HNM.out]; have La := L1.out.kpt k; have hfz2 := fun j => La.frozen j; obtain ⟨q20, q21, q22, q23, q24, q25, q26, q27, q28⟩ := nd_cells (x := ⟨8, 0, 0, 0, 0, ⟨#[]⟩, ⟨#[]⟩, [], p⟩) (v := .slice none 0 0) La.1; have H2 := Lib.hid (h.loc La (by decide) hBw (j := 5) (.string nm)); have K2 := Lib.hid ((K1.out.trans k).set (k := w.heap.size) (j := 5) (.string nm) (Nat.le_refl _) hlt); have L2 := Lib.hid (La.set (j := 5) (.string nm)); clear h k La) | (go_at_call 49; refine (word_at H0.out (mk_list #[114, 101, 99])).mono ?_; rintro e w1 ⟨rfl, h, k⟩; rw [show s.tk 1 #[114, 101, 99].toList = s.nx from HR.out] at h; have La := L0.out.kpt k; have hfz1 := fun j => La.frozen j; obtain ⟨q10, q11, q12, q13, q14, q15, q16, q17, q18⟩ := nd_cells (x := ⟨7, 0, 0, 0, 0, ⟨#[]⟩, ⟨#[]⟩, [], p⟩) (v := .slice none 0 0) La.1; have H1 := Lib.hid (h.loc La (by decide) hBw (j := 0) (.int .i64 8)); have K1 := Lib.hid ((K0.out.trans k).set (k := w.heap.size) (j := 0) (.int .i64 8) (Nat.le_refl _) hlt); have L1 := Lib.hid (La.set (j := 0) (.int .i64 8)); clear h k La))
  go_quiet (fail)
  have H6 := Lib.hid (H5.out.below (below_drewN _ _ nq))
  have K6 := Lib.hid (K5.out.trans (Kpt.of_below (b := b) H5.out.rlt (below_drewN _ _ nq)))
  have L6 := Lib.hid (L5.out.kpt (Kpt.of_below (b := b) H5.out.rlt (below_drewN _ _ nq)))
  go_wp2_with (first | (go_at_call 84; refine (HAD.out _ H8.out).mono ?_; rintro e w9 ⟨rfl, h, k⟩; have H9 := Lib.hid h; have K9 := Lib.hid (K8.out.trans k); clear h k) | (go_at_call 26; refine (HX2.out _ H7.out).mono ?_; rintro e w8 ⟨rfl, h, k⟩; have La := L7.out.kpt k; have hfz8 := fun j => La.frozen j; obtain ⟨q80, q81, q82, q83, q84, q85, q86, q87, q88⟩ := nd_cells (x := ⟨8, (a0 : Int), 0, 0, 0, nm, ⟨#[]⟩, [], p⟩) (v := .slice none 0 0) La.1; have H8 := Lib.hid (h.loc La (by decide) hBw (j := 2) (.int .i64 (a1 : Int))); have K8 := Lib.hid ((K7.out.trans k).set (k := w.heap.size) (j := 2) (.int .i64 (a1 : Int)) (Nat.le_refl _) hlt); have L8 := Lib.hid (La.set (j := 2) (.int .i64 (a1 : Int))); clear h k La) | (go_at_call 83; refine (must_at H6.out 1 (l := w_in) (mk_list #[105, 110]) (by decide) (by decide)).mono ?_; rintro e w7 ⟨rfl, h, k⟩; have La := L6.out.kpt k; have hfz7 := fun j => La.frozen j; obtain ⟨q70, q71, q72, q73, q74, q75, q76, q77, q78⟩ := nd_cells (x := ⟨8, (a0 : Int), 0, 0, 0, nm, ⟨#[]⟩, [], p⟩) (v := .slice none 0 0) La.1; have H7 := Lib.hid h; have K7 := Lib.hid (K6.out.trans k); have L7 := Lib.hid La; clear h k La))
  go_ret
  exact ⟨rfl, H9.out, K9.out⟩
theorem bind_not {X : PS -> Ans} (HX : Reads B rb b 26 X) (p : Int) {af : Nat} {sf : PS} (h : St Av B rb b w s) (hr : s.is 1 w_rec = true) {a0 a1 : Nat} {s0 s1 : PS} {nm : ByteArray} (hnm : (s.nx.txt 2).1 = nm) (h1 : X ((s.nx.txt 2).2.must 7 s_eqs) = some (a0, s0)) {y : Nd} (hy : s0.N[a0]? = some y) (hk : y.kind ≠ 5) (h3 : X ((s0.no ((s.nx.txt 2).2.must 7 s_eqs).pk.p 5).must 1 w_in) = some (a1, s1)) (h4 : s1.add { mk 8 p with nm := nm, a := a0, b := a1 } = some (af, sf)) : Calls Tryz.prog 51 #[.pointer (some ⟨rb, 0, none⟩), .int .i64 p] w (APost Av B rb b w af sf) := by
  have HNM := Lib.hid hnm
  have HR := Lib.hid (tk_yes hr)
  have hr2 : s.is 1 #[114, 101, 99].toList = true := hr
  have hlt := h.rlt
  have hBw := h.hB
  have H0 := Lib.hid (h.alloc (.cells #[.int .i64 7, .int .i64 0, .int .i64 0, .int .i64 0, .int .i64 0, .string ⟨#[]⟩, .string ⟨#[]⟩, .slice none 0 0, .int .i64 p] 37))
  have K0 := Lib.hid ((Kpt.refl rb b w).alloc h.rlt (.cells #[.int .i64 7, .int .i64 0, .int .i64 0, .int .i64 0, .int .i64 0, .string ⟨#[]⟩, .string ⟨#[]⟩, .slice none 0 0, .int .i64 p] 37))
  have L0 := Lib.hid (Loc.new h #[.int .i64 7, .int .i64 0, .int .i64 0, .int .i64 0, .int .i64 0, .string ⟨#[]⟩, .string ⟨#[]⟩, .slice none 0 0, .int .i64 p] 37)
  have HX1 : Hid (∀ W, St Av B rb b W ((s.nx.txt 2).2.must 7 s_eqs) -> Calls Tryz.prog 26 #[.pointer (some ⟨rb, 0, none⟩)] W (APost Av B rb b W a0 s0)) := Lib.hid fun W hW => HX W _ _ _ hW h1
  have HX2 : Hid (∀ W, St Av B rb b W ((s0.no ((s.nx.txt 2).2.must 7 s_eqs).pk.p 5).must 1 w_in) -> Calls Tryz.prog 26 #[.pointer (some ⟨rb, 0, none⟩)] W (APost Av B rb b W a1 s1)) := Lib.hid fun W hW => HX W _ _ _ hW h3
  have HAD : Hid (∀ W, St Av B rb b W s1 -> Calls Tryz.prog 84 #[.pointer (some ⟨rb, 0, none⟩), .agg #[.int .i64 8, .int .i64 (a0 : Int), .int .i64 (a1 : Int), .int .i64 0, .int .i64 0, .string nm, .string ⟨#[]⟩, .slice none 0 0, .int .i64 p]] W (APost Av B rb b W af sf)) := Lib.hid fun W hW => add_any (y := ⟨8, (a0 : Int), (a1 : Int), 0, 0, nm, ⟨#[]⟩, [], p⟩) hW (ownF_nil _ _) (no_own _) h4
  have HND : Hid (∀ W, St Av B rb b W s0 -> ∃ g o c, W.cell? ⟨rb, 1, none⟩ = some (.slice (some ⟨g, o, none⟩) s0.N.length c) /\ W.cell? ⟨g, o + a0 * 9, none⟩ = some (.int .i64 y.kind)) := Lib.hid fun W hW => by obtain ⟨g, o, c, g1, g2, _⟩ := hW.nd hy; exact ⟨g, o, c, g1, g2⟩
  have hal : a0 < s0.N.length := (List.getElem?_eq_some_iff.1 hy).1
  obtain ⟨NL, hNL⟩ : ∃ NL, s0.N.length = NL := ⟨_, rfl⟩
  rw [hNL] at HND hal
  obtain ⟨yk, hyk⟩ : ∃ yk, y.kind = yk := ⟨_, rfl⟩
  rw [hyk] at HND hk
  have hkk : (yk != 5) = true := by simpa using hk
  clear hk hyk
  clear hNL hy
  clear h h1 h3 h4 HX hnm hr
  go_enter Tryz.func51, Tryz.ntmps51
  go_wp2_with (first | (go_at_call 26; refine (HX1.out _ H4.out).mono ?_; rintro e w5 ⟨rfl, h, k⟩; have La := L4.out.kpt k; have hfz5 := fun j => La.frozen j; obtain ⟨q50, q51, q52, q53, q54, q55, q56, q57, q58⟩ := nd_cells (x := ⟨8, 0, 0, 0, 0, nm, ⟨#[]⟩, [], p⟩) (v := .slice none 0 0) La.1; have H5 := Lib.hid (h.loc La (by decide) hBw (j := 1) (.int .i64 (a0 : Int))); have K5 := Lib.hid ((K4.out.trans k).set (k := w.heap.size) (j := 1) (.int .i64 (a0 : Int)) (Nat.le_refl _) hlt); have L5 := Lib.hid (La.set (j := 1) (.int .i64 (a0 : Int))); clear h k La; obtain ⟨g, o, c, g1, g2⟩ := HND.out _ H5.out) | (go_at_call 46; refine (peek_s H3.out HP3.out).mono ?_; rintro e w4 ⟨rfl, hb⟩; have h := H3.out.below hb; have k := Kpt.of_below (b := b) H3.out.rlt hb; have La := L3.out.kpt k; have hfz4 := fun j => La.frozen j; obtain ⟨q40, q41, q42, q43, q44, q45, q46, q47, q48⟩ := nd_cells (x := ⟨8, 0, 0, 0, 0, nm, ⟨#[]⟩, [], p⟩) (v := .slice none 0 0) La.1; have H4 := Lib.hid h; have K4 := Lib.hid (K3.out.trans k); have L4 := Lib.hid La; clear h k La hb) | (go_at_call 83; refine (must_at H2.out 7 (l := s_eqs) (mk_list #[61]) (by decide) (by decide)).mono ?_; rintro e w3 ⟨rfl, h, k⟩; have La := L2.out.kpt k; have hfz3 := fun j => La.frozen j; obtain ⟨q30, q31, q32, q33, q34, q35, q36, q37, q38⟩ := nd_cells (x := ⟨8, 0, 0, 0, 0, nm, ⟨#[]⟩, [], p⟩) (v := .slice none 0 0) La.1; have H3 := Lib.hid h; have K3 := Lib.hid (K2.out.trans k); have L3 := Lib.hid La; clear h k La; obtain ⟨p3, v3, hp3, _⟩ := H3.out.rb_; obtain ⟨c0, c1, c2, c3, c4⟩ := hp3.cells; have HP3 := Lib.hid hp3; clear hp3) | (go_at_call 82; refine (text_any H1.out 2).mono ?_; rintro e w2 ⟨rfl, h, k⟩; rw [HNM.out]; have La := L1.out.kpt k; have hfz2 := fun j => La.frozen j; obtain ⟨q20, q21, q22, q23, q24, q25, q26, q27, q28⟩ := nd_cells (x := ⟨8, 0, 0, 0, 0, ⟨#[]⟩, ⟨#[]⟩, [], p⟩) (v := .slice none 0 0) La.1; have H2 := Lib.hid (h.loc La (by decide) hBw (j := 5) (.string nm)); have K2 := Lib.hid ((K1.out.trans k).set (k := w.heap.size) (j := 5) (.string nm) (Nat.le_refl _) hlt); have L2 := Lib.hid (La.set (j := 5) (.string nm)); clear h k La) | (go_at_call 49; refine (word_at H0.out (mk_list #[114, 101, 99])).mono ?_; rintro e w1 ⟨rfl, h, k⟩; rw [show s.tk 1 #[114, 101, 99].toList = s.nx from HR.out] at h; have La := L0.out.kpt k; have hfz1 := fun j => La.frozen j; obtain ⟨q10, q11, q12, q13, q14, q15, q16, q17, q18⟩ := nd_cells (x := ⟨7, 0, 0, 0, 0, ⟨#[]⟩, ⟨#[]⟩, [], p⟩) (v := .slice none 0 0) La.1; have H1 := Lib.hid (h.loc La (by decide) hBw (j := 0) (.int .i64 8)); have K1 := Lib.hid ((K0.out.trans k).set (k := w.heap.size) (j := 0) (.int .i64 8) (Nat.le_refl _) hlt); have L1 := Lib.hid (La.set (j := 0) (.int .i64 8)); clear h k La))
  go_quiet (fail)
  have H6 := Lib.hid (H5.out.below (below_drewN _ _ nq))
  have K6 := Lib.hid (K5.out.trans (Kpt.of_below (b := b) H5.out.rlt (below_drewN _ _ nq)))
  have L6 := Lib.hid (L5.out.kpt (Kpt.of_below (b := b) H5.out.rlt (below_drewN _ _ nq)))
  go_wp2_with (first | (go_at_call 84; refine (HAD.out _ H9.out).mono ?_; rintro e w10 ⟨rfl, h, k⟩; have H10 := Lib.hid h; have K10 := Lib.hid (K9.out.trans k); clear h k) | (go_at_call 26; refine (HX2.out _ H8.out).mono ?_; rintro e w9 ⟨rfl, h, k⟩; have La := L8.out.kpt k; have hfz9 := fun j => La.frozen j; obtain ⟨q90, q91, q92, q93, q94, q95, q96, q97, q98⟩ := nd_cells (x := ⟨8, (a0 : Int), 0, 0, 0, nm, ⟨#[]⟩, [], p⟩) (v := .slice none 0 0) La.1; have H9 := Lib.hid (h.loc La (by decide) hBw (j := 2) (.int .i64 (a1 : Int))); have K9 := Lib.hid ((K8.out.trans k).set (k := w.heap.size) (j := 2) (.int .i64 (a1 : Int)) (Nat.le_refl _) hlt); have L9 := Lib.hid (La.set (j := 2) (.int .i64 (a1 : Int))); clear h k La) | (go_at_call 83; refine (must_at H7.out 1 (l := w_in) (mk_list #[105, 110]) (by decide) (by decide)).mono ?_; rintro e w8 ⟨rfl, h, k⟩; have La := L7.out.kpt k; have hfz8 := fun j => La.frozen j; obtain ⟨q80, q81, q82, q83, q84, q85, q86, q87, q88⟩ := nd_cells (x := ⟨8, (a0 : Int), 0, 0, 0, nm, ⟨#[]⟩, [], p⟩) (v := .slice none 0 0) La.1; have H8 := Lib.hid h; have K8 := Lib.hid (K7.out.trans k); have L8 := Lib.hid La; clear h k La) | (go_at_call 47; refine (refuse_any H6.out _ 5).mono ?_; rintro e w7 ⟨rfl, h, k⟩; have La := L6.out.kpt k; have hfz7 := fun j => La.frozen j; obtain ⟨q70, q71, q72, q73, q74, q75, q76, q77, q78⟩ := nd_cells (x := ⟨8, (a0 : Int), 0, 0, 0, nm, ⟨#[]⟩, [], p⟩) (v := .slice none 0 0) La.1; have H7 := Lib.hid h; have K7 := Lib.hid (K6.out.trans k); have L7 := Lib.hid La; clear h k La))
  go_ret
  exact ⟨rfl, H10.out, K10.out⟩
theorem bind_any {X : PS -> Ans} (HX : Reads B rb b 26 X) (p : Int) {af : Nat} {sf : PS} (h : St Av B rb b w s) (ho : bindP X p s = some (af, sf)) : Calls Tryz.prog 51 #[.pointer (some ⟨rb, 0, none⟩), .int .i64 p] w (APost Av B rb b w af sf) := by
  unfold bindP at ho
  by_cases hr : s.is 1 w_rec = true
  · rw [if_pos hr] at ho
    unfold bindK at ho
    obtain ⟨a0, s0, h1, h2⟩ := bind_some ho
    rw [if_pos rfl] at h2
    simp only at h2
    cases hy : s0.N[a0]? with
    | none => rw [hy] at h2; cases h2
    | some y =>
      rw [hy] at h2
      simp only at h2
      obtain ⟨a1, s1, h3, h4⟩ := bind_some h2
      by_cases hk : y.kind = 5
      · rw [if_pos hk] at h3
        exact bind_fun HX p h hr rfl h1 hy hk h3 h4
      · rw [if_neg hk] at h3
        exact bind_not HX p h hr rfl h1 hy hk h3 h4
  · rw [if_neg hr] at ho
    unfold bindK at ho
    obtain ⟨a0, s0, h1, h2⟩ := bind_some ho
    rw [if_neg (by decide)] at h2
    obtain ⟨a1, s1, h3, h4⟩ := bind_some h2
    exact bind_let HX p h (Bool.eq_false_iff.2 hr) rfl h1 h3 h4
end
open T Go.RowKit Go.Shelf
def Avv (Av : Nat -> Prop) (v : Value) : Nat -> Prop := fun g => Av g ∨ v.ownBlock = some g
section
variable {Av Av' : Nat -> Prop} {B rb b BK : Nat} {w w' W W8 : World} {s s' : PS} {v v2 : Value} {fs : List Fld}
theorem St.weaken (h : St Av B rb b w s) (hs : ∀ g, Av' g -> Av g) : St Av' B rb b w s := by
  obtain ⟨p, v, ps, h1, h2, h3, h4⟩ := h.at_
  exact ⟨fun g hg => h.av g (hs g hg), h.hrb, h.hb, h.hB, h.ne, p, v, ps, h1, h2, h3, h4.1, fun x hx g hg ha => h4.2 x hx g hg (hs g ha)⟩
theorem St.fresh (h : St Av B rb b w s) (o : Obj) : St (fun g => Av g ∨ g = w.heap.size) B rb b (w.alloc o) s := by
  have h1 := h.alloc o
  obtain ⟨p, v, ps, e1, e2, e3, e4⟩ := h1.at_
  obtain ⟨p', v', ps', e1', e2', e3', e4'⟩ := h.at_
  have h2 := h.below ((Below.refl _ w).alloc (Nat.le_refl _) o)
  have hb : Below w.heap.size w (w.alloc o) := (Below.refl _ w).alloc (Nat.le_refl _) o
  refine ⟨fun g hg => hg.elim (h1.av g) (fun e => by rw [e]; simp), h.hrb, h.hb, h1.hB, h.ne, p', v', ps', (hb.block rb h.rlt).trans e1', e2'.heap (hb.block b h.blt) (fun g hg _ _ => hb.block g (Nat.lt_of_lt_of_le hg h.hB)), e3', ⟨ownN_grow e4'.1 (grown_of hb), fun x hx g hg ha => ?_⟩⟩
  rcases ha with ha | ha
  · exact e4'.2 x hx g hg ha
  · have := (World.ownsRow.lt (e4'.1.2 x hx) g hg).2
    omega
theorem St.set97 {k j : Nat} {cs : Array Value} {t : TypeId} (h : St Av B rb b w s) (hl : Loc rb b w k cs t) (ha : Av k) (hk : B <= k) (v : Value) : St Av B rb b (w.setCell ⟨k, j, none⟩ v) s := by
  have hb := h.hb
  refine h.heap (by simp) (set_far _ _ _ _ _ (Ne.symm hl.2.1)) (set_far _ _ _ _ _ (Ne.symm hl.2.2.1)) (fun g hg _ _ => set_far _ _ _ _ _ (by omega)) fun g cs' t' hg hg' ht' => set_far _ _ _ _ _ ?_
  rintro rfl
  rcases ht' with ⟨rfl, h0⟩ | h0
  · exact h0 ha
  · exact hl.2.2.2 h0
theorem St.grow (h : St (Avv Av v) B rb b W s) (hf : OwnF BK W v fs) (hBK : B <= BK) (hg : W.grownBy W8 v.ownBlock) (hv : v2.ownBlock = v.ownBlock ∨ ∃ g, v2.ownBlock = some g /\ W.heap.size <= g) (hv2 : ∀ g, v2.ownBlock = some g -> g < W8.heap.size) : St (Avv Av v2) B rb b W8 s := by
  have hrb := h.hrb
  have hbb := h.hb
  have hB := h.hB
  have hvl : ∀ g, v.ownBlock = some g -> BK <= g /\ g < W.heap.size := fun g e => hf.lt g e
  have hbl : ∀ k, k < W.heap.size -> v.ownBlock ≠ some k -> W8.heap[k]? = W.heap[k]? := fun k hk hne => hg.block k hk (fun e => hne e.symm)
  have hnb : ∀ g, nbk W rb = some g -> v.ownBlock ≠ some g := fun g e hh => by
    obtain ⟨_, cur, hc⟩ := h.nbB g e
    rcases hf.2 with ⟨e0, _⟩ | ⟨g', cap, cur', e1, _, e3, _⟩
    · rw [e0] at hh; cases hh
    · rw [e1] at hh; cases hh
      rw [hc] at e3
      injection e3 with e
      injection e with _ e _
      exact absurd e (by decide)
  have h1 : St (Avv Av v) B rb b W8 s := by
    refine h.heap hg.size (hbl rb (by omega) fun e => by have := (hvl _ e).1; omega) (hbl b (by omega) fun e => by have := (hvl _ e).1; omega) (fun g hg1 _ _ => hbl g (by omega) fun e => by have := (hvl _ e).1; omega) fun g cs t hg1 hg2 ht => hbl g (Array.getElem?_eq_some_iff.1 hg2).1 fun e => ?_
    rcases ht with ⟨_, ht⟩ | ht
    · exact ht (.inr e)
    · exact hnb g ht e
  obtain ⟨p0, v0, ps0, a1, a2, a3, a4⟩ := h.at_
  obtain ⟨p, u, ps, e1, e2, e3, e4⟩ := h1.at_
  have h2 := h.weaken (Av' := Av) fun g hg => .inl hg
  have h8 : St Av B rb b W8 s := h1.weaken fun g hg => .inl hg
  refine ⟨fun g hg => hg.elim (h8.av g) (hv2 g), h1.hrb, h1.hb, h1.hB, h1.ne, p0, v0, ps0, (hbl rb (by omega) fun e => by have := (hvl _ e).1; omega).trans a1, a2.heap (hbl b (by omega) fun e => by have := (hvl _ e).1; omega) (fun g hg1 _ _ => hbl g (by omega) fun e => by have := (hvl _ e).1; omega), a3, ⟨⟨a4.1.1.kept hg (rows_ne a4.1.1 hf (by decide)), fun x hx => ?_⟩, fun x hx g hgx ha => ?_⟩⟩
  · have hne : x.2.ownBlock = none ∨ x.2.ownBlock ≠ v.ownBlock := by
      cases hx2 : x.2.ownBlock with
      | none => exact .inl rfl
      | some g => exact .inr fun e => a4.2 x hx g hx2 (.inr e.symm)
    exact (a4.1.2 x hx).kept hg hne
  · rcases ha with ha | ha
    · exact a4.2 x hx g hgx (.inl ha)
    · rcases hv with e | ⟨g', e, hg'⟩
      · exact a4.2 x hx g hgx (.inr (e ▸ ha))
      · rw [ha] at e
        cases e
        have := (World.ownsRow.lt (a4.1.2 x hx) g hgx).2
        omega
theorem Kpt.grow {w0 : World} (h : Kpt rb b w0 W) (hs : St Av B rb b W s) (hf : OwnF BK W v fs) (hB : B <= BK) (hBK : w0.heap.size <= BK) (hg : W.grownBy W8 v.ownBlock) : Kpt rb b w0 W8 := by
  have hrb := hs.hrb
  have hB2 := hs.hB
  have hvl : ∀ g, v.ownBlock = some g -> BK <= g := fun g e => (hf.lt g e).1
  have hbl : ∀ k, k < W.heap.size -> v.ownBlock ≠ some k -> W8.heap[k]? = W.heap[k]? := fun k hk hne => hg.block k hk (fun e => hne e.symm)
  refine ⟨⟨hg.os.trans h.fr.os, hg.tape.trans h.fr.tape, hg.output.trans h.fr.output, Nat.le_trans h.fr.size hg.size, fun k hk hh => (hbl k (Nat.lt_of_lt_of_le hk h.fr.size) fun e => by have := hvl _ e; omega).trans (h.fr.block k hk hh)⟩, ?_⟩
  rw [nbk_heap (hbl rb (by omega) fun e => by have := hvl _ e; omega)]
  exact h.nb
theorem Loc.grow {k : Nat} {cs : Array Value} {t : TypeId} (h : Loc rb b W k cs t) (ht : t ≠ 97) (hs : St Av B rb b W s) (hf : OwnF BK W v fs) (hB : B <= BK) (hg : W.grownBy W8 v.ownBlock) : Loc rb b W8 k cs t := by
  have hrb := hs.hrb
  have hB2 := hs.hB
  have hvl : ∀ g, v.ownBlock = some g -> BK <= g := fun g e => (hf.lt g e).1
  have hbl : ∀ k, k < W.heap.size -> v.ownBlock ≠ some k -> W8.heap[k]? = W.heap[k]? := fun k hk hne => hg.block k hk (fun e => hne e.symm)
  refine ⟨(hbl k h.lt fun e => ?_).trans h.1, h.2.1, h.2.2.1, by rw [nbk_heap (hbl rb (by omega) fun e => by have := hvl _ e; omega)]; exact h.2.2.2⟩
  rcases hf.2 with ⟨e0, _⟩ | ⟨g', cap, cur', e1, _, e3, _⟩
  · rw [e0] at e; cases e
  · rw [e1] at e; cases e
    have h1 := h.1
    rw [e3] at h1
    injection h1 with e
    injection e with _ e _
    exact ht e.symm
theorem ownF_kptB (hf : OwnF BK w v fs) (hB : B <= BK) (h : St Av B rb b w s) (hk : Kpt rb b w w') : OwnF BK w' v fs := by
  have hrb := h.hrb
  have hbB := h.hb
  refine ⟨hf.1, ?_⟩
  rcases hf.2 with h0 | ⟨g, cap, cur, e1, e2, e3, e4⟩
  · exact .inl h0
  · refine .inr ⟨g, cap, cur, e1, e2, (hk.fr.block g (Array.getElem?_eq_some_iff.1 e3).1 fun hh => ?_).trans e3, e4⟩
    rcases hh with hh | hh | hh
    · omega
    · omega
    · obtain ⟨_, cur', hc⟩ := h.nbB g hh
      rw [hc] at e3
      injection e3 with e
      injection e with _ e _
      exact absurd e (by decide)
end
open T Go.RowKit Go.Shelf
theorem fldInfo : (Tryz.prog.info? 97).map (fun i => (i.zero, i.size, i.bytes)) = some (some (.agg #[.string ⟨#[]⟩, .string ⟨#[]⟩, .int .i64 0]), 3, 40) := by kernel_rfl
theorem wpList_append_place {P : Program} (w : World) {ops : Array Oper} {rest : List Oper} {o : Oper} {a : Act} {Q : Exit -> Act -> World -> Prop} (hgd : o.guard = none) (s x : Operand) (t : TypeId)
    (ho : o.op = .call { callee := .builtin .append, args := #[s, x], argTypes := #[t, t] })
    (base : Nat) (e : TypeId) (i : TypeInfo) (z : Value) (size bytes : Nat) (ht : P.underlying t = some (.slice e)) (hi : P.info? e = some i) (hz : i.zero = some z)
    (hsize : i.size = size) (hby : i.bytes = bytes) (hzs : z.cells.size = size) (hsz : 0 < size)
    (v : Value) (n : Nat) (xs : List Value) (hs : a.eval s = v) (hown : w.ownsRow base e size v n xs)
    (ad : Addr) (m c : Nat) (news : List Value) (hx : a.eval x = .slice (some ad) m c) (hl : news.length = m * size) (hnews : ∀ j u, news[j]? = some u -> w.cell? (ad.add j) = some u) (h1 : ∀ u ∈ news, u.oneCell' = true)
    (h63 : n + m <= maxLen) (hbytes : (n + m) * bytes <= 140737488355328) (hbase : base <= w.heap.size)
    (h : ∀ v' w', w'.ownsRow base e size v' (n + m) (xs ++ news) -> w.grownBy w' v.ownBlock -> (v'.ownBlock = v.ownBlock ∨ ∃ g, v'.ownBlock = some g /\ w.heap.size <= g) -> wpList P ops Q rest (a.put o.dst v') w') : wpList P ops Q (o :: rest) a w :=
  wpList_plain hgd fun _ hK => wp_append_place w s x t ho base e i z size bytes ht hi hz hsize hby hzs hsz v n xs hs hown ad m c news hx hl hnews h1 h63 hbytes hbase fun v' w' h2 h3 h4 => hK _ _ (h v' w' h2 h3 h4)
structure RecAt (Av : Nat -> Prop) (B rb b : Nat) (w W : World) (x : PS) (kd a0 p : Int) (v : Value) (fs : List Fld) : Prop where
  st : St (Avv Av v) B rb b W x
  kp : Kpt rb b w W
  ln : Loc rb b W w.heap.size #[.int .i64 kd, .int .i64 a0, .int .i64 0, .int .i64 0, .int .i64 0, .string ⟨#[]⟩, .string ⟨#[]⟩, v, .int .i64 p] 37
  of : OwnF (w.heap.size + 1) W v fs
  hB : B <= w.heap.size
  hr : rb < w.heap.size
structure RecF (Av : Nat -> Prop) (B rb b : Nat) (w W : World) (x : PS) (kd a0 p : Int) (v : Value) (fs : List Fld) (kF : Nat) (f : Fld) : Prop where
  st : St (fun g => Avv Av v g ∨ g = kF) B rb b W x
  kp : Kpt rb b w W
  ln : Loc rb b W w.heap.size #[.int .i64 kd, .int .i64 a0, .int .i64 0, .int .i64 0, .int .i64 0, .string ⟨#[]⟩, .string ⟨#[]⟩, v, .int .i64 p] 37
  of : OwnF (w.heap.size + 1) W v fs
  lf : Loc rb b W kF #[.string f.nm, .string f.vr, .int .i64 f.pl] 97
  hk : w.heap.size + 1 <= kF
  ne : v.ownBlock ≠ some kF
  hB : B <= w.heap.size
  hr : rb < w.heap.size
section
variable {Av : Nat -> Prop} {B rb b : Nat} {w W W' W8 : World} {x x' : PS} {kd a0 p : Int} {v v2 : Value} {fs : List Fld} {kF : Nat} {f : Fld}
theorem RecAt.next (h : RecAt Av B rb b w W x kd a0 p v fs) (hs : St (Avv Av v) B rb b W' x') (hk : Kpt rb b W W') : RecAt Av B rb b w W' x' kd a0 p v fs :=
  ⟨hs, h.kp.trans hk, h.ln.kpt hk, ownF_kptB h.of (Nat.le_succ_of_le h.hB) h.st hk, h.hB, h.hr⟩
theorem RecF.next (h : RecF Av B rb b w W x kd a0 p v fs kF f) (hs : St (fun g => Avv Av v g ∨ g = kF) B rb b W' x') (hk : Kpt rb b W W') : RecF Av B rb b w W' x' kd a0 p v fs kF f :=
  ⟨hs, h.kp.trans hk, h.ln.kpt hk, ownF_kptB h.of (Nat.le_succ_of_le h.hB) h.st hk, h.lf.kpt hk, h.hk, h.ne, h.hB, h.hr⟩
theorem RecAt.start (h : St Av B rb b w x) (kd a0 p : Int) : RecAt Av B rb b w (w.alloc (.cells #[.int .i64 kd, .int .i64 a0, .int .i64 0, .int .i64 0, .int .i64 0, .string ⟨#[]⟩, .string ⟨#[]⟩, .slice none 0 0, .int .i64 p] 37)) x kd a0 p (.slice none 0 0) [] :=
  ⟨(h.alloc _).weaken (fun g hg => hg.elim id (fun e => (by cases e))), (Kpt.refl rb b w).alloc h.rlt _, Loc.new h _ _, World.ownsRow_nil _ _ _ _, h.hB, h.rlt⟩
theorem RecAt.fld (h : RecAt Av B rb b w W x kd a0 p v fs) (f : Fld) : RecF Av B rb b w (W.alloc (.cells #[.string f.nm, .string f.vr, .int .i64 f.pl] 97)) x kd a0 p v fs W.heap.size f := by
  have hk := (Kpt.refl rb b W).alloc h.st.rlt (.cells #[.string f.nm, .string f.vr, .int .i64 f.pl] 97)
  have hn := h.ln.lt
  exact ⟨h.st.fresh _, h.kp.trans hk, h.ln.kpt hk, ownF_kptB h.of (Nat.le_succ_of_le h.hB) h.st hk, Loc.new h.st _ _, hn, fun e => by have := (h.of.lt _ e).2; omega, h.hB, h.hr⟩
theorem ownF_far {BK k j : Nat} (hf : OwnF BK W v fs) (hne : v.ownBlock ≠ some k) (u : Value) : OwnF BK (W.setCell ⟨k, j, none⟩ u) v fs := by
  refine ⟨hf.1, ?_⟩
  rcases hf.2 with h0 | ⟨g, cap, cur, e1, e2, e3, e4⟩
  · exact .inl h0
  · exact .inr ⟨g, cap, cur, e1, e2, (set_far _ _ _ _ _ (fun e => hne (by rw [e1, e]; rfl))).trans e3, e4⟩
theorem RecF.put (h : RecF Av B rb b w W x kd a0 p v fs kF f) (j : Nat) (u : Value) {f2 : Fld} (e : (#[.string f.nm, .string f.vr, .int .i64 f.pl] : Array Value).setIfInBounds j u = #[.string f2.nm, .string f2.vr, .int .i64 f2.pl]) : RecF Av B rb b w (W.setCell ⟨kF, j, none⟩ u) x kd a0 p v fs kF f2 := by
  have hkk := h.hk
  have hB := h.hB
  exact ⟨h.st.set97 h.lf (.inr rfl) (by omega) u, h.kp.set u (by omega) h.hr, h.ln.far u (by omega) h.lf.2.1, ownF_far h.of h.ne u, e ▸ h.lf.set u, h.hk, h.ne, h.hB, h.hr⟩
theorem RecF.push (h : RecF Av B rb b w W x kd a0 p v fs kF f) {o : Obj} (h7 : W8.ownsRow (w.heap.size + 1) 97 3 v2 (fs.length + 1) (fCells fs ++ [.string f.nm, .string f.vr, .int .i64 f.pl])) (hg : (W.alloc o).grownBy W8 v.ownBlock) (hv : v2.ownBlock = v.ownBlock ∨ ∃ g, v2.ownBlock = some g /\ (W.alloc o).heap.size <= g) :
    Loc rb b W8 w.heap.size #[.int .i64 kd, .int .i64 a0, .int .i64 0, .int .i64 0, .int .i64 0, .string ⟨#[]⟩, .string ⟨#[]⟩, v, .int .i64 p] 37 /\ RecAt Av B rb b w (W8.setCell ⟨w.heap.size, 7, none⟩ v2) x kd a0 p v2 (fs ++ [f]) := by
  have hBK : B <= w.heap.size + 1 := Nat.le_succ_of_le h.hB
  have hs : St (Avv Av v) B rb b (W.alloc o) x := (h.st.weaken fun g hg => .inl hg).alloc o
  have hk := (Kpt.refl rb b W).alloc h.st.rlt o
  have hf := ownF_kptB h.of hBK h.st hk
  have hl2 : ∀ g, v2.ownBlock = some g -> w.heap.size + 1 <= g /\ g < W8.heap.size := fun g e => h7.lt g e
  have h8 := hs.grow hf hBK hg hv fun g e => (hl2 g e).2
  have k8 := (h.kp.trans hk).grow hs hf hBK (Nat.le_succ _) hg
  have l8 := (h.ln.kpt hk).grow (by decide) hs hf hBK hg
  have hf8 : OwnF (w.heap.size + 1) W8 v2 (fs ++ [f]) := by
    unfold OwnF
    rw [List.length_append]
    have : fCells (fs ++ [f]) = fCells fs ++ [.string f.nm, .string f.vr, .int .i64 f.pl] := by simp [fCells]
    rw [this]
    exact h7
  have hr := h.hr
  refine ⟨l8, h8.loc l8 (by decide) h.hB v2, k8.set v2 (Nat.le_refl _) hr, l8.set v2, ownF_far hf8 (fun e => by have := (hl2 _ e).1; omega) v2, h.hB, h.hr⟩
end
open T Go.RowKit Go.Shelf
attribute [local go_sem] field_p field_s field_n
section
variable {Av : Nat -> Prop} {B rb b : Nat} {w w' W : World} {s s' x : PS} {v : Value} {fs : List Fld} {kd a0 p : Int} {kF : Nat} {f : Fld}
theorem RecAt.facts (h : RecAt Av B rb b w W x kd a0 p v fs) : W.cell? ⟨w.heap.size, 0, none⟩ = some (.int .i64 kd) /\ W.cell? ⟨w.heap.size, 1, none⟩ = some (.int .i64 a0) /\ W.cell? ⟨w.heap.size, 2, none⟩ = some (.int .i64 0) /\ W.cell? ⟨w.heap.size, 3, none⟩ = some (.int .i64 0) /\ W.cell? ⟨w.heap.size, 4, none⟩ = some (.int .i64 0) /\ W.cell? ⟨w.heap.size, 5, none⟩ = some (.string ⟨#[]⟩) /\ W.cell? ⟨w.heap.size, 6, none⟩ = some (.string ⟨#[]⟩) /\ W.cell? ⟨w.heap.size, 7, none⟩ = some v /\ W.cell? ⟨w.heap.size, 8, none⟩ = some (.int .i64 p) :=
  ⟨h.ln.cell 0, h.ln.cell 1, h.ln.cell 2, h.ln.cell 3, h.ln.cell 4, h.ln.cell 5, h.ln.cell 6, h.ln.cell 7, h.ln.cell 8⟩
theorem RecF.facts (h : RecF Av B rb b w W x kd a0 p v fs kF f) : W.cell? ⟨w.heap.size, 7, none⟩ = some v /\ W.cell? ⟨kF, 0, none⟩ = some (.string f.nm) /\ W.cell? ⟨kF, 1, none⟩ = some (.string f.vr) /\ W.cell? ⟨kF, 2, none⟩ = some (.int .i64 f.pl) /\ (∀ j, W.frozen? ⟨kF, j, none⟩ = false) :=
  ⟨h.ln.cell 7, h.lf.cell 0, h.lf.cell 1, h.lf.cell 2, fun j => h.lf.frozen j⟩
theorem RecAt.add (h : RecAt Av B rb b w W x kd a0 p v fs) : St Av B rb b W x := h.st.weaken fun _g hg => .inl hg
theorem RecAt.own (h : RecAt Av B rb b w W x kd a0 p v fs) : OwnF B W v fs := row_mono h.of (Nat.le_succ_of_le h.hB)
theorem RecAt.free (h : RecAt Av B rb b w W x kd a0 p v fs) (ha : ∀ g, Av g -> g < w.heap.size) : ∀ g, v.ownBlock = some g -> ¬ Av g := fun g hg hh => by have := (h.of.lt g hg).1; have := ha g hh; omega
theorem one3 (x y : ByteArray) (n : Int) : ∀ u ∈ [Value.string x, .string y, .int .i64 n], u.oneCell' = true := fun u hu => by
  simp only [List.mem_cons, List.mem_nil_iff, or_false] at hu
  rcases hu with rfl | rfl | rfl <;> rfl
theorem rec_none {X : PS -> Ans} (_HX : Reads B rb b 26 X) (p : Int) {af : Nat} {sf : PS} (h : St Av B rb b w s) (hr : s.is 7 s_rbra = true) (ho : s.nx.add (mk 11 p) = some (af, sf)) : Calls Tryz.prog 205 #[.pointer (some ⟨rb, 0, none⟩), .int .i64 p] w (APost Av B rb b w af sf) := by
  have HR := Lib.hid (tk_yes hr)
  have hr2 : s.is 7 #[125].toList = true := hr
  have HAV := Lib.hid h.av
  have H0 := Lib.hid (RecAt.start h 11 0 p)
  have HAD : Hid (∀ W, St Av B rb b W s.nx -> Calls Tryz.prog 84 #[.pointer (some ⟨rb, 0, none⟩), .agg #[.int .i64 11, .int .i64 0, .int .i64 0, .int .i64 0, .int .i64 0, .string ⟨#[]⟩, .string ⟨#[]⟩, .slice none 0 0, .int .i64 p]] W (APost Av B rb b W af sf)) := Lib.hid fun W hW => add_any (y := ⟨11, 0, 0, 0, 0, ⟨#[]⟩, ⟨#[]⟩, [], p⟩) hW (ownF_nil _ _) (no_own _) ho
  clear h hr ho
  go_enter Tryz.func205, Tryz.ntmps205
  go_wp2_with (first | (go_at_call 84; refine (HAD.out _ HE.out.add).mono ?_; rintro e w5 ⟨rfl, h5, k5⟩; have H5 := Lib.hid h5; have K5 := Lib.hid (HE.out.kp.trans k5); clear h5 k5) | (go_at_call 200; refine (sign_at H0.out.st (mk_list #[125])).mono ?_; rintro e w4 ⟨rfl, h4, k4⟩; rw [show s.tk 7 #[125].toList = s.nx from HR.out] at h4; have HEa := H0.out.next h4 k4; obtain ⟨q0, q1, q2, q3, q4, q5, q6, q7, q8⟩ := HEa.facts; have HE := Lib.hid HEa; clear h4 k4 HEa))
  go_ret
  exact ⟨rfl, H5.out, K5.out⟩
theorem rec_some {X : PS -> Ans} (HX0 : Reads B rb b 26 X) (p : Int) {af : Nat} {sf : PS} (h : St Av B rb b w s) (hr : s.is 7 s_rbra = false) (ho : recL X p (s.l.length + 2) [] s = some (af, sf)) : Calls Tryz.prog 205 #[.pointer (some ⟨rb, 0, none⟩), .int .i64 p] w (APost Av B rb b w af sf) := by
  obtain ⟨j0, hj0, hy0, hy1, hy2⟩ := info_parts fldInfo
  have HX := Lib.hid HX0
  have HR := Lib.hid (tk_not hr)
  have hr2 : s.is 7 #[125].toList = false := hr
  have HAV := Lib.hid h.av
  have H0 := Lib.hid (RecAt.start h 11 0 p)
  have HL := Lib.hid ho
  clear h hr ho HX0
  go_enter Tryz.func205, Tryz.ntmps205
  go_wp2_with (go_at_call 200; refine (sign_at H0.out.st (mk_list #[125])).mono ?_; rintro e w4 ⟨rfl, h4, k4⟩; rw [show s.tk 7 #[125].toList = s from HR.out] at h4; have HE0 := Lib.hid (H0.out.next h4 k4); clear h4 k4)
  clear hr2
  go_loopg [6] (s.l.length + 2) (fun n s6 wr => ∃ (more : Bool) (fs : List Fld) (x : PS) (FA : Option Addr) (m fc : Nat), s6 = .bool more /\ Hid (fs.length = m) /\ Hid (RecAt Av B rb b w wr x 11 0 p (.slice FA m fc) fs) /\ Hid (if more = true then recL X p n fs x = some (af, sf) else (x.must 7 s_rbra).add { mk 11 p with l := fs } = some (af, sf)))
  case atStart => exact ⟨true, [], s, none, 0, 0, rfl, Lib.hid rfl, HE0, Lib.hid (by rw [if_pos rfl]; exact HL.out)⟩
  case round =>
    obtain ⟨more, fs, x, FA, m, fc, rfl, HM, HS, HPP⟩ := hrel
    have hzr := HS.out.kp.fr.size
    cases more with
    | true =>
      have hp := HPP.out
      rw [if_pos rfl] at hp
      cases gk with
      | zero => simp [recL] at hp
      | succ k =>
        rw [recL] at hp
        by_cases hlen : fs.length < 1000
        case neg => rw [if_neg hlen] at hp; cases hp
        rw [if_pos hlen] at hp
        have hm : m < 1000 := by have := HM.out; omega
        obtain ⟨a1, s1, e1, e2⟩ := bind_some hp
        obtain ⟨nm, hnm⟩ : ∃ nm, (x.lab 2 fs).1 = nm := ⟨_, rfl⟩
        have HNM := Lib.hid hnm
        rw [hnm] at e2
        have HX1 : Hid (∀ {Av : Nat -> Prop} W, St Av B rb b W ((x.lab 2 fs).2.must 7 s_eqs) -> Calls Tryz.prog 26 #[.pointer (some ⟨rb, 0, none⟩)] W (APost Av B rb b W a1 s1)) := Lib.hid fun W hW => HX.out W _ _ _ hW e1
        obtain ⟨q0, q1, q2, q3, q4, q5, q6, q7, q8⟩ := HS.out.facts
        have HLB := Lib.hid (label_any HS.out.st 2 fs FA m fc HM.out (by omega) HS.out.own)
        rw [hnm] at HLB
        have HE2 := Lib.hid e2
        clear hp hlen e1 e2 hnm
        by_cases hc : s1.is 7 s_comma = true
        · have HC := Lib.hid (tk_yes hc)
          have hc2 : s1.is 7 s_comma = true := hc
          have hE := HE2.out
          simp only at hE
          rw [if_pos hc] at hE
          have HE3 := Lib.hid hE
          clear hE hc
          go_wp2_with (first | (go_at_call 200; refine (sign_at (l := s_comma) HD.out.st (mk_list #[44])).mono ?_; rintro e w9 ⟨rfl, h9, k9⟩; have HE := Lib.hid (HD.out.next h9 k9); clear h9 k9) | (at_builtin; refine wpList_append_place _ rfl _ _ 35 rfl (w.heap.size + 1) 97 j0 (.agg #[.string ⟨#[]⟩, .string ⟨#[]⟩, .int .i64 0]) 3 40 Tryz.underlying35 hj0 hy0 hy1 hy2 rfl (by decide) _ m _ rfl (HOW.out _) ⟨w3.heap.size, 0, none⟩ 1 1 [.string nm, .string ⟨#[]⟩, .int .i64 (a1 : Int)] rfl rfl (fun j u hj => new_cellsT (w3.setCell ⟨w1.heap.size, 2, none⟩ (.int .i64 (a1 : Int))) 97 [.string nm, .string ⟨#[]⟩, .int .i64 (a1 : Int)] w3.heap.size (by simp) j u hj) (one3 _ _ _) (by unfold maxLen; omega) (by omega) (by simp; omega) ?_; intro v8 w8 hown8 hgrow8 hpl8; obtain ⟨g8, c8, rfl⟩ := ownsRow_succ hown8; have HD0 := HF3.out.push (by rw [HM.out]; exact hown8) hgrow8 hpl8; have d7 := HD0.1.cell 7; have fz7 := HD0.1.frozen 7; have HD := Lib.hid HD0.2; clear hown8 hgrow8 hpl8 HD0) | (go_at_call 26; refine (HX1.out _ HF2.out.st).mono ?_; rintro e w3 ⟨rfl, h3, k3⟩; have hz3 := k3.fr.size; have HFa := HF2.out.next h3 k3; obtain ⟨g7, y0, y1, y2, fz⟩ := HFa.facts; have HF3a := HFa.put 2 (.int .i64 (a1 : Int)) (f2 := ⟨nm, ⟨#[]⟩, (a1 : Int)⟩) rfl; have HF3 := Lib.hid HF3a; have hz4 : w.heap.size + 1 <= w1.heap.size := HFa.hk; have hz5 : w.heap.size <= w3.heap.size := HFa.kp.fr.size; have HOW : Hid (∀ o, World.ownsRow ((w3.setCell ⟨w1.heap.size, 2, none⟩ (.int .i64 (a1 : Int))).alloc o) (w.heap.size + 1) 97 3 (.slice FA m fc) m (fCells fs)) := Lib.hid (fun o => by have := World.ownsRow.alloc HF3a.of o; rwa [HM.out] at this); clear h3 k3 HFa HF3a) | (go_at_call 83; refine (must_at HF1.out.st 7 (l := s_eqs) (mk_list #[61]) (by decide) (by decide)).mono ?_; rintro e w2 ⟨rfl, h2, k2⟩; have HF2 := Lib.hid (HF1.out.next h2 k2); clear h2 k2) | (go_at_call 211; refine HLB.out.mono ?_; rintro e w1 ⟨rfl, h1, k1⟩; have HS1 := HS.out.next h1 k1; have HF1 := Lib.hid (HS1.fld ⟨nm, ⟨#[]⟩, 0⟩); clear h1 k1 HS1))
          rw [HC.out] at HE
          go_roundg k
          case measure => omega
          case rel => exact ⟨true, fs ++ [⟨nm, ⟨#[]⟩, (a1 : Int)⟩], s1.nx, some ⟨g8, 0, none⟩, m + 1, c8, rfl, Lib.hid (by rw [List.length_append, HM.out]; rfl), HE, Lib.hid (by rw [if_pos rfl]; exact HE3.out)⟩
        · have HC := Lib.hid (tk_not (Bool.eq_false_iff.2 hc))
          have hc2 : s1.is 7 s_comma = false := Bool.eq_false_iff.2 hc
          have hE := HE2.out
          simp only at hE
          rw [if_neg hc] at hE
          have HE3 := Lib.hid hE
          clear hE hc
          go_wp2_with (first | (go_at_call 200; refine (sign_at (l := s_comma) HD.out.st (mk_list #[44])).mono ?_; rintro e w9 ⟨rfl, h9, k9⟩; have HE := Lib.hid (HD.out.next h9 k9); clear h9 k9) | (at_builtin; refine wpList_append_place _ rfl _ _ 35 rfl (w.heap.size + 1) 97 j0 (.agg #[.string ⟨#[]⟩, .string ⟨#[]⟩, .int .i64 0]) 3 40 Tryz.underlying35 hj0 hy0 hy1 hy2 rfl (by decide) _ m _ rfl (HOW.out _) ⟨w3.heap.size, 0, none⟩ 1 1 [.string nm, .string ⟨#[]⟩, .int .i64 (a1 : Int)] rfl rfl (fun j u hj => new_cellsT (w3.setCell ⟨w1.heap.size, 2, none⟩ (.int .i64 (a1 : Int))) 97 [.string nm, .string ⟨#[]⟩, .int .i64 (a1 : Int)] w3.heap.size (by simp) j u hj) (one3 _ _ _) (by unfold maxLen; omega) (by omega) (by simp; omega) ?_; intro v8 w8 hown8 hgrow8 hpl8; obtain ⟨g8, c8, rfl⟩ := ownsRow_succ hown8; have HD0 := HF3.out.push (by rw [HM.out]; exact hown8) hgrow8 hpl8; have d7 := HD0.1.cell 7; have fz7 := HD0.1.frozen 7; have HD := Lib.hid HD0.2; clear hown8 hgrow8 hpl8 HD0) | (go_at_call 26; refine (HX1.out _ HF2.out.st).mono ?_; rintro e w3 ⟨rfl, h3, k3⟩; have hz3 := k3.fr.size; have HFa := HF2.out.next h3 k3; obtain ⟨g7, y0, y1, y2, fz⟩ := HFa.facts; have HF3a := HFa.put 2 (.int .i64 (a1 : Int)) (f2 := ⟨nm, ⟨#[]⟩, (a1 : Int)⟩) rfl; have HF3 := Lib.hid HF3a; have hz4 : w.heap.size + 1 <= w1.heap.size := HFa.hk; have hz5 : w.heap.size <= w3.heap.size := HFa.kp.fr.size; have HOW : Hid (∀ o, World.ownsRow ((w3.setCell ⟨w1.heap.size, 2, none⟩ (.int .i64 (a1 : Int))).alloc o) (w.heap.size + 1) 97 3 (.slice FA m fc) m (fCells fs)) := Lib.hid (fun o => by have := World.ownsRow.alloc HF3a.of o; rwa [HM.out] at this); clear h3 k3 HFa HF3a) | (go_at_call 83; refine (must_at HF1.out.st 7 (l := s_eqs) (mk_list #[61]) (by decide) (by decide)).mono ?_; rintro e w2 ⟨rfl, h2, k2⟩; have HF2 := Lib.hid (HF1.out.next h2 k2); clear h2 k2) | (go_at_call 211; refine HLB.out.mono ?_; rintro e w1 ⟨rfl, h1, k1⟩; have HS1 := HS.out.next h1 k1; have HF1 := Lib.hid (HS1.fld ⟨nm, ⟨#[]⟩, 0⟩); clear h1 k1 HS1))
          rw [HC.out] at HE
          go_roundg k
          case measure => omega
          case rel => exact ⟨false, fs ++ [⟨nm, ⟨#[]⟩, (a1 : Int)⟩], s1, some ⟨g8, 0, none⟩, m + 1, c8, rfl, Lib.hid (by rw [List.length_append, HM.out]; rfl), HE, Lib.hid (by rw [if_neg (by decide)]; exact HE3.out)⟩
    | false =>
      have hp := HPP.out
      rw [if_neg (by decide)] at hp
      have HAD : Hid (∀ W, St Av B rb b W (x.must 7 s_rbra) -> OwnF B W (.slice FA m fc) fs -> Calls Tryz.prog 84 #[.pointer (some ⟨rb, 0, none⟩), .agg #[.int .i64 11, .int .i64 0, .int .i64 0, .int .i64 0, .int .i64 0, .string ⟨#[]⟩, .string ⟨#[]⟩, .slice FA m fc, .int .i64 p]] W (APost Av B rb b W af sf)) := Lib.hid fun W hW hf =>
        add_any (y := ⟨11, 0, 0, 0, 0, ⟨#[]⟩, ⟨#[]⟩, fs, p⟩) hW hf (HS.out.free HAV.out) hp
      clear hp
      go_wp2_with (first | (go_at_call 84; refine (HAD.out _ HE.out.add HE.out.own).mono ?_; rintro e w5 ⟨rfl, h5, k5⟩; have H5 := Lib.hid h5; have K5 := Lib.hid (HE.out.kp.trans k5); clear h5 k5) | (go_at_call 83; refine (must_at HS.out.st 7 (l := s_rbra) (mk_list #[125]) (by decide) (by decide)).mono ?_; rintro e w4 ⟨rfl, h4, k4⟩; have HEa := HS.out.next h4 k4; obtain ⟨q0, q1, q2, q3, q4, q5, q6, q7, q8⟩ := HEa.facts; have HE := Lib.hid HEa; clear h4 k4 HEa))
      go_ret
      exact ⟨rfl, H5.out, K5.out⟩
theorem RecAt.putA (h : RecAt Av B rb b w W x kd a0 p v fs) (u : Int) : RecAt Av B rb b w (W.setCell ⟨w.heap.size, 1, none⟩ (.int .i64 u)) x kd u p v fs :=
  ⟨h.st.loc h.ln (by decide) h.hB _, h.kp.set _ (Nat.le_refl _) h.hr, h.ln.set _, ownF_far h.of (fun e => by have := (h.of.lt _ e).1; omega) _, h.hB, h.hr⟩
theorem cas_any {X : PS -> Ans} (HX0 : Reads B rb b 26 X) (p : Int) {af : Nat} {sf : PS} (h : St Av B rb b w s) (ho : casP X p s = some (af, sf)) : Calls Tryz.prog 206 #[.pointer (some ⟨rb, 0, none⟩), .int .i64 p] w (APost Av B rb b w af sf) := by
  obtain ⟨j0, hj0, hy0, hy1, hy2⟩ := info_parts fldInfo
  unfold casP at ho
  obtain ⟨a0, s0, h1, h2⟩ := bind_some ho
  have HX := Lib.hid HX0
  have HAV := Lib.hid h.av
  have H0 := Lib.hid (RecAt.start h 14 0 p)
  have HX0' : Hid (∀ {Av : Nat -> Prop} W, St Av B rb b W s -> Calls Tryz.prog 26 #[.pointer (some ⟨rb, 0, none⟩)] W (APost Av B rb b W a0 s0)) := Lib.hid fun W hW => HX0 W _ _ _ hW h1
  have HL := Lib.hid h2
  clear h ho HX0 h1 h2
  go_enter Tryz.func206, Tryz.ntmps206
  go_wp2_with (first | (go_at_call 83; refine (must_at HE1.out.st 1 (l := w_of) (mk_list #[111, 102]) (by decide) (by decide)).mono ?_; rintro e w5 ⟨rfl, h5, k5⟩; have HE0 := Lib.hid (HE1.out.next h5 k5); clear h5 k5) | (go_at_call 26; refine (HX0'.out _ H0.out.st).mono ?_; rintro e w4 ⟨rfl, h4, k4⟩; have HEa := H0.out.next h4 k4; obtain ⟨q0, q1, q2, q3, q4, q5, q6, q7, q8⟩ := HEa.facts; have hfz := fun j => HEa.ln.frozen j; have HE1 := Lib.hid (HEa.putA (a0 : Int)); clear h4 k4 HEa))
  go_loopg [6] ((s0.must 1 w_of).l.length + 2) (fun n s6 wr => ∃ (more : Bool) (fs : List Fld) (x : PS) (FA : Option Addr) (m fc : Nat), s6 = .bool more /\ Hid (fs.length = m) /\ Hid (RecAt Av B rb b w wr x 14 (a0 : Int) p (.slice FA m fc) fs) /\ Hid (if more = true then casL X p a0 n fs x = some (af, sf) else (x.must 1 w_end).add { mk 14 p with a := a0, l := fs } = some (af, sf)))
  case atStart => exact ⟨true, [], _, none, 0, 0, rfl, Lib.hid rfl, HE0, Lib.hid (by rw [if_pos rfl]; exact HL.out)⟩
  case round =>
    obtain ⟨more, fs, x, FA, m, fc, rfl, HM, HS, HPP⟩ := hrel
    have hzr := HS.out.kp.fr.size
    cases more with
    | true =>
      have hp := HPP.out
      rw [if_pos rfl] at hp
      cases gk with
      | zero => simp [casL] at hp
      | succ k =>
        rw [casL] at hp
        by_cases hlen : fs.length < 1000
        case neg => rw [if_neg hlen] at hp; cases hp
        rw [if_pos hlen] at hp
        have hm : m < 1000 := by have := HM.out; omega
        obtain ⟨a1, s1, e1, e2⟩ := bind_some hp
        obtain ⟨nm, hnm⟩ : ∃ nm, (x.lab 3 fs).1 = nm := ⟨_, rfl⟩
        have HNM := Lib.hid hnm
        rw [hnm] at e2
        obtain ⟨vr, hvr⟩ : ∃ vr, ((x.lab 3 fs).2.txt 2).1 = vr := ⟨_, rfl⟩
        have HVR := Lib.hid hvr
        rw [hvr] at e2
        have HX1 : Hid (∀ {Av : Nat -> Prop} W, St Av B rb b W (((x.lab 3 fs).2.txt 2).2.must 7 s_arrow) -> Calls Tryz.prog 26 #[.pointer (some ⟨rb, 0, none⟩)] W (APost Av B rb b W a1 s1)) := Lib.hid fun W hW => HX.out W _ _ _ hW e1
        obtain ⟨q0, q1, q2, q3, q4, q5, q6, q7, q8⟩ := HS.out.facts
        have HLB := Lib.hid (label_any HS.out.st 3 fs FA m fc HM.out (by omega) HS.out.own)
        rw [hnm] at HLB
        have HE2 := Lib.hid e2
        clear hp hlen e1 e2 hnm hvr
        by_cases hc : s1.is 7 s_bar = true
        · have HC := Lib.hid (tk_yes hc)
          have hc2 : s1.is 7 s_bar = true := hc
          have hE := HE2.out
          simp only at hE
          rw [if_pos hc] at hE
          have HE3 := Lib.hid hE
          clear hE hc
          go_wp2_with (first | (go_at_call 200; refine (sign_at (l := s_bar) HD.out.st (mk_list #[124])).mono ?_; rintro e w9 ⟨rfl, h9, k9⟩; have HE := Lib.hid (HD.out.next h9 k9); clear h9 k9) | (at_builtin; refine wpList_append_place _ rfl _ _ 35 rfl (w.heap.size + 1) 97 j0 (.agg #[.string ⟨#[]⟩, .string ⟨#[]⟩, .int .i64 0]) 3 40 Tryz.underlying35 hj0 hy0 hy1 hy2 rfl (by decide) _ m _ rfl (HOW.out _) ⟨w3.heap.size, 0, none⟩ 1 1 [.string nm, .string vr, .int .i64 (a1 : Int)] rfl rfl (fun j u hj => new_cellsT (w3.setCell ⟨w1.heap.size, 2, none⟩ (.int .i64 (a1 : Int))) 97 [.string nm, .string vr, .int .i64 (a1 : Int)] w3.heap.size (by simp) j u hj) (one3 _ _ _) (by unfold maxLen; omega) (by omega) (by simp; omega) ?_; intro v8 w8 hown8 hgrow8 hpl8; obtain ⟨g8, c8, rfl⟩ := ownsRow_succ hown8; have HD0 := HF3.out.push (by rw [HM.out]; exact hown8) hgrow8 hpl8; have d7 := HD0.1.cell 7; have fz7 := HD0.1.frozen 7; have HD := Lib.hid HD0.2; clear hown8 hgrow8 hpl8 HD0) | (go_at_call 26; refine (HX1.out _ HF2.out.st).mono ?_; rintro e w3 ⟨rfl, h3, k3⟩; have hz3 := k3.fr.size; have HFa := HF2.out.next h3 k3; obtain ⟨g7, y0, y1, y2, fz⟩ := HFa.facts; have HF3a := HFa.put 2 (.int .i64 (a1 : Int)) (f2 := ⟨nm, vr, (a1 : Int)⟩) rfl; have HF3 := Lib.hid HF3a; have hz4 : w.heap.size + 1 <= w1.heap.size := HFa.hk; have hz5 : w.heap.size <= w3.heap.size := HFa.kp.fr.size; have HOW : Hid (∀ o, World.ownsRow ((w3.setCell ⟨w1.heap.size, 2, none⟩ (.int .i64 (a1 : Int))).alloc o) (w.heap.size + 1) 97 3 (.slice FA m fc) m (fCells fs)) := Lib.hid (fun o => by have := World.ownsRow.alloc HF3a.of o; rwa [HM.out] at this); clear h3 k3 HFa HF3a) | (go_at_call 83; refine (must_at HF1b.out.st 7 (l := s_arrow) (mk_list #[45, 62]) (by decide) (by decide)).mono ?_; rintro e w2 ⟨rfl, h2, k2⟩; have HF2 := Lib.hid (HF1b.out.next h2 k2); clear h2 k2) | (go_at_call 82; refine (text_any HF1.out.st 2).mono ?_; rintro e w2b ⟨rfl, h2, k2⟩; rw [HVR.out]; have HFb := HF1.out.next h2 k2; obtain ⟨g7, y0, y1, y2, fz⟩ := HFb.facts; have HF1b := Lib.hid (HFb.put 1 (.string vr) (f2 := ⟨nm, vr, 0⟩) rfl); clear h2 k2 HFb) | (go_at_call 211; refine HLB.out.mono ?_; rintro e w1 ⟨rfl, h1, k1⟩; have HS1 := HS.out.next h1 k1; have HF1 := Lib.hid (HS1.fld ⟨nm, ⟨#[]⟩, 0⟩); clear h1 k1 HS1))
          rw [HC.out] at HE
          go_roundg k
          case measure => omega
          case rel => exact ⟨true, fs ++ [⟨nm, vr, (a1 : Int)⟩], s1.nx, some ⟨g8, 0, none⟩, m + 1, c8, rfl, Lib.hid (by rw [List.length_append, HM.out]; rfl), HE, Lib.hid (by rw [if_pos rfl]; exact HE3.out)⟩
        · have HC := Lib.hid (tk_not (Bool.eq_false_iff.2 hc))
          have hc2 : s1.is 7 s_bar = false := Bool.eq_false_iff.2 hc
          have hE := HE2.out
          simp only at hE
          rw [if_neg hc] at hE
          have HE3 := Lib.hid hE
          clear hE hc
          go_wp2_with (first | (go_at_call 200; refine (sign_at (l := s_bar) HD.out.st (mk_list #[124])).mono ?_; rintro e w9 ⟨rfl, h9, k9⟩; have HE := Lib.hid (HD.out.next h9 k9); clear h9 k9) | (at_builtin; refine wpList_append_place _ rfl _ _ 35 rfl (w.heap.size + 1) 97 j0 (.agg #[.string ⟨#[]⟩, .string ⟨#[]⟩, .int .i64 0]) 3 40 Tryz.underlying35 hj0 hy0 hy1 hy2 rfl (by decide) _ m _ rfl (HOW.out _) ⟨w3.heap.size, 0, none⟩ 1 1 [.string nm, .string vr, .int .i64 (a1 : Int)] rfl rfl (fun j u hj => new_cellsT (w3.setCell ⟨w1.heap.size, 2, none⟩ (.int .i64 (a1 : Int))) 97 [.string nm, .string vr, .int .i64 (a1 : Int)] w3.heap.size (by simp) j u hj) (one3 _ _ _) (by unfold maxLen; omega) (by omega) (by simp; omega) ?_; intro v8 w8 hown8 hgrow8 hpl8; obtain ⟨g8, c8, rfl⟩ := ownsRow_succ hown8; have HD0 := HF3.out.push (by rw [HM.out]; exact hown8) hgrow8 hpl8; have d7 := HD0.1.cell 7; have fz7 := HD0.1.frozen 7; have HD := Lib.hid HD0.2; clear hown8 hgrow8 hpl8 HD0) | (go_at_call 26; refine (HX1.out _ HF2.out.st).mono ?_; rintro e w3 ⟨rfl, h3, k3⟩; have hz3 := k3.fr.size; have HFa := HF2.out.next h3 k3; obtain ⟨g7, y0, y1, y2, fz⟩ := HFa.facts; have HF3a := HFa.put 2 (.int .i64 (a1 : Int)) (f2 := ⟨nm, vr, (a1 : Int)⟩) rfl; have HF3 := Lib.hid HF3a; have hz4 : w.heap.size + 1 <= w1.heap.size := HFa.hk; have hz5 : w.heap.size <= w3.heap.size := HFa.kp.fr.size; have HOW : Hid (∀ o, World.ownsRow ((w3.setCell ⟨w1.heap.size, 2, none⟩ (.int .i64 (a1 : Int))).alloc o) (w.heap.size + 1) 97 3 (.slice FA m fc) m (fCells fs)) := Lib.hid (fun o => by have := World.ownsRow.alloc HF3a.of o; rwa [HM.out] at this); clear h3 k3 HFa HF3a) | (go_at_call 83; refine (must_at HF1b.out.st 7 (l := s_arrow) (mk_list #[45, 62]) (by decide) (by decide)).mono ?_; rintro e w2 ⟨rfl, h2, k2⟩; have HF2 := Lib.hid (HF1b.out.next h2 k2); clear h2 k2) | (go_at_call 82; refine (text_any HF1.out.st 2).mono ?_; rintro e w2b ⟨rfl, h2, k2⟩; rw [HVR.out]; have HFb := HF1.out.next h2 k2; obtain ⟨g7, y0, y1, y2, fz⟩ := HFb.facts; have HF1b := Lib.hid (HFb.put 1 (.string vr) (f2 := ⟨nm, vr, 0⟩) rfl); clear h2 k2 HFb) | (go_at_call 211; refine HLB.out.mono ?_; rintro e w1 ⟨rfl, h1, k1⟩; have HS1 := HS.out.next h1 k1; have HF1 := Lib.hid (HS1.fld ⟨nm, ⟨#[]⟩, 0⟩); clear h1 k1 HS1))
          rw [HC.out] at HE
          go_roundg k
          case measure => omega
          case rel => exact ⟨false, fs ++ [⟨nm, vr, (a1 : Int)⟩], s1, some ⟨g8, 0, none⟩, m + 1, c8, rfl, Lib.hid (by rw [List.length_append, HM.out]; rfl), HE, Lib.hid (by rw [if_neg (by decide)]; exact HE3.out)⟩
    | false =>
      have hp := HPP.out
      rw [if_neg (by decide)] at hp
      have HAD : Hid (∀ W, St Av B rb b W (x.must 1 w_end) -> OwnF B W (.slice FA m fc) fs -> Calls Tryz.prog 84 #[.pointer (some ⟨rb, 0, none⟩), .agg #[.int .i64 14, .int .i64 (a0 : Int), .int .i64 0, .int .i64 0, .int .i64 0, .string ⟨#[]⟩, .string ⟨#[]⟩, .slice FA m fc, .int .i64 p]] W (APost Av B rb b W af sf)) := Lib.hid fun W hW hf =>
        add_any (y := ⟨14, (a0 : Int), 0, 0, 0, ⟨#[]⟩, ⟨#[]⟩, fs, p⟩) hW hf (HS.out.free HAV.out) hp
      clear hp
      go_wp2_with (first | (go_at_call 84; refine (HAD.out _ HE.out.add HE.out.own).mono ?_; rintro e w5 ⟨rfl, h5, k5⟩; have H5 := Lib.hid h5; have K5 := Lib.hid (HE.out.kp.trans k5); clear h5 k5) | (go_at_call 83; refine (must_at HS.out.st 1 (l := w_end) (mk_list #[101, 110, 100]) (by decide) (by decide)).mono ?_; rintro e w4 ⟨rfl, h4, k4⟩; have HEa := HS.out.next h4 k4; obtain ⟨q0, q1, q2, q3, q4, q5, q6, q7, q8⟩ := HEa.facts; have HE := Lib.hid HEa; clear h4 k4 HEa))
      go_ret
      exact ⟨rfl, H5.out, K5.out⟩
theorem rec_any {X : PS -> Ans} (HX : Reads B rb b 26 X) (p : Int) {af : Nat} {sf : PS} (h : St Av B rb b w s) (ho : recP X p s = some (af, sf)) : Calls Tryz.prog 205 #[.pointer (some ⟨rb, 0, none⟩), .int .i64 p] w (APost Av B rb b w af sf) := by
  unfold recP at ho
  by_cases hr : s.is 7 s_rbra = true
  · rw [if_pos hr] at ho
    exact rec_none HX p h hr ho
  · rw [if_neg hr] at ho
    exact rec_some HX p h (Bool.eq_false_iff.2 hr) ho
end
open T Go.RowKit Go.Shelf
attribute [local go_sem] field_p field_s field_n
section
variable {Av : Nat -> Prop} {B rb b : Nat} {w w' W : World} {s s' : PS}
theorem leaf_l (s : PS) : (leafN s).1.l = [] := by
  unfold leafN
  split
  · rfl
  split
  · rfl
  split
  · rfl
  split
  · rfl
  split
  · rfl
  rfl
structure AtomAt (Av : Nat -> Prop) (B rb b : Nat) (w W : World) (s : PS) (t : Tk) (kT : Nat) : Prop where
  st : St Av B rb b W s
  kp : Kpt rb b w W
  lt : Loc rb b W kT (tkArr t) 63
theorem AtomAt.next {t : Tk} {kT : Nat} (h : AtomAt Av B rb b w W s t kT) (hs : St Av B rb b w' s') (hk : Kpt rb b W w') : AtomAt Av B rb b w w' s' t kT := ⟨hs, h.kp.trans hk, h.lt.kpt hk⟩
theorem atom_start (h : St Av B rb b w s) {w1 : World} (hb : Below w.heap.size w w1) (t : Tk) : AtomAt Av B rb b w (w1.alloc (.cells #[.int .i64 t.k, .string t.s, .int .i64 t.n, .int .i64 t.p] 63)) s t w1.heap.size :=
  have h1 := h.below hb
  ⟨h1.alloc _, (Kpt.of_below h.rlt hb).alloc h1.rlt _, Loc.new h1 _ _⟩
theorem atom_any {X : PS -> Ans} (HX : Reads B rb b 26 X) : Reads B rb b 199 (atomP X) := by
  intro Av w s af sf h ho
  unfold atomP at ho
  obtain ⟨p, v, hp, _⟩ := h.rb_
  obtain ⟨c0, c1, c2, c3, c4⟩ := hp.cells
  have HPK := Lib.hid (peek_s h hp)
  have H := Lib.hid h
  by_cases h1 : s.is 7 s_lpar = true
  · rw [if_pos h1] at ho
    obtain ⟨a0, s0, e1, e2⟩ := bind_some ho
    cases e2
    have HT := Lib.hid (tk_yes h1)
    have HX1 : Hid (∀ W, St Av B rb b W s.nx -> Calls Tryz.prog 26 #[.pointer (some ⟨rb, 0, none⟩)] W (APost Av B rb b W a0 s0)) := Lib.hid fun W hW => HX W _ _ _ hW e1
    clear h hp ho e1 HX
    go_enter Tryz.func199, Tryz.ntmps199
    go_wp2_with (first | (go_at_call 83; refine (must_at HA3.out.st 7 (l := s_rpar) (mk_list #[41]) (by decide) (by decide)).mono ?_; rintro e w4 ⟨rfl, h4, k4⟩; have HA4 := Lib.hid (HA3.out.next h4 k4); clear h4 k4) | (go_at_call 26; refine (HX1.out _ HA2.out.st).mono ?_; rintro e w3 ⟨rfl, h3, k3⟩; have HA3 := Lib.hid (HA2.out.next h3 k3); clear h3 k3) | (go_at_call 200; refine (sign_at HA1.out.st (l := s_lpar) (mk_list #[40])).mono ?_; rintro e w2 ⟨rfl, h2, k2⟩; rw [HT.out] at h2; have HA2 := Lib.hid (HA1.out.next h2 k2); clear h2 k2) | (go_at_call 46; refine HPK.out.mono ?_; rintro e w1 ⟨rfl, hb1⟩; have HA1 := Lib.hid (atom_start H.out hb1 s.pk); clear hb1))
    go_ret
    exact ⟨rfl, HA4.out.st, HA4.out.kp⟩
  rw [if_neg h1] at ho
  have n1 := Bool.eq_false_iff.2 h1
  have HN1 := Lib.hid (tk_not n1)
  by_cases h2 : s.is 7 s_lbra = true
  · rw [if_pos h2] at ho
    have HT := Lib.hid (tk_yes h2)
    have HR : Hid (∀ W, St Av B rb b W s.nx -> Calls Tryz.prog 205 #[.pointer (some ⟨rb, 0, none⟩), .int .i64 s.pk.p] W (APost Av B rb b W af sf)) := Lib.hid fun W hW => rec_any HX s.pk.p hW ho
    clear h hp ho HX h1
    go_enter Tryz.func199, Tryz.ntmps199
    go_wp2_with (first | (go_at_call 205; refine (HR.out _ HA3.out.st).mono ?_; rintro e w4 ⟨rfl, h4, k4⟩; have HA4 := Lib.hid (HA3.out.next h4 k4); clear h4 k4) | (go_at_call 200; (with_reducible refine (sign_at HA2.out.st (mk_list #[123])).mono ?_); rintro e w3 ⟨rfl, h3, k3⟩; rw [show s.tk 7 #[123].toList = s.nx from HT.out] at h3; have hx : s.is 7 #[123].toList = true := h2; have HA3a := HA2.out.next h3 k3; have t3 : w3.cell? ⟨w1.heap.size, 3, none⟩ = some (.int .i64 s.pk.p) := HA3a.lt.cell 3; have HA3 := Lib.hid HA3a; clear h3 k3 HA3a) | (go_at_call 200; (with_reducible refine (sign_at HA1.out.st (mk_list #[40])).mono ?_); rintro e w2 ⟨rfl, h2', k2⟩; rw [show s.tk 7 #[40].toList = s from HN1.out] at h2'; have hx1 : s.is 7 #[40].toList = false := n1; have HA2 := Lib.hid (HA1.out.next h2' k2); clear h2' k2) | (go_at_call 46; refine HPK.out.mono ?_; rintro e w1 ⟨rfl, hb1⟩; have HA1 := Lib.hid (atom_start H.out hb1 s.pk); clear hb1))
    go_ret
    exact ⟨rfl, HA4.out.st, HA4.out.kp⟩
  rw [if_neg h2] at ho
  have n2 := Bool.eq_false_iff.2 h2
  have HN2 := Lib.hid (tk_not n2)
  by_cases h3 : s.is 1 w_case = true
  · rw [if_pos h3] at ho
    have HT := Lib.hid (tk_yes h3)
    have HR : Hid (∀ W, St Av B rb b W s.nx -> Calls Tryz.prog 206 #[.pointer (some ⟨rb, 0, none⟩), .int .i64 s.pk.p] W (APost Av B rb b W af sf)) := Lib.hid fun W hW => cas_any HX s.pk.p hW ho
    clear h hp ho HX h1 h2
    go_enter Tryz.func199, Tryz.ntmps199
    go_wp2_with (first | (go_at_call 206; refine (HR.out _ HA4.out.st).mono ?_; rintro e w5 ⟨rfl, h5, k5⟩; have HA5 := Lib.hid (HA4.out.next h5 k5); clear h5 k5) | (go_at_call 49; refine (word_at HA3.out.st (mk_list #[99, 97, 115, 101])).mono ?_; rintro e w4 ⟨rfl, h4, k4⟩; rw [show s.tk 1 #[99, 97, 115, 101].toList = s.nx from HT.out] at h4; have hx3 : s.is 1 #[99, 97, 115, 101].toList = true := h3; have HA4a := HA3.out.next h4 k4; have t3 : w4.cell? ⟨w1.heap.size, 3, none⟩ = some (.int .i64 s.pk.p) := HA4a.lt.cell 3; have HA4 := Lib.hid HA4a; clear h4 k4 HA4a) | (go_at_call 200; (with_reducible refine (sign_at HA2.out.st (mk_list #[123])).mono ?_); rintro e w3 ⟨rfl, h3', k3⟩; rw [show s.tk 7 #[123].toList = s from HN2.out] at h3'; have hx2 : s.is 7 #[123].toList = false := n2; have HA3 := Lib.hid (HA2.out.next h3' k3); clear h3' k3) | (go_at_call 200; (with_reducible refine (sign_at HA1.out.st (mk_list #[40])).mono ?_); rintro e w2 ⟨rfl, h2', k2⟩; rw [show s.tk 7 #[40].toList = s from HN1.out] at h2'; have hx1 : s.is 7 #[40].toList = false := n1; have HA2 := Lib.hid (HA1.out.next h2' k2); clear h2' k2) | (go_at_call 46; refine HPK.out.mono ?_; rintro e w1 ⟨rfl, hb1⟩; have HA1 := Lib.hid (atom_start H.out hb1 s.pk); clear hb1))
    go_ret
    exact ⟨rfl, HA5.out.st, HA5.out.kp⟩
  rw [if_neg h3] at ho
  have n3 := Bool.eq_false_iff.2 h3
  have HN3 := Lib.hid (tk_not n3)
  obtain ⟨y, hy⟩ : ∃ y, (leafN s).1 = y := ⟨_, rfl⟩
  obtain ⟨sl, hsl⟩ : ∃ t, (leafN s).2 = t := ⟨_, rfl⟩
  have hyl : y.l = [] := by rw [<- hy]; exact leaf_l s
  rw [hy, hsl] at ho
  have HL : Hid (∀ W, St Av B rb b W s -> Calls Tryz.prog 207 #[.pointer (some ⟨rb, 0, none⟩)] W (NPost Av B rb b W y sl)) := Lib.hid fun W hW => by have := leaf_any hW; rwa [hy, hsl] at this
  have HAD : Hid (∀ W, St Av B rb b W sl -> Calls Tryz.prog 84 #[.pointer (some ⟨rb, 0, none⟩), .agg #[.int .i64 y.kind, .int .i64 y.a, .int .i64 y.b, .int .i64 y.c, .int .i64 y.n, .string y.nm, .string y.s, .slice none 0 0, .int .i64 y.pos]] W (APost Av B rb b W af sf)) := Lib.hid fun W hW =>
    add_any hW (by rw [hyl]; exact ownF_nil _ _) (no_own _) ho
  clear h hp ho HX h1 h2 h3 hy hsl hyl
  go_enter Tryz.func199, Tryz.ntmps199
  go_wp2_with (first | (go_at_call 84; refine (HAD.out _ HA5.out.st).mono ?_; rintro e w6 ⟨rfl, h6, k6⟩; have HA6 := Lib.hid (HA5.out.next h6 k6); clear h6 k6) | (go_at_call 207; refine (HL.out _ HA4.out.st).mono ?_; rintro e w5 ⟨rfl, h5, k5⟩; have HA5 := Lib.hid (HA4.out.next h5 k5); clear h5 k5) | (go_at_call 49; refine (word_at HA3.out.st (mk_list #[99, 97, 115, 101])).mono ?_; rintro e w4 ⟨rfl, h4, k4⟩; rw [show s.tk 1 #[99, 97, 115, 101].toList = s from HN3.out] at h4; have hx3 : s.is 1 #[99, 97, 115, 101].toList = false := n3; have HA4 := Lib.hid (HA3.out.next h4 k4); clear h4 k4) | (go_at_call 200; (with_reducible refine (sign_at HA2.out.st (mk_list #[123])).mono ?_); rintro e w3 ⟨rfl, h3', k3⟩; rw [show s.tk 7 #[123].toList = s from HN2.out] at h3'; have hx2 : s.is 7 #[123].toList = false := n2; have HA3 := Lib.hid (HA2.out.next h3' k3); clear h3' k3) | (go_at_call 200; (with_reducible refine (sign_at HA1.out.st (mk_list #[40])).mono ?_); rintro e w2 ⟨rfl, h2', k2⟩; rw [show s.tk 7 #[40].toList = s from HN1.out] at h2'; have hx1 : s.is 7 #[40].toList = false := n1; have HA2 := Lib.hid (HA1.out.next h2' k2); clear h2' k2) | (go_at_call 46; refine HPK.out.mono ?_; rintro e w1 ⟨rfl, hb1⟩; have HA1 := Lib.hid (atom_start H.out hb1 s.pk); clear hb1))
  go_ret
  exact ⟨rfl, HA6.out.st, HA6.out.kp⟩
end
end Go.Proofs.YtjakeidbajkdcaaGreatDoor.A
