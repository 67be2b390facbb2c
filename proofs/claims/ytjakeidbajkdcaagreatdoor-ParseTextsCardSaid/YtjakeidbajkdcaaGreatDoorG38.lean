/- Joined by program. -/
import Derived.Test.YtjakeidbajkdcaaGreatDoorG37
import Derived.Deep.QuietTactic
import Derived.BigQuiet
set_option maxRecDepth 100000
set_option maxHeartbeats 8000000
namespace Go.Proofs.YtjakeidbajkdcaaGreatDoor.A
open T Go.RowKit Go.Shelf
attribute [local go_sem] zat zau zas
section
variable {Av : Nat -> Prop} {B rb b : Nat} {w w' : World} {s s' : PS}
theorem zav (B : Nat) (W : World) (n : Nat) : Below B W (W.drewN n) := ⟨rfl, rfl, rfl, lrf _, fun _ _ => rfl⟩
theorem zr0 {X : PS -> Ans} (HX : Reads B rb b 26 X) (p : Int) {af : Nat} {sf : PS} (h : St Av B rb b w s) (hr : s.is 1 zdw = false) {a0 a1 : Nat} {s0 s1 : PS} {nm : ByteArray} (hnm : (s.txt 2).1 = nm) (h1 : X ((s.txt 2).2.must 7 zbg) = some (a0, s0)) (h3 : X (s0.must 1 w_in) = some (a1, s1)) (h4 : s1.add { mk 7 p with nm := nm, a := a0, b := a1 } = some (af, sf)) : Calls Tryz.prog 51 #[.pointer (some ⟨rb, 0, none⟩), .int .i64 p] w (APost Av B rb b w af sf) := by
 have HNM := jj hnm
 have HR := jj (zb8 hr)
 have hr2 : s.is 1 #[114, 101, 99].toList = false := hr
 have hlt := h.rlt
 have hBw := h.hB
 have H0 := jj (h.alloc (.cells #[.int .i64 7, .int .i64 0, .int .i64 0, .int .i64 0, .int .i64 0, .string ⟨#[]⟩, .string ⟨#[]⟩, .slice none 0 0, .int .i64 p] 37))
 have K0 := jj ((Kpt.refl rb b w).alloc h.rlt (.cells #[.int .i64 7, .int .i64 0, .int .i64 0, .int .i64 0, .int .i64 0, .string ⟨#[]⟩, .string ⟨#[]⟩, .slice none 0 0, .int .i64 p] 37))
 have L0 := jj (Loc.new h #[.int .i64 7, .int .i64 0, .int .i64 0, .int .i64 0, .int .i64 0, .string ⟨#[]⟩, .string ⟨#[]⟩, .slice none 0 0, .int .i64 p] 37)
 have HX1 : Hid (∀ W, St Av B rb b W ((s.txt 2).2.must 7 zbg) -> Calls Tryz.prog 26 #[.pointer (some ⟨rb, 0, none⟩)] W (APost Av B rb b W a0 s0)) := jj fun W hW => HX W _ _ _ hW h1
 have HX2 : Hid (∀ W, St Av B rb b W (s0.must 1 w_in) -> Calls Tryz.prog 26 #[.pointer (some ⟨rb, 0, none⟩)] W (APost Av B rb b W a1 s1)) := jj fun W hW => HX W _ _ _ hW h3
 have HAD : Hid (∀ W, St Av B rb b W s1 -> Calls Tryz.prog 84 #[.pointer (some ⟨rb, 0, none⟩), .agg #[.int .i64 7, .int .i64 (a0 : Int), .int .i64 (a1 : Int), .int .i64 0, .int .i64 0, .string nm, .string ⟨#[]⟩, .slice none 0 0, .int .i64 p]] W (APost Av B rb b W af sf)) := jj fun W hW => zbp (y := ⟨7, (a0 : Int), (a1 : Int), 0, 0, nm, ⟨#[]⟩, [], p⟩) hW (zbq _ _) (zde _) h4
 clear h h1 h3 h4 HX hnm hr
 go_enter Tryz.func51, Tryz.ntmps51
 go_wp2_with (first | (go_at_call 26; refine (HX1.out _ H4.out).mono ?_; rintro e w5 ⟨rfl, h, k⟩; have La := L4.out.kpt k; have hfz5 := fun j => La.frozen j; obtain ⟨q50, q51, q52, q53, q54, q55, q56, q57, q58⟩ := zad (x := ⟨7, 0, 0, 0, 0, nm, ⟨#[]⟩, [], p⟩) (v := .slice none 0 0) La.1; have H5 := jj (h.loc La (by decide) hBw (j := 1) (.int .i64 (a0 : Int))); have K5 := jj ((K4.out.trans k).set (k := w.heap.size) (j := 1) (.int .i64 (a0 : Int)) (lrf _) hlt); have L5 := jj (La.set (j := 1) (.int .i64 (a0 : Int))); clear h k La) | (go_at_call 46; refine (zbm H3.out HP3.out).mono ?_; rintro e w4 ⟨rfl, hb⟩; have h := H3.out.below hb; have k := Kpt.of_below (b := b) H3.out.rlt hb; have La := L3.out.kpt k; have hfz4 := fun j => La.frozen j; obtain ⟨q40, q41, q42, q43, q44, q45, q46, q47, q48⟩ := zad (x := ⟨7, 0, 0, 0, 0, nm, ⟨#[]⟩, [], p⟩) (v := .slice none 0 0) La.1; have H4 := jj h; have K4 := jj (K3.out.trans k); have L4 := jj La; clear h k La hb) | (go_at_call 83; refine (zbu H2.out 7 (l := zbg) (zab #[61]) (by decide) (by decide)).mono ?_; rintro e w3 ⟨rfl, h, k⟩; have La := L2.out.kpt k; have hfz3 := fun j => La.frozen j; obtain ⟨q30, q31, q32, q33, q34, q35, q36, q37, q38⟩ := zad (x := ⟨7, 0, 0, 0, 0, nm, ⟨#[]⟩, [], p⟩) (v := .slice none 0 0) La.1; have H3 := jj h; have K3 := jj (K2.out.trans k); have L3 := jj La; clear h k La; obtain ⟨p3, v3, hp3, _⟩ := H3.out.rb_; obtain ⟨c0, c1, c2, c3, c4⟩ := hp3.cells; have HP3 := jj hp3; clear hp3) | (go_at_call 82; refine (zb3 H1.out 2).mono ?_; rintro e w2 ⟨rfl, h, k⟩; rw [HNM.out]; have La := L1.out.kpt k; have hfz2 := fun j => La.frozen j; obtain ⟨q20, q21, q22, q23, q24, q25, q26, q27, q28⟩ := zad (x := ⟨7, 0, 0, 0, 0, ⟨#[]⟩, ⟨#[]⟩, [], p⟩) (v := .slice none 0 0) La.1; have H2 := jj (h.loc La (by decide) hBw (j := 5) (.string nm)); have K2 := jj ((K1.out.trans k).set (k := w.heap.size) (j := 5) (.string nm) (lrf _) hlt); have L2 := jj (La.set (j := 5) (.string nm)); clear h k La) | (go_at_call 49; refine (zax H0.out (zab #[114, 101, 99])).mono ?_; rintro e w1 ⟨rfl, h, k⟩; rw [show s.tk 1 #[114, 101, 99].toList = s from HR.out] at h; have La := L0.out.kpt k; have hfz1 := fun j => La.frozen j; obtain ⟨q10, q11, q12, q13, q14, q15, q16, q17, q18⟩ := zad (x := ⟨7, 0, 0, 0, 0, ⟨#[]⟩, ⟨#[]⟩, [], p⟩) (v := .slice none 0 0) La.1; have H1 := jj h; have K1 := jj (K0.out.trans k); have L1 := jj La; clear h k La))
 go_quiet (fail)
 have H6 := jj (H5.out.below (zav _ _ nq))
 have K6 := jj (K5.out.trans (Kpt.of_below (b := b) H5.out.rlt (zav _ _ nq)))
 have L6 := jj (L5.out.kpt (Kpt.of_below (b := b) H5.out.rlt (zav _ _ nq)))
 go_wp2_with (first | (go_at_call 84; refine (HAD.out _ H8.out).mono ?_; rintro e w9 ⟨rfl, h, k⟩; have H9 := jj h; have K9 := jj (K8.out.trans k); clear h k) | (go_at_call 26; refine (HX2.out _ H7.out).mono ?_; rintro e w8 ⟨rfl, h, k⟩; have La := L7.out.kpt k; have hfz8 := fun j => La.frozen j; obtain ⟨q80, q81, q82, q83, q84, q85, q86, q87, q88⟩ := zad (x := ⟨7, (a0 : Int), 0, 0, 0, nm, ⟨#[]⟩, [], p⟩) (v := .slice none 0 0) La.1; have H8 := jj (h.loc La (by decide) hBw (j := 2) (.int .i64 (a1 : Int))); have K8 := jj ((K7.out.trans k).set (k := w.heap.size) (j := 2) (.int .i64 (a1 : Int)) (lrf _) hlt); have L8 := jj (La.set (j := 2) (.int .i64 (a1 : Int))); clear h k La) | (go_at_call 83; refine (zbu H6.out 1 (l := w_in) (zab #[105, 110]) (by decide) (by decide)).mono ?_; rintro e w7 ⟨rfl, h, k⟩; have La := L6.out.kpt k; have hfz7 := fun j => La.frozen j; obtain ⟨q70, q71, q72, q73, q74, q75, q76, q77, q78⟩ := zad (x := ⟨7, (a0 : Int), 0, 0, 0, nm, ⟨#[]⟩, [], p⟩) (v := .slice none 0 0) La.1; have H7 := jj h; have K7 := jj (K6.out.trans k); have L7 := jj La; clear h k La))
 go_ret
 exact ⟨rfl, H9.out, K9.out⟩
theorem zst {X : PS -> Ans} (HX : Reads B rb b 26 X) (p : Int) {af : Nat} {sf : PS} (h : St Av B rb b w s) (hr : s.is 1 zdw = true) {a0 a1 : Nat} {s0 s1 : PS} {nm : ByteArray} (hnm : (s.nx.txt 2).1 = nm) (h1 : X ((s.nx.txt 2).2.must 7 zbg) = some (a0, s0)) {y : Nd} (hy : s0.N[a0]? = some y) (hk : y.kind = 5) (h3 : X (s0.must 1 w_in) = some (a1, s1)) (h4 : s1.add { mk 8 p with nm := nm, a := a0, b := a1 } = some (af, sf)) : Calls Tryz.prog 51 #[.pointer (some ⟨rb, 0, none⟩), .int .i64 p] w (APost Av B rb b w af sf) := by
 have HNM := jj hnm
 have HR := jj (zcw hr)
 have hr2 : s.is 1 #[114, 101, 99].toList = true := hr
 have hlt := h.rlt
 have hBw := h.hB
 have H0 := jj (h.alloc (.cells #[.int .i64 7, .int .i64 0, .int .i64 0, .int .i64 0, .int .i64 0, .string ⟨#[]⟩, .string ⟨#[]⟩, .slice none 0 0, .int .i64 p] 37))
 have K0 := jj ((Kpt.refl rb b w).alloc h.rlt (.cells #[.int .i64 7, .int .i64 0, .int .i64 0, .int .i64 0, .int .i64 0, .string ⟨#[]⟩, .string ⟨#[]⟩, .slice none 0 0, .int .i64 p] 37))
 have L0 := jj (Loc.new h #[.int .i64 7, .int .i64 0, .int .i64 0, .int .i64 0, .int .i64 0, .string ⟨#[]⟩, .string ⟨#[]⟩, .slice none 0 0, .int .i64 p] 37)
 have HX1 : Hid (∀ W, St Av B rb b W ((s.nx.txt 2).2.must 7 zbg) -> Calls Tryz.prog 26 #[.pointer (some ⟨rb, 0, none⟩)] W (APost Av B rb b W a0 s0)) := jj fun W hW => HX W _ _ _ hW h1
 have HX2 : Hid (∀ W, St Av B rb b W (s0.must 1 w_in) -> Calls Tryz.prog 26 #[.pointer (some ⟨rb, 0, none⟩)] W (APost Av B rb b W a1 s1)) := jj fun W hW => HX W _ _ _ hW h3
 have HAD : Hid (∀ W, St Av B rb b W s1 -> Calls Tryz.prog 84 #[.pointer (some ⟨rb, 0, none⟩), .agg #[.int .i64 8, .int .i64 (a0 : Int), .int .i64 (a1 : Int), .int .i64 0, .int .i64 0, .string nm, .string ⟨#[]⟩, .slice none 0 0, .int .i64 p]] W (APost Av B rb b W af sf)) := jj fun W hW => zbp (y := ⟨8, (a0 : Int), (a1 : Int), 0, 0, nm, ⟨#[]⟩, [], p⟩) hW (zbq _ _) (zde _) h4
 have HND : Hid (∀ W, St Av B rb b W s0 -> ∃ g o c, W.cell? ⟨rb, 1, none⟩ = some (.slice (some ⟨g, o, none⟩) s0.N.length c) /\ W.cell? ⟨g, o + a0 * 9, none⟩ = some (.int .i64 y.kind)) := jj fun W hW => by obtain ⟨g, o, c, g1, g2, _⟩ := hW.nd hy; exact ⟨g, o, c, g1, g2⟩
 have hal : a0 < s0.N.length := (lge.1 hy).1
 obtain ⟨NL, hNL⟩ : ∃ NL, s0.N.length = NL := ⟨_, rfl⟩
 rw [hNL] at HND hal
 obtain ⟨yk, hyk⟩ : ∃ yk, y.kind = yk := ⟨_, rfl⟩
 rw [hyk] at HND hk
 subst hk
 have hkk : ((5 : Int) != 5) = false := rfl
 clear hyk
 clear hNL hy
 clear h h1 h3 h4 HX hnm hr
 go_enter Tryz.func51, Tryz.ntmps51
 go_wp2_with (first | (go_at_call 26; refine (HX1.out _ H4.out).mono ?_; rintro e w5 ⟨rfl, h, k⟩; have La := L4.out.kpt k; have hfz5 := fun j => La.frozen j; obtain ⟨q50, q51, q52, q53, q54, q55, q56, q57, q58⟩ := zad (x := ⟨8, 0, 0, 0, 0, nm, ⟨#[]⟩, [], p⟩) (v := .slice none 0 0) La.1; have H5 := jj (h.loc La (by decide) hBw (j := 1) (.int .i64 (a0 : Int))); have K5 := jj ((K4.out.trans k).set (k := w.heap.size) (j := 1) (.int .i64 (a0 : Int)) (lrf _) hlt); have L5 := jj (La.set (j := 1) (.int .i64 (a0 : Int))); clear h k La; obtain ⟨g, o, c, g1, g2⟩ := HND.out _ H5.out) | (go_at_call 46; refine (zbm H3.out HP3.out).mono ?_; rintro e w4 ⟨rfl, hb⟩; have h := H3.out.below hb; have k := Kpt.of_below (b := b) H3.out.rlt hb; have La := L3.out.kpt k; have hfz4 := fun j => La.frozen j; obtain ⟨q40, q41, q42, q43, q44, q45, q46, q47, q48⟩ := zad (x := ⟨8, 0, 0, 0, 0, nm, ⟨#[]⟩, [], p⟩) (v := .slice none 0 0) La.1; have H4 := jj h; have K4 := jj (K3.out.trans k); have L4 := jj La; clear h k La hb) | (go_at_call 83; refine (zbu H2.out 7 (l := zbg) (zab #[61]) (by decide) (by decide)).mono ?_; rintro e w3 ⟨rfl, h, k⟩; have La := L2.out.kpt k; have hfz3 := fun j => La.frozen j; obtain ⟨q30, q31, q32, q33, q34, q35, q36, q37, q38⟩ := zad (x := ⟨8, 0, 0, 0, 0, nm, ⟨#[]⟩, [], p⟩) (v := .slice none 0 0) La.1; have H3 := jj h; have K3 := jj (K2.out.trans k); have L3 := jj La; clear h k La; obtain ⟨p3, v3, hp3, _⟩ := H3.out.rb_; obtain ⟨c0, c1, c2, c3, c4⟩ := hp3.cells; have HP3 := jj hp3; clear hp3) | (go_at_call 82; refine (zb3 H1.out 2).mono ?_; rintro e w2 ⟨rfl, h, k⟩; rw [HNM.out]; have La := L1.out.kpt k; have hfz2 := fun j => La.frozen j; obtain ⟨q20, q21, q22, q23, q24, q25, q26, q27, q28⟩ := zad (x := ⟨8, 0, 0, 0, 0, ⟨#[]⟩, ⟨#[]⟩, [], p⟩) (v := .slice none 0 0) La.1; have H2 := jj (h.loc La (by decide) hBw (j := 5) (.string nm)); have K2 := jj ((K1.out.trans k).set (k := w.heap.size) (j := 5) (.string nm) (lrf _) hlt); have L2 := jj (La.set (j := 5) (.string nm)); clear h k La) | (go_at_call 49; refine (zax H0.out (zab #[114, 101, 99])).mono ?_; rintro e w1 ⟨rfl, h, k⟩; rw [show s.tk 1 #[114, 101, 99].toList = s.nx from HR.out] at h; have La := L0.out.kpt k; have hfz1 := fun j => La.frozen j; obtain ⟨q10, q11, q12, q13, q14, q15, q16, q17, q18⟩ := zad (x := ⟨7, 0, 0, 0, 0, ⟨#[]⟩, ⟨#[]⟩, [], p⟩) (v := .slice none 0 0) La.1; have H1 := jj (h.loc La (by decide) hBw (j := 0) (.int .i64 8)); have K1 := jj ((K0.out.trans k).set (k := w.heap.size) (j := 0) (.int .i64 8) (lrf _) hlt); have L1 := jj (La.set (j := 0) (.int .i64 8)); clear h k La))
 go_quiet (fail)
 have H6 := jj (H5.out.below (zav _ _ nq))
 have K6 := jj (K5.out.trans (Kpt.of_below (b := b) H5.out.rlt (zav _ _ nq)))
 have L6 := jj (L5.out.kpt (Kpt.of_below (b := b) H5.out.rlt (zav _ _ nq)))
 go_wp2_with (first | (go_at_call 84; refine (HAD.out _ H8.out).mono ?_; rintro e w9 ⟨rfl, h, k⟩; have H9 := jj h; have K9 := jj (K8.out.trans k); clear h k) | (go_at_call 26; refine (HX2.out _ H7.out).mono ?_; rintro e w8 ⟨rfl, h, k⟩; have La := L7.out.kpt k; have hfz8 := fun j => La.frozen j; obtain ⟨q80, q81, q82, q83, q84, q85, q86, q87, q88⟩ := zad (x := ⟨8, (a0 : Int), 0, 0, 0, nm, ⟨#[]⟩, [], p⟩) (v := .slice none 0 0) La.1; have H8 := jj (h.loc La (by decide) hBw (j := 2) (.int .i64 (a1 : Int))); have K8 := jj ((K7.out.trans k).set (k := w.heap.size) (j := 2) (.int .i64 (a1 : Int)) (lrf _) hlt); have L8 := jj (La.set (j := 2) (.int .i64 (a1 : Int))); clear h k La) | (go_at_call 83; refine (zbu H6.out 1 (l := w_in) (zab #[105, 110]) (by decide) (by decide)).mono ?_; rintro e w7 ⟨rfl, h, k⟩; have La := L6.out.kpt k; have hfz7 := fun j => La.frozen j; obtain ⟨q70, q71, q72, q73, q74, q75, q76, q77, q78⟩ := zad (x := ⟨8, (a0 : Int), 0, 0, 0, nm, ⟨#[]⟩, [], p⟩) (v := .slice none 0 0) La.1; have H7 := jj h; have K7 := jj (K6.out.trans k); have L7 := jj La; clear h k La))
 go_ret
 exact ⟨rfl, H9.out, K9.out⟩
theorem zq9 {X : PS -> Ans} (HX : Reads B rb b 26 X) (p : Int) {af : Nat} {sf : PS} (h : St Av B rb b w s) (hr : s.is 1 zdw = true) {a0 a1 : Nat} {s0 s1 : PS} {nm : ByteArray} (hnm : (s.nx.txt 2).1 = nm) (h1 : X ((s.nx.txt 2).2.must 7 zbg) = some (a0, s0)) {y : Nd} (hy : s0.N[a0]? = some y) (hk : y.kind ≠ 5) (h3 : X ((s0.no ((s.nx.txt 2).2.must 7 zbg).pk.p 5).must 1 w_in) = some (a1, s1)) (h4 : s1.add { mk 8 p with nm := nm, a := a0, b := a1 } = some (af, sf)) : Calls Tryz.prog 51 #[.pointer (some ⟨rb, 0, none⟩), .int .i64 p] w (APost Av B rb b w af sf) := by
 have HNM := jj hnm
 have HR := jj (zcw hr)
 have hr2 : s.is 1 #[114, 101, 99].toList = true := hr
 have hlt := h.rlt
 have hBw := h.hB
 have H0 := jj (h.alloc (.cells #[.int .i64 7, .int .i64 0, .int .i64 0, .int .i64 0, .int .i64 0, .string ⟨#[]⟩, .string ⟨#[]⟩, .slice none 0 0, .int .i64 p] 37))
 have K0 := jj ((Kpt.refl rb b w).alloc h.rlt (.cells #[.int .i64 7, .int .i64 0, .int .i64 0, .int .i64 0, .int .i64 0, .string ⟨#[]⟩, .string ⟨#[]⟩, .slice none 0 0, .int .i64 p] 37))
 have L0 := jj (Loc.new h #[.int .i64 7, .int .i64 0, .int .i64 0, .int .i64 0, .int .i64 0, .string ⟨#[]⟩, .string ⟨#[]⟩, .slice none 0 0, .int .i64 p] 37)
 have HX1 : Hid (∀ W, St Av B rb b W ((s.nx.txt 2).2.must 7 zbg) -> Calls Tryz.prog 26 #[.pointer (some ⟨rb, 0, none⟩)] W (APost Av B rb b W a0 s0)) := jj fun W hW => HX W _ _ _ hW h1
 have HX2 : Hid (∀ W, St Av B rb b W ((s0.no ((s.nx.txt 2).2.must 7 zbg).pk.p 5).must 1 w_in) -> Calls Tryz.prog 26 #[.pointer (some ⟨rb, 0, none⟩)] W (APost Av B rb b W a1 s1)) := jj fun W hW => HX W _ _ _ hW h3
 have HAD : Hid (∀ W, St Av B rb b W s1 -> Calls Tryz.prog 84 #[.pointer (some ⟨rb, 0, none⟩), .agg #[.int .i64 8, .int .i64 (a0 : Int), .int .i64 (a1 : Int), .int .i64 0, .int .i64 0, .string nm, .string ⟨#[]⟩, .slice none 0 0, .int .i64 p]] W (APost Av B rb b W af sf)) := jj fun W hW => zbp (y := ⟨8, (a0 : Int), (a1 : Int), 0, 0, nm, ⟨#[]⟩, [], p⟩) hW (zbq _ _) (zde _) h4
 have HND : Hid (∀ W, St Av B rb b W s0 -> ∃ g o c, W.cell? ⟨rb, 1, none⟩ = some (.slice (some ⟨g, o, none⟩) s0.N.length c) /\ W.cell? ⟨g, o + a0 * 9, none⟩ = some (.int .i64 y.kind)) := jj fun W hW => by obtain ⟨g, o, c, g1, g2, _⟩ := hW.nd hy; exact ⟨g, o, c, g1, g2⟩
 have hal : a0 < s0.N.length := (lge.1 hy).1
 obtain ⟨NL, hNL⟩ : ∃ NL, s0.N.length = NL := ⟨_, rfl⟩
 rw [hNL] at HND hal
 obtain ⟨yk, hyk⟩ : ∃ yk, y.kind = yk := ⟨_, rfl⟩
 rw [hyk] at HND hk
 have hkk : (yk != 5) = true := by simpa using hk
 clear hk hyk
 clear hNL hy
 clear h h1 h3 h4 HX hnm hr
 go_enter Tryz.func51, Tryz.ntmps51
 go_wp2_with (first | (go_at_call 26; refine (HX1.out _ H4.out).mono ?_; rintro e w5 ⟨rfl, h, k⟩; have La := L4.out.kpt k; have hfz5 := fun j => La.frozen j; obtain ⟨q50, q51, q52, q53, q54, q55, q56, q57, q58⟩ := zad (x := ⟨8, 0, 0, 0, 0, nm, ⟨#[]⟩, [], p⟩) (v := .slice none 0 0) La.1; have H5 := jj (h.loc La (by decide) hBw (j := 1) (.int .i64 (a0 : Int))); have K5 := jj ((K4.out.trans k).set (k := w.heap.size) (j := 1) (.int .i64 (a0 : Int)) (lrf _) hlt); have L5 := jj (La.set (j := 1) (.int .i64 (a0 : Int))); clear h k La; obtain ⟨g, o, c, g1, g2⟩ := HND.out _ H5.out) | (go_at_call 46; refine (zbm H3.out HP3.out).mono ?_; rintro e w4 ⟨rfl, hb⟩; have h := H3.out.below hb; have k := Kpt.of_below (b := b) H3.out.rlt hb; have La := L3.out.kpt k; have hfz4 := fun j => La.frozen j; obtain ⟨q40, q41, q42, q43, q44, q45, q46, q47, q48⟩ := zad (x := ⟨8, 0, 0, 0, 0, nm, ⟨#[]⟩, [], p⟩) (v := .slice none 0 0) La.1; have H4 := jj h; have K4 := jj (K3.out.trans k); have L4 := jj La; clear h k La hb) | (go_at_call 83; refine (zbu H2.out 7 (l := zbg) (zab #[61]) (by decide) (by decide)).mono ?_; rintro e w3 ⟨rfl, h, k⟩; have La := L2.out.kpt k; have hfz3 := fun j => La.frozen j; obtain ⟨q30, q31, q32, q33, q34, q35, q36, q37, q38⟩ := zad (x := ⟨8, 0, 0, 0, 0, nm, ⟨#[]⟩, [], p⟩) (v := .slice none 0 0) La.1; have H3 := jj h; have K3 := jj (K2.out.trans k); have L3 := jj La; clear h k La; obtain ⟨p3, v3, hp3, _⟩ := H3.out.rb_; obtain ⟨c0, c1, c2, c3, c4⟩ := hp3.cells; have HP3 := jj hp3; clear hp3) | (go_at_call 82; refine (zb3 H1.out 2).mono ?_; rintro e w2 ⟨rfl, h, k⟩; rw [HNM.out]; have La := L1.out.kpt k; have hfz2 := fun j => La.frozen j; obtain ⟨q20, q21, q22, q23, q24, q25, q26, q27, q28⟩ := zad (x := ⟨8, 0, 0, 0, 0, ⟨#[]⟩, ⟨#[]⟩, [], p⟩) (v := .slice none 0 0) La.1; have H2 := jj (h.loc La (by decide) hBw (j := 5) (.string nm)); have K2 := jj ((K1.out.trans k).set (k := w.heap.size) (j := 5) (.string nm) (lrf _) hlt); have L2 := jj (La.set (j := 5) (.string nm)); clear h k La) | (go_at_call 49; refine (zax H0.out (zab #[114, 101, 99])).mono ?_; rintro e w1 ⟨rfl, h, k⟩; rw [show s.tk 1 #[114, 101, 99].toList = s.nx from HR.out] at h; have La := L0.out.kpt k; have hfz1 := fun j => La.frozen j; obtain ⟨q10, q11, q12, q13, q14, q15, q16, q17, q18⟩ := zad (x := ⟨7, 0, 0, 0, 0, ⟨#[]⟩, ⟨#[]⟩, [], p⟩) (v := .slice none 0 0) La.1; have H1 := jj (h.loc La (by decide) hBw (j := 0) (.int .i64 8)); have K1 := jj ((K0.out.trans k).set (k := w.heap.size) (j := 0) (.int .i64 8) (lrf _) hlt); have L1 := jj (La.set (j := 0) (.int .i64 8)); clear h k La))
 go_quiet (fail)
 have H6 := jj (H5.out.below (zav _ _ nq))
 have K6 := jj (K5.out.trans (Kpt.of_below (b := b) H5.out.rlt (zav _ _ nq)))
 have L6 := jj (L5.out.kpt (Kpt.of_below (b := b) H5.out.rlt (zav _ _ nq)))
 go_wp2_with (first | (go_at_call 84; refine (HAD.out _ H9.out).mono ?_; rintro e w10 ⟨rfl, h, k⟩; have H10 := jj h; have K10 := jj (K9.out.trans k); clear h k) | (go_at_call 26; refine (HX2.out _ H8.out).mono ?_; rintro e w9 ⟨rfl, h, k⟩; have La := L8.out.kpt k; have hfz9 := fun j => La.frozen j; obtain ⟨q90, q91, q92, q93, q94, q95, q96, q97, q98⟩ := zad (x := ⟨8, (a0 : Int), 0, 0, 0, nm, ⟨#[]⟩, [], p⟩) (v := .slice none 0 0) La.1; have H9 := jj (h.loc La (by decide) hBw (j := 2) (.int .i64 (a1 : Int))); have K9 := jj ((K8.out.trans k).set (k := w.heap.size) (j := 2) (.int .i64 (a1 : Int)) (lrf _) hlt); have L9 := jj (La.set (j := 2) (.int .i64 (a1 : Int))); clear h k La) | (go_at_call 83; refine (zbu H7.out 1 (l := w_in) (zab #[105, 110]) (by decide) (by decide)).mono ?_; rintro e w8 ⟨rfl, h, k⟩; have La := L7.out.kpt k; have hfz8 := fun j => La.frozen j; obtain ⟨q80, q81, q82, q83, q84, q85, q86, q87, q88⟩ := zad (x := ⟨8, (a0 : Int), 0, 0, 0, nm, ⟨#[]⟩, [], p⟩) (v := .slice none 0 0) La.1; have H8 := jj h; have K8 := jj (K7.out.trans k); have L8 := jj La; clear h k La) | (go_at_call 47; refine (zbj H6.out _ 5).mono ?_; rintro e w7 ⟨rfl, h, k⟩; have La := L6.out.kpt k; have hfz7 := fun j => La.frozen j; obtain ⟨q70, q71, q72, q73, q74, q75, q76, q77, q78⟩ := zad (x := ⟨8, (a0 : Int), 0, 0, 0, nm, ⟨#[]⟩, [], p⟩) (v := .slice none 0 0) La.1; have H7 := jj h; have K7 := jj (K6.out.trans k); have L7 := jj La; clear h k La))
 go_ret
 exact ⟨rfl, H10.out, K10.out⟩
theorem zlr {X : PS -> Ans} (HX : Reads B rb b 26 X) (p : Int) {af : Nat} {sf : PS} (h : St Av B rb b w s) (ho : bindP X p s = some (af, sf)) : Calls Tryz.prog 51 #[.pointer (some ⟨rb, 0, none⟩), .int .i64 p] w (APost Av B rb b w af sf) := by
 unfold bindP at ho
 by_cases hr : s.is 1 zdw = true
 ·rw [if_pos hr] at ho
  unfold bindK at ho
  obtain ⟨a0, s0, h1, h2⟩ := bind_some ho
  rw [if_pos rfl] at h2
  simp only at h2
  cases hy : s0.N[a0]? with
  | none => rw [hy] at h2; cases h2
  | some y =>
   rw [hy] at h2
   simp only at h2
   obtain ⟨a1, s1, h3, h4⟩ := bind_some h2
   by_cases hk : y.kind = 5
   ·rw [if_pos hk] at h3
    exact zst HX p h hr rfl h1 hy hk h3 h4
   ·rw [if_neg hk] at h3
    exact zq9 HX p h hr rfl h1 hy hk h3 h4
 ·rw [if_neg hr] at ho
  unfold bindK at ho
  obtain ⟨a0, s0, h1, h2⟩ := bind_some ho
  rw [if_neg (by decide)] at h2
  obtain ⟨a1, s1, h3, h4⟩ := bind_some h2
  exact zr0 HX p h (beff.2 hr) rfl h1 h3 h4
end
open T Go.RowKit Go.Shelf
def Avv (Av : Nat -> Prop) (v : Value) : Nat -> Prop := fun g => Av g ∨ v.ownBlock = some g
section
variable {Av Av' : Nat -> Prop} {B rb b BK : Nat} {w w' W W8 : World} {s s' : PS} {v v2 : Value} {fs : List Fld}
theorem St.weaken (h : St Av B rb b w s) (hs : ∀ g, Av' g -> Av g) : St Av' B rb b w s := by
 obtain ⟨p, v, ps, h1, h2, h3, h4⟩ := h.at_
 exact ⟨fun g hg => h.av g (hs g hg), h.hrb, h.hb, h.hB, h.ne, p, v, ps, h1, h2, h3, h4.1, fun x hx g hg ha => h4.2 x hx g hg (hs g ha)⟩
theorem St.fresh (h : St Av B rb b w s) (o : Obj) : St (fun g => Av g ∨ g = w.heap.size) B rb b (w.alloc o) s := by
 have h1 := h.alloc o
 obtain ⟨p, v, ps, e1, e2, e3, e4⟩ := h1.at_
 obtain ⟨p', v', ps', e1', e2', e3', e4'⟩ := h.at_
 have h2 := h.below (baw w o)
 have hb : Below w.heap.size w (w.alloc o) := baw w o
 refine ⟨fun g hg => hg.elim (h1.av g) (fun e => by rw [e]; simp), h.hrb, h.hb, h1.hB, h.ne, p', v', ps', (hb.block rb h.rlt).trans e1', e2'.heap (hb.block b h.blt) (fun g hg _ _ => hb.block g (lltl hg h.hB)), e3', ⟨zbf e4'.1 (zb1 hb), fun x hx g hg ha => ?_⟩⟩
 rcases ha with ha | ha
 ·exact e4'.2 x hx g hg ha
 ·have := (World.ownsRow.lt (e4'.1.2 x hx) g hg).2
  omega
theorem St.set97 {k j : Nat} {cs : Array Value} {t : TypeId} (h : St Av B rb b w s) (hl : Loc rb b w k cs t) (ha : Av k) (hk : B <= k) (v : Value) : St Av B rb b (w.setCell ⟨k, j, none⟩ v) s := by
 have hb := h.hb
 refine h.heap (by simp) (zaf _ _ _ _ _ (Ne.symm hl.2.1)) (zaf _ _ _ _ _ (Ne.symm hl.2.2.1)) (fun g hg _ _ => zaf _ _ _ _ _ (by omega)) fun g cs' t' hg hg' ht' => zaf _ _ _ _ _ ?_
 rintro rfl
 rcases ht' with ⟨rfl, h0⟩ | h0
 ·exact h0 ha
 ·exact hl.2.2.2 h0
theorem St.grow (h : St (Avv Av v) B rb b W s) (hf : OwnF BK W v fs) (hBK : B <= BK) (hg : W.grownBy W8 v.ownBlock) (hv : v2.ownBlock = v.ownBlock ∨ ∃ g, v2.ownBlock = some g /\ W.heap.size <= g) (hv2 : ∀ g, v2.ownBlock = some g -> g < W8.heap.size) : St (Avv Av v2) B rb b W8 s := by
 have hrb := h.hrb
 have hbb := h.hb
 have hB := h.hB
 have hvl : ∀ g, v.ownBlock = some g -> BK <= g /\ g < W.heap.size := fun g e => hf.lt g e
 have hbl : ∀ k, k < W.heap.size -> v.ownBlock ≠ some k -> W8.heap[k]? = W.heap[k]? := fun k hk hne => hg.block k hk (fun e => hne e.symm)
 have hnb : ∀ g, nbk W rb = some g -> v.ownBlock ≠ some g := fun g e hh => by
  obtain ⟨_, cur, hc⟩ := h.nbB g e
  rcases hf.2 with ⟨e0, _⟩ | ⟨g', cap, cur', e1, _, e3, _⟩
  ·rw [e0] at hh; cases hh
  ·rw [e1] at hh; cases hh
   rw [hc] at e3
   injection e3 with e
   injection e with _ e _
   exact absurd e (by decide)
 have h1 : St (Avv Av v) B rb b W8 s := by
  refine h.heap hg.size (hbl rb (by omega) fun e => by have := (hvl _ e).1; omega) (hbl b (by omega) fun e => by have := (hvl _ e).1; omega) (fun g hg1 _ _ => hbl g (by omega) fun e => by have := (hvl _ e).1; omega) fun g cs t hg1 hg2 ht => hbl g (age.1 hg2).1 fun e => ?_
  rcases ht with ⟨_, ht⟩ | ht
  ·exact ht (.inr e)
  ·exact hnb g ht e
 obtain ⟨p0, v0, ps0, a1, a2, a3, a4⟩ := h.at_
 obtain ⟨p, u, ps, e1, e2, e3, e4⟩ := h1.at_
 have h2 := h.weaken (Av' := Av) fun g hg => .inl hg
 have h8 : St Av B rb b W8 s := h1.weaken fun g hg => .inl hg
 refine ⟨fun g hg => hg.elim (h8.av g) (hv2 g), h1.hrb, h1.hb, h1.hB, h1.ne, p0, v0, ps0, (hbl rb (by omega) fun e => by have := (hvl _ e).1; omega).trans a1, a2.heap (hbl b (by omega) fun e => by have := (hvl _ e).1; omega) (fun g hg1 _ _ => hbl g (by omega) fun e => by have := (hvl _ e).1; omega), a3, ⟨⟨a4.1.1.kept hg (zef a4.1.1 hf (by decide)), fun x hx => ?_⟩, fun x hx g hgx ha => ?_⟩⟩
 ·have hne : x.2.ownBlock = none ∨ x.2.ownBlock ≠ v.ownBlock := by
   cases hx2 : x.2.ownBlock with
   | none => exact .inl rfl
   | some g => exact .inr fun e => a4.2 x hx g hx2 (.inr e.symm)
  exact (a4.1.2 x hx).kept hg hne
 ·rcases ha with ha | ha
  ·exact a4.2 x hx g hgx (.inl ha)
  ·rcases hv with e | ⟨g', e, hg'⟩
   ·exact a4.2 x hx g hgx (.inr (e ▸ ha))
   ·rw [ha] at e
    cases e
    have := (World.ownsRow.lt (a4.1.2 x hx) g hgx).2
    omega
theorem Kpt.grow {w0 : World} (h : Kpt rb b w0 W) (hs : St Av B rb b W s) (hf : OwnF BK W v fs) (hB : B <= BK) (hBK : w0.heap.size <= BK) (hg : W.grownBy W8 v.ownBlock) : Kpt rb b w0 W8 := by
 have hrb := hs.hrb
 have hB2 := hs.hB
 have hvl : ∀ g, v.ownBlock = some g -> BK <= g := fun g e => (hf.lt g e).1
 have hbl : ∀ k, k < W.heap.size -> v.ownBlock ≠ some k -> W8.heap[k]? = W.heap[k]? := fun k hk hne => hg.block k hk (fun e => hne e.symm)
 refine ⟨⟨hg.os.trans h.fr.os, hg.tape.trans h.fr.tape, hg.output.trans h.fr.output, ltr h.fr.size hg.size, fun k hk hh => (hbl k (lltl hk h.fr.size) fun e => by have := hvl _ e; omega).trans (h.fr.block k hk hh)⟩, ?_⟩
 rw [zc4 (hbl rb (by omega) fun e => by have := hvl _ e; omega)]
 exact h.nb
theorem Loc.grow {k : Nat} {cs : Array Value} {t : TypeId} (h : Loc rb b W k cs t) (ht : t ≠ 97) (hs : St Av B rb b W s) (hf : OwnF BK W v fs) (hB : B <= BK) (hg : W.grownBy W8 v.ownBlock) : Loc rb b W8 k cs t := by
 have hrb := hs.hrb
 have hB2 := hs.hB
 have hvl : ∀ g, v.ownBlock = some g -> BK <= g := fun g e => (hf.lt g e).1
 have hbl : ∀ k, k < W.heap.size -> v.ownBlock ≠ some k -> W8.heap[k]? = W.heap[k]? := fun k hk hne => hg.block k hk (fun e => hne e.symm)
 refine ⟨(hbl k h.lt fun e => ?_).trans h.1, h.2.1, h.2.2.1, by rw [zc4 (hbl rb (by omega) fun e => by have := hvl _ e; omega)]; exact h.2.2.2⟩
 rcases hf.2 with ⟨e0, _⟩ | ⟨g', cap, cur', e1, _, e3, _⟩
 ·rw [e0] at e; cases e
 ·rw [e1] at e; cases e
  have h1 := h.1
  rw [e3] at h1
  injection h1 with e
  injection e with _ e _
  exact ht e.symm
theorem zew (hf : OwnF BK w v fs) (hB : B <= BK) (h : St Av B rb b w s) (hk : Kpt rb b w w') : OwnF BK w' v fs := by
 have hrb := h.hrb
 have hbB := h.hb
 refine ⟨hf.1, ?_⟩
 rcases hf.2 with h0 | ⟨g, cap, cur, e1, e2, e3, e4⟩
 ·exact .inl h0
 ·refine .inr ⟨g, cap, cur, e1, e2, (hk.fr.block g (age.1 e3).1 fun hh => ?_).trans e3, e4⟩
  rcases hh with hh | hh | hh
  ·omega
  ·omega
  ·obtain ⟨_, cur', hc⟩ := h.nbB g hh
   rw [hc] at e3
   injection e3 with e
   injection e with _ e _
   exact absurd e (by decide)
end
open T Go.RowKit Go.Shelf
theorem fldInfo : (Tryz.prog.info? 97).map (fun i => (i.zero, i.size, i.bytes)) = some (some (.agg #[.string ⟨#[]⟩, .string ⟨#[]⟩, .int .i64 0]), 3, 40) := by kernel_rfl
theorem zah {P : Program} (w : World) {ops : Array Oper} {rest : List Oper} {o : Oper} {a : Act} {Q : Exit -> Act -> World -> Prop} (hgd : o.guard = none) (s x : Operand) (t : TypeId)
  (ho : o.op = .call { callee := .builtin .append, args := #[s, x], argTypes := #[t, t] })
  (base : Nat) (e : TypeId) (i : TypeInfo) (z : Value) (size bytes : Nat) (ht : P.underlying t = some (.slice e)) (hi : P.info? e = some i) (hz : i.zero = some z)
  (hsize : i.size = size) (hby : i.bytes = bytes) (hzs : z.cells.size = size) (hsz : 0 < size)
  (v : Value) (n : Nat) (xs : List Value) (hs : a.eval s = v) (hown : w.ownsRow base e size v n xs)
  (ad : Addr) (m c : Nat) (news : List Value) (hx : a.eval x = .slice (some ad) m c) (hl : news.length = m * size) (hnews : ∀ j u, news[j]? = some u -> w.cell? (ad.add j) = some u) (h1 : ∀ u ∈ news, u.oneCell' = true)
  (h63 : n + m <= maxLen) (hbytes : (n + m) * bytes <= 140737488355328) (hbase : base <= w.heap.size)
  (h : ∀ v' w', w'.ownsRow base e size v' (n + m) (xs ++ news) -> w.grownBy w' v.ownBlock -> (v'.ownBlock = v.ownBlock ∨ ∃ g, v'.ownBlock = some g /\ w.heap.size <= g) -> wpList P ops Q rest (a.put o.dst v') w') : wpList P ops Q (o :: rest) a w :=
 wpList_plain hgd fun _ hK => zcu w s x t ho base e i z size bytes ht hi hz hsize hby hzs hsz v n xs hs hown ad m c news hx hl hnews h1 h63 hbytes hbase fun v' w' h2 h3 h4 => hK _ _ (h v' w' h2 h3 h4)
structure RecAt (Av : Nat -> Prop) (B rb b : Nat) (w W : World) (x : PS) (kd a0 p : Int) (v : Value) (fs : List Fld) : Prop where
 st : St (Avv Av v) B rb b W x
 kp : Kpt rb b w W
 ln : Loc rb b W w.heap.size #[.int .i64 kd, .int .i64 a0, .int .i64 0, .int .i64 0, .int .i64 0, .string ⟨#[]⟩, .string ⟨#[]⟩, v, .int .i64 p] 37
 of : OwnF (w.heap.size + 1) W v fs
 hB : B <= w.heap.size
 hr : rb < w.heap.size
structure RecF (Av : Nat -> Prop) (B rb b : Nat) (w W : World) (x : PS) (kd a0 p : Int) (v : Value) (fs : List Fld) (kF : Nat) (f : Fld) : Prop where
 st : St (fun g => Avv Av v g ∨ g = kF) B rb b W x
 kp : Kpt rb b w W
 ln : Loc rb b W w.heap.size #[.int .i64 kd, .int .i64 a0, .int .i64 0, .int .i64 0, .int .i64 0, .string ⟨#[]⟩, .string ⟨#[]⟩, v, .int .i64 p] 37
 of : OwnF (w.heap.size + 1) W v fs
 lf : Loc rb b W kF #[.string f.nm, .string f.vr, .int .i64 f.pl] 97
 hk : w.heap.size + 1 <= kF
 ne : v.ownBlock ≠ some kF
 hB : B <= w.heap.size
 hr : rb < w.heap.size
section
variable {Av : Nat -> Prop} {B rb b : Nat} {w W W' W8 : World} {x x' : PS} {kd a0 p : Int} {v v2 : Value} {fs : List Fld} {kF : Nat} {f : Fld}
theorem RecAt.next (h : RecAt Av B rb b w W x kd a0 p v fs) (hs : St (Avv Av v) B rb b W' x') (hk : Kpt rb b W W') : RecAt Av B rb b w W' x' kd a0 p v fs :=
 ⟨hs, h.kp.trans hk, h.ln.kpt hk, zew h.of (Nat.le_succ_of_le h.hB) h.st hk, h.hB, h.hr⟩
theorem RecF.next (h : RecF Av B rb b w W x kd a0 p v fs kF f) (hs : St (fun g => Avv Av v g ∨ g = kF) B rb b W' x') (hk : Kpt rb b W W') : RecF Av B rb b w W' x' kd a0 p v fs kF f :=
 ⟨hs, h.kp.trans hk, h.ln.kpt hk, zew h.of (Nat.le_succ_of_le h.hB) h.st hk, h.lf.kpt hk, h.hk, h.ne, h.hB, h.hr⟩
theorem RecAt.start (h : St Av B rb b w x) (kd a0 p : Int) : RecAt Av B rb b w (w.alloc (.cells #[.int .i64 kd, .int .i64 a0, .int .i64 0, .int .i64 0, .int .i64 0, .string ⟨#[]⟩, .string ⟨#[]⟩, .slice none 0 0, .int .i64 p] 37)) x kd a0 p (.slice none 0 0) [] :=
 ⟨(h.alloc _).weaken (fun g hg => hg.elim id (fun e => (by cases e))), (Kpt.refl rb b w).alloc h.rlt _, Loc.new h _ _, World.ownsRow_nil _ _ _ _, h.hB, h.rlt⟩
theorem RecAt.fld (h : RecAt Av B rb b w W x kd a0 p v fs) (f : Fld) : RecF Av B rb b w (W.alloc (.cells #[.string f.nm, .string f.vr, .int .i64 f.pl] 97)) x kd a0 p v fs W.heap.size f := by
 have hk := (Kpt.refl rb b W).alloc h.st.rlt (.cells #[.string f.nm, .string f.vr, .int .i64 f.pl] 97)
 have hn := h.ln.lt
 exact ⟨h.st.fresh _, h.kp.trans hk, h.ln.kpt hk, zew h.of (Nat.le_succ_of_le h.hB) h.st hk, Loc.new h.st _ _, hn, fun e => by have := (h.of.lt _ e).2; omega, h.hB, h.hr⟩
theorem zh6 {BK k j : Nat} (hf : OwnF BK W v fs) (hne : v.ownBlock ≠ some k) (u : Value) : OwnF BK (W.setCell ⟨k, j, none⟩ u) v fs := by
 refine ⟨hf.1, ?_⟩
 rcases hf.2 with h0 | ⟨g, cap, cur, e1, e2, e3, e4⟩
 ·exact .inl h0
 ·exact .inr ⟨g, cap, cur, e1, e2, (zaf _ _ _ _ _ (fun e => hne (by rw [e1, e]; rfl))).trans e3, e4⟩
theorem RecF.put (h : RecF Av B rb b w W x kd a0 p v fs kF f) (j : Nat) (u : Value) {f2 : Fld} (e : (#[.string f.nm, .string f.vr, .int .i64 f.pl] : Array Value).setIfInBounds j u = #[.string f2.nm, .string f2.vr, .int .i64 f2.pl]) : RecF Av B rb b w (W.setCell ⟨kF, j, none⟩ u) x kd a0 p v fs kF f2 := by
 have hkk := h.hk
 have hB := h.hB
 exact ⟨h.st.set97 h.lf (.inr rfl) (by omega) u, h.kp.set u (by omega) h.hr, h.ln.far u (by omega) h.lf.2.1, zh6 h.of h.ne u, e ▸ h.lf.set u, h.hk, h.ne, h.hB, h.hr⟩
theorem RecF.push (h : RecF Av B rb b w W x kd a0 p v fs kF f) {o : Obj} (h7 : W8.ownsRow (w.heap.size + 1) 97 3 v2 (fs.length + 1) (fCells fs ++ [.string f.nm, .string f.vr, .int .i64 f.pl])) (hg : (W.alloc o).grownBy W8 v.ownBlock) (hv : v2.ownBlock = v.ownBlock ∨ ∃ g, v2.ownBlock = some g /\ (W.alloc o).heap.size <= g) :
  Loc rb b W8 w.heap.size #[.int .i64 kd, .int .i64 a0, .int .i64 0, .int .i64 0, .int .i64 0, .string ⟨#[]⟩, .string ⟨#[]⟩, v, .int .i64 p] 37 /\ RecAt Av B rb b w (W8.setCell ⟨w.heap.size, 7, none⟩ v2) x kd a0 p v2 (fs ++ [f]) := by
 have hBK : B <= w.heap.size + 1 := Nat.le_succ_of_le h.hB
 have hs : St (Avv Av v) B rb b (W.alloc o) x := (h.st.weaken fun g hg => .inl hg).alloc o
 have hk := (Kpt.refl rb b W).alloc h.st.rlt o
 have hf := zew h.of hBK h.st hk
 have hl2 : ∀ g, v2.ownBlock = some g -> w.heap.size + 1 <= g /\ g < W8.heap.size := fun g e => h7.lt g e
 have h8 := hs.grow hf hBK hg hv fun g e => (hl2 g e).2
 have k8 := (h.kp.trans hk).grow hs hf hBK (Nat.le_succ _) hg
 have l8 := (h.ln.kpt hk).grow (by decide) hs hf hBK hg
 have hf8 : OwnF (w.heap.size + 1) W8 v2 (fs ++ [f]) := by
  unfold OwnF
  rw [List.length_append]
  have : fCells (fs ++ [f]) = fCells fs ++ [.string f.nm, .string f.vr, .int .i64 f.pl] := by simp [fCells]
  rw [this]
  exact h7
 have hr := h.hr
 refine ⟨l8, h8.loc l8 (by decide) h.hB v2, k8.set v2 (lrf _) hr, l8.set v2, zh6 hf8 (fun e => by have := (hl2 _ e).1; omega) v2, h.hB, h.hr⟩
end
open T Go.RowKit Go.Shelf
attribute [local go_sem] zat zau zas
section
variable {Av : Nat -> Prop} {B rb b : Nat} {w w' W : World} {s s' x : PS} {v : Value} {fs : List Fld} {kd a0 p : Int} {kF : Nat} {f : Fld}
theorem RecAt.facts (h : RecAt Av B rb b w W x kd a0 p v fs) : W.cell? ⟨w.heap.size, 0, none⟩ = some (.int .i64 kd) /\ W.cell? ⟨w.heap.size, 1, none⟩ = some (.int .i64 a0) /\ W.cell? ⟨w.heap.size, 2, none⟩ = some (.int .i64 0) /\ W.cell? ⟨w.heap.size, 3, none⟩ = some (.int .i64 0) /\ W.cell? ⟨w.heap.size, 4, none⟩ = some (.int .i64 0) /\ W.cell? ⟨w.heap.size, 5, none⟩ = some (.string ⟨#[]⟩) /\ W.cell? ⟨w.heap.size, 6, none⟩ = some (.string ⟨#[]⟩) /\ W.cell? ⟨w.heap.size, 7, none⟩ = some v /\ W.cell? ⟨w.heap.size, 8, none⟩ = some (.int .i64 p) :=
 ⟨h.ln.cell 0, h.ln.cell 1, h.ln.cell 2, h.ln.cell 3, h.ln.cell 4, h.ln.cell 5, h.ln.cell 6, h.ln.cell 7, h.ln.cell 8⟩
theorem RecF.facts (h : RecF Av B rb b w W x kd a0 p v fs kF f) : W.cell? ⟨w.heap.size, 7, none⟩ = some v /\ W.cell? ⟨kF, 0, none⟩ = some (.string f.nm) /\ W.cell? ⟨kF, 1, none⟩ = some (.string f.vr) /\ W.cell? ⟨kF, 2, none⟩ = some (.int .i64 f.pl) /\ (∀ j, W.frozen? ⟨kF, j, none⟩ = false) :=
 ⟨h.ln.cell 7, h.lf.cell 0, h.lf.cell 1, h.lf.cell 2, fun j => h.lf.frozen j⟩
theorem RecAt.add (h : RecAt Av B rb b w W x kd a0 p v fs) : St Av B rb b W x := h.st.weaken fun _g hg => .inl hg
theorem RecAt.own (h : RecAt Av B rb b w W x kd a0 p v fs) : OwnF B W v fs := zbi h.of (Nat.le_succ_of_le h.hB)
theorem RecAt.free (h : RecAt Av B rb b w W x kd a0 p v fs) (ha : ∀ g, Av g -> g < w.heap.size) : ∀ g, v.ownBlock = some g -> ¬ Av g := fun g hg hh => by have := (h.of.lt g hg).1; have := ha g hh; omega
theorem one3 (x y : ByteArray) (n : Int) : ∀ u ∈ [Value.string x, .string y, .int .i64 n], u.oneCell' = true := fun u hu => by
 simp only [List.mem_cons, List.mem_nil_iff, or_false] at hu
 rcases hu with rfl | rfl | rfl <;> rfl
theorem zhd {X : PS -> Ans} (_HX : Reads B rb b 26 X) (p : Int) {af : Nat} {sf : PS} (h : St Av B rb b w s) (hr : s.is 7 zbl = true) (ho : s.nx.add (mk 11 p) = some (af, sf)) : Calls Tryz.prog 205 #[.pointer (some ⟨rb, 0, none⟩), .int .i64 p] w (APost Av B rb b w af sf) := by
 have HR := jj (zcw hr)
 have hr2 : s.is 7 #[125].toList = true := hr
 have HAV := jj h.av
 have H0 := jj (RecAt.start h 11 0 p)
 have HAD : Hid (∀ W, St Av B rb b W s.nx -> Calls Tryz.prog 84 #[.pointer (some ⟨rb, 0, none⟩), .agg #[.int .i64 11, .int .i64 0, .int .i64 0, .int .i64 0, .int .i64 0, .string ⟨#[]⟩, .string ⟨#[]⟩, .slice none 0 0, .int .i64 p]] W (APost Av B rb b W af sf)) := jj fun W hW => zbp (y := ⟨11, 0, 0, 0, 0, ⟨#[]⟩, ⟨#[]⟩, [], p⟩) hW (zbq _ _) (zde _) ho
 clear h hr ho
 go_enter Tryz.func205, Tryz.ntmps205
 go_wp2_with (first | (go_at_call 84; refine (HAD.out _ HE.out.add).mono ?_; rintro e w5 ⟨rfl, h5, k5⟩; have H5 := jj h5; have K5 := jj (HE.out.kp.trans k5); clear h5 k5) | (go_at_call 200; refine (zb4 H0.out.st (zab #[125])).mono ?_; rintro e w4 ⟨rfl, h4, k4⟩; rw [show s.tk 7 #[125].toList = s.nx from HR.out] at h4; have HEa := H0.out.next h4 k4; obtain ⟨q0, q1, q2, q3, q4, q5, q6, q7, q8⟩ := HEa.facts; have HE := jj HEa; clear h4 k4 HEa))
 go_ret
 exact ⟨rfl, H5.out, K5.out⟩
theorem zib {X : PS -> Ans} (HX0 : Reads B rb b 26 X) (p : Int) {af : Nat} {sf : PS} (h : St Av B rb b w s) (hr : s.is 7 zbl = false) (ho : recL X p (s.l.length + 2) [] s = some (af, sf)) : Calls Tryz.prog 205 #[.pointer (some ⟨rb, 0, none⟩), .int .i64 p] w (APost Av B rb b w af sf) := by
 obtain ⟨j0, hj0, hy0, hy1, hy2⟩ := info_parts fldInfo
 have HX := jj HX0
 have HR := jj (zb8 hr)
 have hr2 : s.is 7 #[125].toList = false := hr
 have HAV := jj h.av
 have H0 := jj (RecAt.start h 11 0 p)
 have HL := jj ho
 clear h hr ho HX0
 go_enter Tryz.func205, Tryz.ntmps205
 go_wp2_with (go_at_call 200; refine (zb4 H0.out.st (zab #[125])).mono ?_; rintro e w4 ⟨rfl, h4, k4⟩; rw [show s.tk 7 #[125].toList = s from HR.out] at h4; have HE0 := jj (H0.out.next h4 k4); clear h4 k4)
 clear hr2
 go_loopg [6] (s.l.length + 2) (fun n s6 wr => ∃ (more : Bool) (fs : List Fld) (x : PS) (FA : Option Addr) (m fc : Nat), s6 = .bool more /\ Hid (fs.length = m) /\ Hid (RecAt Av B rb b w wr x 11 0 p (.slice FA m fc) fs) /\ Hid (if more = true then recL X p n fs x = some (af, sf) else (x.must 7 zbl).add { mk 11 p with l := fs } = some (af, sf)))
 case atStart => exact ⟨true, [], s, none, 0, 0, rfl, jj rfl, HE0, jj (by rw [if_pos rfl]; exact HL.out)⟩
 case round =>
  obtain ⟨more, fs, x, FA, m, fc, rfl, HM, HS, HPP⟩ := hrel
  have hzr := HS.out.kp.fr.size
  cases more with
  | true =>
   have hp := HPP.out
   rw [if_pos rfl] at hp
   cases gk with
   | zero => simp [recL] at hp
   | succ k =>
    rw [recL] at hp
    by_cases hlen : fs.length < 1000
    case neg => rw [if_neg hlen] at hp; cases hp
    rw [if_pos hlen] at hp
    have hm : m < 1000 := by have := HM.out; omega
    obtain ⟨a1, s1, e1, e2⟩ := bind_some hp
    obtain ⟨nm, hnm⟩ : ∃ nm, (x.lab 2 fs).1 = nm := ⟨_, rfl⟩
    have HNM := jj hnm
    rw [hnm] at e2
    have HX1 : Hid (∀ {Av : Nat -> Prop} W, St Av B rb b W ((x.lab 2 fs).2.must 7 zbg) -> Calls Tryz.prog 26 #[.pointer (some ⟨rb, 0, none⟩)] W (APost Av B rb b W a1 s1)) := jj fun W hW => HX.out W _ _ _ hW e1
    obtain ⟨q0, q1, q2, q3, q4, q5, q6, q7, q8⟩ := HS.out.facts
    have HLB := jj (zi2 HS.out.st 2 fs FA m fc HM.out (by omega) HS.out.own)
    rw [hnm] at HLB
    have HE2 := jj e2
    clear hp hlen e1 e2 hnm
    by_cases hc : s1.is 7 zb6 = true
    ·have HC := jj (zcw hc)
     have hc2 : s1.is 7 zb6 = true := hc
     have hE := HE2.out
     simp only at hE
     rw [if_pos hc] at hE
     have HE3 := jj hE
     clear hE hc
     go_wp2_with (first | (go_at_call 200; refine (zb4 (l := zb6) HD.out.st (zab #[44])).mono ?_; rintro e w9 ⟨rfl, h9, k9⟩; have HE := jj (HD.out.next h9 k9); clear h9 k9) | (at_builtin; refine zah _ rfl _ _ 35 rfl (w.heap.size + 1) 97 j0 (.agg #[.string ⟨#[]⟩, .string ⟨#[]⟩, .int .i64 0]) 3 40 Tryz.underlying35 hj0 hy0 hy1 hy2 rfl (by decide) _ m _ rfl (HOW.out _) ⟨w3.heap.size, 0, none⟩ 1 1 [.string nm, .string ⟨#[]⟩, .int .i64 (a1 : Int)] rfl rfl (fun j u hj => zaj (w3.setCell ⟨w1.heap.size, 2, none⟩ (.int .i64 (a1 : Int))) 97 [.string nm, .string ⟨#[]⟩, .int .i64 (a1 : Int)] w3.heap.size (by simp) j u hj) (one3 _ _ _) (by unfold maxLen; omega) (by omega) (by simp; omega) ?_; intro v8 w8 hown8 hgrow8 hpl8; obtain ⟨g8, c8, rfl⟩ := ownsRow_succ hown8; have HD0 := HF3.out.push (by rw [HM.out]; exact hown8) hgrow8 hpl8; have d7 := HD0.1.cell 7; have fz7 := HD0.1.frozen 7; have HD := jj HD0.2; clear hown8 hgrow8 hpl8 HD0) | (go_at_call 26; refine (HX1.out _ HF2.out.st).mono ?_; rintro e w3 ⟨rfl, h3, k3⟩; have hz3 := k3.fr.size; have HFa := HF2.out.next h3 k3; obtain ⟨g7, y0, y1, y2, fz⟩ := HFa.facts; have HF3a := HFa.put 2 (.int .i64 (a1 : Int)) (f2 := ⟨nm, ⟨#[]⟩, (a1 : Int)⟩) rfl; have HF3 := jj HF3a; have hz4 : w.heap.size + 1 <= w1.heap.size := HFa.hk; have hz5 : w.heap.size <= w3.heap.size := HFa.kp.fr.size; have HOW : Hid (∀ o, World.ownsRow ((w3.setCell ⟨w1.heap.size, 2, none⟩ (.int .i64 (a1 : Int))).alloc o) (w.heap.size + 1) 97 3 (.slice FA m fc) m (fCells fs)) := jj (fun o => by have := World.ownsRow.alloc HF3a.of o; rwa [HM.out] at this); clear h3 k3 HFa HF3a) | (go_at_call 83; refine (zbu HF1.out.st 7 (l := zbg) (zab #[61]) (by decide) (by decide)).mono ?_; rintro e w2 ⟨rfl, h2, k2⟩; have HF2 := jj (HF1.out.next h2 k2); clear h2 k2) | (go_at_call 211; refine HLB.out.mono ?_; rintro e w1 ⟨rfl, h1, k1⟩; have HS1 := HS.out.next h1 k1; have HF1 := jj (HS1.fld ⟨nm, ⟨#[]⟩, 0⟩); clear h1 k1 HS1))
     rw [HC.out] at HE
     go_roundg k
     case measure => omega
     case rel => exact ⟨true, fs ++ [⟨nm, ⟨#[]⟩, (a1 : Int)⟩], s1.nx, some ⟨g8, 0, none⟩, m + 1, c8, rfl, jj (by rw [List.length_append, HM.out]; rfl), HE, jj (by rw [if_pos rfl]; exact HE3.out)⟩
    ·have HC := jj (zb8 (beff.2 hc))
     have hc2 : s1.is 7 zb6 = false := beff.2 hc
     have hE := HE2.out
     simp only at hE
     rw [if_neg hc] at hE
     have HE3 := jj hE
     clear hE hc
     go_wp2_with (first | (go_at_call 200; refine (zb4 (l := zb6) HD.out.st (zab #[44])).mono ?_; rintro e w9 ⟨rfl, h9, k9⟩; have HE := jj (HD.out.next h9 k9); clear h9 k9) | (at_builtin; refine zah _ rfl _ _ 35 rfl (w.heap.size + 1) 97 j0 (.agg #[.string ⟨#[]⟩, .string ⟨#[]⟩, .int .i64 0]) 3 40 Tryz.underlying35 hj0 hy0 hy1 hy2 rfl (by decide) _ m _ rfl (HOW.out _) ⟨w3.heap.size, 0, none⟩ 1 1 [.string nm, .string ⟨#[]⟩, .int .i64 (a1 : Int)] rfl rfl (fun j u hj => zaj (w3.setCell ⟨w1.heap.size, 2, none⟩ (.int .i64 (a1 : Int))) 97 [.string nm, .string ⟨#[]⟩, .int .i64 (a1 : Int)] w3.heap.size (by simp) j u hj) (one3 _ _ _) (by unfold maxLen; omega) (by omega) (by simp; omega) ?_; intro v8 w8 hown8 hgrow8 hpl8; obtain ⟨g8, c8, rfl⟩ := ownsRow_succ hown8; have HD0 := HF3.out.push (by rw [HM.out]; exact hown8) hgrow8 hpl8; have d7 := HD0.1.cell 7; have fz7 := HD0.1.frozen 7; have HD := jj HD0.2; clear hown8 hgrow8 hpl8 HD0) | (go_at_call 26; refine (HX1.out _ HF2.out.st).mono ?_; rintro e w3 ⟨rfl, h3, k3⟩; have hz3 := k3.fr.size; have HFa := HF2.out.next h3 k3; obtain ⟨g7, y0, y1, y2, fz⟩ := HFa.facts; have HF3a := HFa.put 2 (.int .i64 (a1 : Int)) (f2 := ⟨nm, ⟨#[]⟩, (a1 : Int)⟩) rfl; have HF3 := jj HF3a; have hz4 : w.heap.size + 1 <= w1.heap.size := HFa.hk; have hz5 : w.heap.size <= w3.heap.size := HFa.kp.fr.size; have HOW : Hid (∀ o, World.ownsRow ((w3.setCell ⟨w1.heap.size, 2, none⟩ (.int .i64 (a1 : Int))).alloc o) (w.heap.size + 1) 97 3 (.slice FA m fc) m (fCells fs)) := jj (fun o => by have := World.ownsRow.alloc HF3a.of o; rwa [HM.out] at this); clear h3 k3 HFa HF3a) | (go_at_call 83; refine (zbu HF1.out.st 7 (l := zbg) (zab #[61]) (by decide) (by decide)).mono ?_; rintro e w2 ⟨rfl, h2, k2⟩; have HF2 := jj (HF1.out.next h2 k2); clear h2 k2) | (go_at_call 211; refine HLB.out.mono ?_; rintro e w1 ⟨rfl, h1, k1⟩; have HS1 := HS.out.next h1 k1; have HF1 := jj (HS1.fld ⟨nm, ⟨#[]⟩, 0⟩); clear h1 k1 HS1))
     rw [HC.out] at HE
     go_roundg k
     case measure => omega
     case rel => exact ⟨false, fs ++ [⟨nm, ⟨#[]⟩, (a1 : Int)⟩], s1, some ⟨g8, 0, none⟩, m + 1, c8, rfl, jj (by rw [List.length_append, HM.out]; rfl), HE, jj (by rw [if_neg (by decide)]; exact HE3.out)⟩
  | false =>
   have hp := HPP.out
   rw [if_neg (by decide)] at hp
   have HAD : Hid (∀ W, St Av B rb b W (x.must 7 zbl) -> OwnF B W (.slice FA m fc) fs -> Calls Tryz.prog 84 #[.pointer (some ⟨rb, 0, none⟩), .agg #[.int .i64 11, .int .i64 0, .int .i64 0, .int .i64 0, .int .i64 0, .string ⟨#[]⟩, .string ⟨#[]⟩, .slice FA m fc, .int .i64 p]] W (APost Av B rb b W af sf)) := jj fun W hW hf =>
    zbp (y := ⟨11, 0, 0, 0, 0, ⟨#[]⟩, ⟨#[]⟩, fs, p⟩) hW hf (HS.out.free HAV.out) hp
   clear hp
   go_wp2_with (first | (go_at_call 84; refine (HAD.out _ HE.out.add HE.out.own).mono ?_; rintro e w5 ⟨rfl, h5, k5⟩; have H5 := jj h5; have K5 := jj (HE.out.kp.trans k5); clear h5 k5) | (go_at_call 83; refine (zbu HS.out.st 7 (l := zbl) (zab #[125]) (by decide) (by decide)).mono ?_; rintro e w4 ⟨rfl, h4, k4⟩; have HEa := HS.out.next h4 k4; obtain ⟨q0, q1, q2, q3, q4, q5, q6, q7, q8⟩ := HEa.facts; have HE := jj HEa; clear h4 k4 HEa))
   go_ret
   exact ⟨rfl, H5.out, K5.out⟩
theorem RecAt.putA (h : RecAt Av B rb b w W x kd a0 p v fs) (u : Int) : RecAt Av B rb b w (W.setCell ⟨w.heap.size, 1, none⟩ (.int .i64 u)) x kd u p v fs :=
 ⟨h.st.loc h.ln (by decide) h.hB _, h.kp.set _ (lrf _) h.hr, h.ln.set _, zh6 h.of (fun e => by have := (h.of.lt _ e).1; omega) _, h.hB, h.hr⟩
theorem zv7 {X : PS -> Ans} (HX0 : Reads B rb b 26 X) (p : Int) {af : Nat} {sf : PS} (h : St Av B rb b w s) (ho : casP X p s = some (af, sf)) : Calls Tryz.prog 206 #[.pointer (some ⟨rb, 0, none⟩), .int .i64 p] w (APost Av B rb b w af sf) := by
 obtain ⟨j0, hj0, hy0, hy1, hy2⟩ := info_parts fldInfo
 unfold casP at ho
 obtain ⟨a0, s0, h1, h2⟩ := bind_some ho
 have HX := jj HX0
 have HAV := jj h.av
 have H0 := jj (RecAt.start h 14 0 p)
 have HX0' : Hid (∀ {Av : Nat -> Prop} W, St Av B rb b W s -> Calls Tryz.prog 26 #[.pointer (some ⟨rb, 0, none⟩)] W (APost Av B rb b W a0 s0)) := jj fun W hW => HX0 W _ _ _ hW h1
 have HL := jj h2
 clear h ho HX0 h1 h2
 go_enter Tryz.func206, Tryz.ntmps206
 go_wp2_with (first | (go_at_call 83; refine (zbu HE1.out.st 1 (l := w_of) (zab #[111, 102]) (by decide) (by decide)).mono ?_; rintro e w5 ⟨rfl, h5, k5⟩; have HE0 := jj (HE1.out.next h5 k5); clear h5 k5) | (go_at_call 26; refine (HX0'.out _ H0.out.st).mono ?_; rintro e w4 ⟨rfl, h4, k4⟩; have HEa := H0.out.next h4 k4; obtain ⟨q0, q1, q2, q3, q4, q5, q6, q7, q8⟩ := HEa.facts; have hfz := fun j => HEa.ln.frozen j; have HE1 := jj (HEa.putA (a0 : Int)); clear h4 k4 HEa))
 go_loopg [6] ((s0.must 1 w_of).l.length + 2) (fun n s6 wr => ∃ (more : Bool) (fs : List Fld) (x : PS) (FA : Option Addr) (m fc : Nat), s6 = .bool more /\ Hid (fs.length = m) /\ Hid (RecAt Av B rb b w wr x 14 (a0 : Int) p (.slice FA m fc) fs) /\ Hid (if more = true then casL X p a0 n fs x = some (af, sf) else (x.must 1 zfq).add { mk 14 p with a := a0, l := fs } = some (af, sf)))
 case atStart => exact ⟨true, [], _, none, 0, 0, rfl, jj rfl, HE0, jj (by rw [if_pos rfl]; exact HL.out)⟩
 case round =>
  obtain ⟨more, fs, x, FA, m, fc, rfl, HM, HS, HPP⟩ := hrel
  have hzr := HS.out.kp.fr.size
  cases more with
  | true =>
   have hp := HPP.out
   rw [if_pos rfl] at hp
   cases gk with
   | zero => simp [casL] at hp
   | succ k =>
    rw [casL] at hp
    by_cases hlen : fs.length < 1000
    case neg => rw [if_neg hlen] at hp; cases hp
    rw [if_pos hlen] at hp
    have hm : m < 1000 := by have := HM.out; omega
    obtain ⟨a1, s1, e1, e2⟩ := bind_some hp
    obtain ⟨nm, hnm⟩ : ∃ nm, (x.lab 3 fs).1 = nm := ⟨_, rfl⟩
    have HNM := jj hnm
    rw [hnm] at e2
    obtain ⟨vr, hvr⟩ : ∃ vr, ((x.lab 3 fs).2.txt 2).1 = vr := ⟨_, rfl⟩
    have HVR := jj hvr
    rw [hvr] at e2
    have HX1 : Hid (∀ {Av : Nat -> Prop} W, St Av B rb b W (((x.lab 3 fs).2.txt 2).2.must 7 zbc) -> Calls Tryz.prog 26 #[.pointer (some ⟨rb, 0, none⟩)] W (APost Av B rb b W a1 s1)) := jj fun W hW => HX.out W _ _ _ hW e1
    obtain ⟨q0, q1, q2, q3, q4, q5, q6, q7, q8⟩ := HS.out.facts
    have HLB := jj (zi2 HS.out.st 3 fs FA m fc HM.out (by omega) HS.out.own)
    rw [hnm] at HLB
    have HE2 := jj e2
    clear hp hlen e1 e2 hnm hvr
    by_cases hc : s1.is 7 zej = true
    ·have HC := jj (zcw hc)
     have hc2 : s1.is 7 zej = true := hc
     have hE := HE2.out
     simp only at hE
     rw [if_pos hc] at hE
     have HE3 := jj hE
     clear hE hc
     go_wp2_with (first | (go_at_call 200; refine (zb4 (l := zej) HD.out.st (zab #[124])).mono ?_; rintro e w9 ⟨rfl, h9, k9⟩; have HE := jj (HD.out.next h9 k9); clear h9 k9) | (at_builtin; refine zah _ rfl _ _ 35 rfl (w.heap.size + 1) 97 j0 (.agg #[.string ⟨#[]⟩, .string ⟨#[]⟩, .int .i64 0]) 3 40 Tryz.underlying35 hj0 hy0 hy1 hy2 rfl (by decide) _ m _ rfl (HOW.out _) ⟨w3.heap.size, 0, none⟩ 1 1 [.string nm, .string vr, .int .i64 (a1 : Int)] rfl rfl (fun j u hj => zaj (w3.setCell ⟨w1.heap.size, 2, none⟩ (.int .i64 (a1 : Int))) 97 [.string nm, .string vr, .int .i64 (a1 : Int)] w3.heap.size (by simp) j u hj) (one3 _ _ _) (by unfold maxLen; omega) (by omega) (by simp; omega) ?_; intro v8 w8 hown8 hgrow8 hpl8; obtain ⟨g8, c8, rfl⟩ := ownsRow_succ hown8; have HD0 := HF3.out.push (by rw [HM.out]; exact hown8) hgrow8 hpl8; have d7 := HD0.1.cell 7; have fz7 := HD0.1.frozen 7; have HD := jj HD0.2; clear hown8 hgrow8 hpl8 HD0) | (go_at_call 26; refine (HX1.out _ HF2.out.st).mono ?_; rintro e w3 ⟨rfl, h3, k3⟩; have hz3 := k3.fr.size; have HFa := HF2.out.next h3 k3; obtain ⟨g7, y0, y1, y2, fz⟩ := HFa.facts; have HF3a := HFa.put 2 (.int .i64 (a1 : Int)) (f2 := ⟨nm, vr, (a1 : Int)⟩) rfl; have HF3 := jj HF3a; have hz4 : w.heap.size + 1 <= w1.heap.size := HFa.hk; have hz5 : w.heap.size <= w3.heap.size := HFa.kp.fr.size; have HOW : Hid (∀ o, World.ownsRow ((w3.setCell ⟨w1.heap.size, 2, none⟩ (.int .i64 (a1 : Int))).alloc o) (w.heap.size + 1) 97 3 (.slice FA m fc) m (fCells fs)) := jj (fun o => by have := World.ownsRow.alloc HF3a.of o; rwa [HM.out] at this); clear h3 k3 HFa HF3a) | (go_at_call 83; refine (zbu HF1b.out.st 7 (l := zbc) (zab #[45, 62]) (by decide) (by decide)).mono ?_; rintro e w2 ⟨rfl, h2, k2⟩; have HF2 := jj (HF1b.out.next h2 k2); clear h2 k2) | (go_at_call 82; refine (zb3 HF1.out.st 2).mono ?_; rintro e w2b ⟨rfl, h2, k2⟩; rw [HVR.out]; have HFb := HF1.out.next h2 k2; obtain ⟨g7, y0, y1, y2, fz⟩ := HFb.facts; have HF1b := jj (HFb.put 1 (.string vr) (f2 := ⟨nm, vr, 0⟩) rfl); clear h2 k2 HFb) | (go_at_call 211; refine HLB.out.mono ?_; rintro e w1 ⟨rfl, h1, k1⟩; have HS1 := HS.out.next h1 k1; have HF1 := jj (HS1.fld ⟨nm, ⟨#[]⟩, 0⟩); clear h1 k1 HS1))
     rw [HC.out] at HE
     go_roundg k
     case measure => omega
     case rel => exact ⟨true, fs ++ [⟨nm, vr, (a1 : Int)⟩], s1.nx, some ⟨g8, 0, none⟩, m + 1, c8, rfl, jj (by rw [List.length_append, HM.out]; rfl), HE, jj (by rw [if_pos rfl]; exact HE3.out)⟩
    ·have HC := jj (zb8 (beff.2 hc))
     have hc2 : s1.is 7 zej = false := beff.2 hc
     have hE := HE2.out
     simp only at hE
     rw [if_neg hc] at hE
     have HE3 := jj hE
     clear hE hc
     go_wp2_with (first | (go_at_call 200; refine (zb4 (l := zej) HD.out.st (zab #[124])).mono ?_; rintro e w9 ⟨rfl, h9, k9⟩; have HE := jj (HD.out.next h9 k9); clear h9 k9) | (at_builtin; refine zah _ rfl _ _ 35 rfl (w.heap.size + 1) 97 j0 (.agg #[.string ⟨#[]⟩, .string ⟨#[]⟩, .int .i64 0]) 3 40 Tryz.underlying35 hj0 hy0 hy1 hy2 rfl (by decide) _ m _ rfl (HOW.out _) ⟨w3.heap.size, 0, none⟩ 1 1 [.string nm, .string vr, .int .i64 (a1 : Int)] rfl rfl (fun j u hj => zaj (w3.setCell ⟨w1.heap.size, 2, none⟩ (.int .i64 (a1 : Int))) 97 [.string nm, .string vr, .int .i64 (a1 : Int)] w3.heap.size (by simp) j u hj) (one3 _ _ _) (by unfold maxLen; omega) (by omega) (by simp; omega) ?_; intro v8 w8 hown8 hgrow8 hpl8; obtain ⟨g8, c8, rfl⟩ := ownsRow_succ hown8; have HD0 := HF3.out.push (by rw [HM.out]; exact hown8) hgrow8 hpl8; have d7 := HD0.1.cell 7; have fz7 := HD0.1.frozen 7; have HD := jj HD0.2; clear hown8 hgrow8 hpl8 HD0) | (go_at_call 26; refine (HX1.out _ HF2.out.st).mono ?_; rintro e w3 ⟨rfl, h3, k3⟩; have hz3 := k3.fr.size; have HFa := HF2.out.next h3 k3; obtain ⟨g7, y0, y1, y2, fz⟩ := HFa.facts; have HF3a := HFa.put 2 (.int .i64 (a1 : Int)) (f2 := ⟨nm, vr, (a1 : Int)⟩) rfl; have HF3 := jj HF3a; have hz4 : w.heap.size + 1 <= w1.heap.size := HFa.hk; have hz5 : w.heap.size <= w3.heap.size := HFa.kp.fr.size; have HOW : Hid (∀ o, World.ownsRow ((w3.setCell ⟨w1.heap.size, 2, none⟩ (.int .i64 (a1 : Int))).alloc o) (w.heap.size + 1) 97 3 (.slice FA m fc) m (fCells fs)) := jj (fun o => by have := World.ownsRow.alloc HF3a.of o; rwa [HM.out] at this); clear h3 k3 HFa HF3a) | (go_at_call 83; refine (zbu HF1b.out.st 7 (l := zbc) (zab #[45, 62]) (by decide) (by decide)).mono ?_; rintro e w2 ⟨rfl, h2, k2⟩; have HF2 := jj (HF1b.out.next h2 k2); clear h2 k2) | (go_at_call 82; refine (zb3 HF1.out.st 2).mono ?_; rintro e w2b ⟨rfl, h2, k2⟩; rw [HVR.out]; have HFb := HF1.out.next h2 k2; obtain ⟨g7, y0, y1, y2, fz⟩ := HFb.facts; have HF1b := jj (HFb.put 1 (.string vr) (f2 := ⟨nm, vr, 0⟩) rfl); clear h2 k2 HFb) | (go_at_call 211; refine HLB.out.mono ?_; rintro e w1 ⟨rfl, h1, k1⟩; have HS1 := HS.out.next h1 k1; have HF1 := jj (HS1.fld ⟨nm, ⟨#[]⟩, 0⟩); clear h1 k1 HS1))
     rw [HC.out] at HE
     go_roundg k
     case measure => omega
     case rel => exact ⟨false, fs ++ [⟨nm, vr, (a1 : Int)⟩], s1, some ⟨g8, 0, none⟩, m + 1, c8, rfl, jj (by rw [List.length_append, HM.out]; rfl), HE, jj (by rw [if_neg (by decide)]; exact HE3.out)⟩
  | false =>
   have hp := HPP.out
   rw [if_neg (by decide)] at hp
   have HAD : Hid (∀ W, St Av B rb b W (x.must 1 zfq) -> OwnF B W (.slice FA m fc) fs -> Calls Tryz.prog 84 #[.pointer (some ⟨rb, 0, none⟩), .agg #[.int .i64 14, .int .i64 (a0 : Int), .int .i64 0, .int .i64 0, .int .i64 0, .string ⟨#[]⟩, .string ⟨#[]⟩, .slice FA m fc, .int .i64 p]] W (APost Av B rb b W af sf)) := jj fun W hW hf =>
    zbp (y := ⟨14, (a0 : Int), 0, 0, 0, ⟨#[]⟩, ⟨#[]⟩, fs, p⟩) hW hf (HS.out.free HAV.out) hp
   clear hp
   go_wp2_with (first | (go_at_call 84; refine (HAD.out _ HE.out.add HE.out.own).mono ?_; rintro e w5 ⟨rfl, h5, k5⟩; have H5 := jj h5; have K5 := jj (HE.out.kp.trans k5); clear h5 k5) | (go_at_call 83; refine (zbu HS.out.st 1 (l := zfq) (zab #[101, 110, 100]) (by decide) (by decide)).mono ?_; rintro e w4 ⟨rfl, h4, k4⟩; have HEa := HS.out.next h4 k4; obtain ⟨q0, q1, q2, q3, q4, q5, q6, q7, q8⟩ := HEa.facts; have HE := jj HEa; clear h4 k4 HEa))
   go_ret
   exact ⟨rfl, H5.out, K5.out⟩
theorem zve {X : PS -> Ans} (HX : Reads B rb b 26 X) (p : Int) {af : Nat} {sf : PS} (h : St Av B rb b w s) (ho : recP X p s = some (af, sf)) : Calls Tryz.prog 205 #[.pointer (some ⟨rb, 0, none⟩), .int .i64 p] w (APost Av B rb b w af sf) := by
 unfold recP at ho
 by_cases hr : s.is 7 zbl = true
 ·rw [if_pos hr] at ho
  exact zhd HX p h hr ho
 ·rw [if_neg hr] at ho
  exact zib HX p h (beff.2 hr) ho
end
open T Go.RowKit Go.Shelf
attribute [local go_sem] zat zau zas
section
variable {Av : Nat -> Prop} {B rb b : Nat} {w w' W : World} {s s' : PS}
theorem zyl (s : PS) : (leafN s).1.l = [] := by
 unfold leafN
 split
 ·rfl
 split
 ·rfl
 split
 ·rfl
 split
 ·rfl
 split
 ·rfl
 rfl
structure AtomAt (Av : Nat -> Prop) (B rb b : Nat) (w W : World) (s : PS) (t : Tk) (kT : Nat) : Prop where
 st : St Av B rb b W s
 kp : Kpt rb b w W
 lt : Loc rb b W kT (tkArr t) 63
theorem AtomAt.next {t : Tk} {kT : Nat} (h : AtomAt Av B rb b w W s t kT) (hs : St Av B rb b w' s') (hk : Kpt rb b W w') : AtomAt Av B rb b w w' s' t kT := ⟨hs, h.kp.trans hk, h.lt.kpt hk⟩
theorem zd8 (h : St Av B rb b w s) {w1 : World} (hb : Below w.heap.size w w1) (t : Tk) : AtomAt Av B rb b w (w1.alloc (.cells #[.int .i64 t.k, .string t.s, .int .i64 t.n, .int .i64 t.p] 63)) s t w1.heap.size :=
 have h1 := h.below hb
 ⟨h1.alloc _, (Kpt.of_below h.rlt hb).alloc h1.rlt _, Loc.new h1 _ _⟩
theorem zsj {X : PS -> Ans} (HX : Reads B rb b 26 X) : Reads B rb b 199 (atomP X) := by
 intro Av w s af sf h ho
 unfold atomP at ho
 obtain ⟨p, v, hp, _⟩ := h.rb_
 obtain ⟨c0, c1, c2, c3, c4⟩ := hp.cells
 have HPK := jj (zbm h hp)
 have H := jj h
 by_cases h1 : s.is 7 za3 = true
 ·rw [if_pos h1] at ho
  obtain ⟨a0, s0, e1, e2⟩ := bind_some ho
  cases e2
  have HT := jj (zcw h1)
  have HX1 : Hid (∀ W, St Av B rb b W s.nx -> Calls Tryz.prog 26 #[.pointer (some ⟨rb, 0, none⟩)] W (APost Av B rb b W a0 s0)) := jj fun W hW => HX W _ _ _ hW e1
  clear h hp ho e1 HX
  go_enter Tryz.func199, Tryz.ntmps199
  go_wp2_with (first | (go_at_call 83; refine (zbu HA3.out.st 7 (l := zgf) (zab #[41]) (by decide) (by decide)).mono ?_; rintro e w4 ⟨rfl, h4, k4⟩; have HA4 := jj (HA3.out.next h4 k4); clear h4 k4) | (go_at_call 26; refine (HX1.out _ HA2.out.st).mono ?_; rintro e w3 ⟨rfl, h3, k3⟩; have HA3 := jj (HA2.out.next h3 k3); clear h3 k3) | (go_at_call 200; refine (zb4 HA1.out.st (l := za3) (zab #[40])).mono ?_; rintro e w2 ⟨rfl, h2, k2⟩; rw [HT.out] at h2; have HA2 := jj (HA1.out.next h2 k2); clear h2 k2) | (go_at_call 46; refine HPK.out.mono ?_; rintro e w1 ⟨rfl, hb1⟩; have HA1 := jj (zd8 H.out hb1 s.pk); clear hb1))
  go_ret
  exact ⟨rfl, HA4.out.st, HA4.out.kp⟩
 rw [if_neg h1] at ho
 have n1 := beff.2 h1
 have HN1 := jj (zb8 n1)
 by_cases h2 : s.is 7 zbb = true
 ·rw [if_pos h2] at ho
  have HT := jj (zcw h2)
  have HR : Hid (∀ W, St Av B rb b W s.nx -> Calls Tryz.prog 205 #[.pointer (some ⟨rb, 0, none⟩), .int .i64 s.pk.p] W (APost Av B rb b W af sf)) := jj fun W hW => zve HX s.pk.p hW ho
  clear h hp ho HX h1
  go_enter Tryz.func199, Tryz.ntmps199
  go_wp2_with (first | (go_at_call 205; refine (HR.out _ HA3.out.st).mono ?_; rintro e w4 ⟨rfl, h4, k4⟩; have HA4 := jj (HA3.out.next h4 k4); clear h4 k4) | (go_at_call 200; (with_reducible refine (zb4 HA2.out.st (zab #[123])).mono ?_); rintro e w3 ⟨rfl, h3, k3⟩; rw [show s.tk 7 #[123].toList = s.nx from HT.out] at h3; have hx : s.is 7 #[123].toList = true := h2; have HA3a := HA2.out.next h3 k3; have t3 : w3.cell? ⟨w1.heap.size, 3, none⟩ = some (.int .i64 s.pk.p) := HA3a.lt.cell 3; have HA3 := jj HA3a; clear h3 k3 HA3a) | (go_at_call 200; (with_reducible refine (zb4 HA1.out.st (zab #[40])).mono ?_); rintro e w2 ⟨rfl, h2', k2⟩; rw [show s.tk 7 #[40].toList = s from HN1.out] at h2'; have hx1 : s.is 7 #[40].toList = false := n1; have HA2 := jj (HA1.out.next h2' k2); clear h2' k2) | (go_at_call 46; refine HPK.out.mono ?_; rintro e w1 ⟨rfl, hb1⟩; have HA1 := jj (zd8 H.out hb1 s.pk); clear hb1))
  go_ret
  exact ⟨rfl, HA4.out.st, HA4.out.kp⟩
 rw [if_neg h2] at ho
 have n2 := beff.2 h2
 have HN2 := jj (zb8 n2)
 by_cases h3 : s.is 1 zbk = true
 ·rw [if_pos h3] at ho
  have HT := jj (zcw h3)
  have HR : Hid (∀ W, St Av B rb b W s.nx -> Calls Tryz.prog 206 #[.pointer (some ⟨rb, 0, none⟩), .int .i64 s.pk.p] W (APost Av B rb b W af sf)) := jj fun W hW => zv7 HX s.pk.p hW ho
  clear h hp ho HX h1 h2
  go_enter Tryz.func199, Tryz.ntmps199
  go_wp2_with (first | (go_at_call 206; refine (HR.out _ HA4.out.st).mono ?_; rintro e w5 ⟨rfl, h5, k5⟩; have HA5 := jj (HA4.out.next h5 k5); clear h5 k5) | (go_at_call 49; refine (zax HA3.out.st (zab #[99, 97, 115, 101])).mono ?_; rintro e w4 ⟨rfl, h4, k4⟩; rw [show s.tk 1 #[99, 97, 115, 101].toList = s.nx from HT.out] at h4; have hx3 : s.is 1 #[99, 97, 115, 101].toList = true := h3; have HA4a := HA3.out.next h4 k4; have t3 : w4.cell? ⟨w1.heap.size, 3, none⟩ = some (.int .i64 s.pk.p) := HA4a.lt.cell 3; have HA4 := jj HA4a; clear h4 k4 HA4a) | (go_at_call 200; (with_reducible refine (zb4 HA2.out.st (zab #[123])).mono ?_); rintro e w3 ⟨rfl, h3', k3⟩; rw [show s.tk 7 #[123].toList = s from HN2.out] at h3'; have hx2 : s.is 7 #[123].toList = false := n2; have HA3 := jj (HA2.out.next h3' k3); clear h3' k3) | (go_at_call 200; (with_reducible refine (zb4 HA1.out.st (zab #[40])).mono ?_); rintro e w2 ⟨rfl, h2', k2⟩; rw [show s.tk 7 #[40].toList = s from HN1.out] at h2'; have hx1 : s.is 7 #[40].toList = false := n1; have HA2 := jj (HA1.out.next h2' k2); clear h2' k2) | (go_at_call 46; refine HPK.out.mono ?_; rintro e w1 ⟨rfl, hb1⟩; have HA1 := jj (zd8 H.out hb1 s.pk); clear hb1))
  go_ret
  exact ⟨rfl, HA5.out.st, HA5.out.kp⟩
 rw [if_neg h3] at ho
 have n3 := beff.2 h3
 have HN3 := jj (zb8 n3)
 obtain ⟨y, hy⟩ : ∃ y, (leafN s).1 = y := ⟨_, rfl⟩
 obtain ⟨sl, hsl⟩ : ∃ t, (leafN s).2 = t := ⟨_, rfl⟩
 have hyl : y.l = [] := by rw [<- hy]; exact zyl s
 rw [hy, hsl] at ho
 have HL : Hid (∀ W, St Av B rb b W s -> Calls Tryz.prog 207 #[.pointer (some ⟨rb, 0, none⟩)] W (NPost Av B rb b W y sl)) := jj fun W hW => by have := zrt hW; rwa [hy, hsl] at this
 have HAD : Hid (∀ W, St Av B rb b W sl -> Calls Tryz.prog 84 #[.pointer (some ⟨rb, 0, none⟩), .agg #[.int .i64 y.kind, .int .i64 y.a, .int .i64 y.b, .int .i64 y.c, .int .i64 y.n, .string y.nm, .string y.s, .slice none 0 0, .int .i64 y.pos]] W (APost Av B rb b W af sf)) := jj fun W hW =>
  zbp hW (by rw [hyl]; exact zbq _ _) (zde _) ho
 clear h hp ho HX h1 h2 h3 hy hsl hyl
 go_enter Tryz.func199, Tryz.ntmps199
 go_wp2_with (first | (go_at_call 84; refine (HAD.out _ HA5.out.st).mono ?_; rintro e w6 ⟨rfl, h6, k6⟩; have HA6 := jj (HA5.out.next h6 k6); clear h6 k6) | (go_at_call 207; refine (HL.out _ HA4.out.st).mono ?_; rintro e w5 ⟨rfl, h5, k5⟩; have HA5 := jj (HA4.out.next h5 k5); clear h5 k5) | (go_at_call 49; refine (zax HA3.out.st (zab #[99, 97, 115, 101])).mono ?_; rintro e w4 ⟨rfl, h4, k4⟩; rw [show s.tk 1 #[99, 97, 115, 101].toList = s from HN3.out] at h4; have hx3 : s.is 1 #[99, 97, 115, 101].toList = false := n3; have HA4 := jj (HA3.out.next h4 k4); clear h4 k4) | (go_at_call 200; (with_reducible refine (zb4 HA2.out.st (zab #[123])).mono ?_); rintro e w3 ⟨rfl, h3', k3⟩; rw [show s.tk 7 #[123].toList = s from HN2.out] at h3'; have hx2 : s.is 7 #[123].toList = false := n2; have HA3 := jj (HA2.out.next h3' k3); clear h3' k3) | (go_at_call 200; (with_reducible refine (zb4 HA1.out.st (zab #[40])).mono ?_); rintro e w2 ⟨rfl, h2', k2⟩; rw [show s.tk 7 #[40].toList = s from HN1.out] at h2'; have hx1 : s.is 7 #[40].toList = false := n1; have HA2 := jj (HA1.out.next h2' k2); clear h2' k2) | (go_at_call 46; refine HPK.out.mono ?_; rintro e w1 ⟨rfl, hb1⟩; have HA1 := jj (zd8 H.out hb1 s.pk); clear hb1))
 go_ret
 exact ⟨rfl, HA6.out.st, HA6.out.kp⟩
end
end Go.Proofs.YtjakeidbajkdcaaGreatDoor.A
