/- Joined by program. -/
import Derived.Test.YtjakeidbajkdcaaGreatDoorH41
import Derived.Test.YtjakeidbajkdcaaGreatDoorH32
import Derived.Defers
set_option maxRecDepth 100000
set_option maxHeartbeats 4000000
namespace Go.Proofs.YtjakeidbajkdcaaGreatDoor.A
open T Go.RowKit Go.Shelf
attribute [local go_sem] field_p field_s field_n
section
variable {Av : Nat -> Prop} {B rb b : Nat} {w w' W : World} {s s' : PS}
theorem St.setd (h : St Av B rb b w s) (n : Nat) (z : Int) (hz : z = (n : Int)) : St Av B rb b (w.setCell ⟨rb, 2, none⟩ (.int .i64 z)) { s with d := n } /\ Kpt rb b w (w.setCell ⟨rb, 2, none⟩ (.int .i64 z)) := by
  subst hz
  obtain ⟨p, v, hp, _⟩ := h.rb_
  have h1 : Rb (w.setCell ⟨rb, 2, none⟩ (.int .i64 (n : Int))) rb p v { s with d := n } := blk_put (j := 2) (v := .int .i64 (n : Int)) hp
  have hk : ∀ k, k ≠ rb -> k < w.heap.size -> ((w.setCell ⟨rb, 2, none⟩ (.int .i64 (n : Int))).heap[k]? = w.heap[k]?) := fun k hk _ => set_far _ _ _ _ _ hk
  exact ⟨h.own rfl (by simp) hk hp h1 fun hR => hR.own h hk, Kpt.own rfl rfl rfl (by simp) hk hp h1⟩
theorem down_d (u : FrameMode) (h : St Av B rb b w s) (hd : 1 <= s.d) (hd2 : s.d <= 100000) (bx : Nat) (hbx : w.cell? ⟨bx, 0, none⟩ = some (.pointer (some ⟨rb, 0, none⟩))) :
    CallsD Tryz.prog 48 #[.pointer (some ⟨bx, 0, none⟩)] u w fun e u' w' => u' = u /\ (e = .returned (.tuple #[]) /\ St Av B rb b w' s.up /\ Kpt rb b w w') := by
  obtain ⟨p, v, hp, _⟩ := h.rb_
  obtain ⟨c0, c1, c2, c3, c4⟩ := hp.cells
  have f2 := hp.frozen 2
  have HS := Lib.hid (h.setd (s.d - 1) ((s.d : Int) - 1) (by omega))
  clear h hp
  go_enter_d Tryz.func48, Tryz.ntmps48
  go_wp2
  go_end0
  exact ⟨rfl, HS.out.1, HS.out.2⟩
structure ExAt (Av : Nat -> Prop) (B rb b : Nat) (w W : World) (s : PS) : Prop where
  st : St Av B rb b W s
  kp : Kpt rb b w W
  lb : Loc rb b W w.heap.size #[.pointer (some ⟨rb, 0, none⟩)] 83
theorem ExAt.next (h : ExAt Av B rb b w W s) (hs : St Av B rb b w' s') (hk : Kpt rb b W w') : ExAt Av B rb b w w' s' := ⟨hs, h.kp.trans hk, h.lb.kpt hk⟩
theorem ExAt.facts (h : ExAt Av B rb b w W s) : ∃ p v, Rb W rb p v s /\ W.cell? ⟨w.heap.size, 0, none⟩ = some (.pointer (some ⟨rb, 0, none⟩)) /\ W.cell? ⟨rb, 0, none⟩ = some (.pointer p) /\ W.cell? ⟨rb, 2, none⟩ = some (.int .i64 s.d) /\ W.frozen? ⟨rb, 2, none⟩ = false := by
  obtain ⟨p, v, hp, _⟩ := h.st.rb_
  exact ⟨p, v, hp, (h.lb.cell 0).trans rfl, hp.cells.1, hp.cells.2.2.1, hp.frozen 2⟩
theorem ex_start (h : St Av B rb b w s) : ExAt Av B rb b w (w.alloc (.cells #[.pointer (some ⟨rb, 0, none⟩)] 83)) s := ⟨h.alloc _, (Kpt.refl rb b w).alloc h.rlt _, Loc.new h _ _⟩
theorem ex_go_fun (h : St Av B rb b w s) (hd : s.d < 1000) (hh : s.d ≠ 100) (g0 : s.deep.is 1 w_fun = true) {af : Nat} {sf : PS} (HC : Hid (∀ W, St Av B rb b W s.deep.nx -> Calls Tryz.prog 50 #[.pointer (some ⟨rb, 0, none⟩), .int .i64 s.pk.p] W (APost Av B rb b W af sf))) (hf : Hid (1 <= sf.d /\ sf.d <= 100000)) : Calls Tryz.prog 26 #[.pointer (some ⟨rb, 0, none⟩)] w (APost Av B rb b w af sf.up) := by
  have hmf : ∀ (fn : Fn) (first cap : Array Value) (w : World), (Instr.makeFunc fn first cap).run Tryz.prog w = .ok (.func fn first cap) w := fun _ _ _ _ => rfl
  have H0 := Lib.hid (ex_start h)
  obtain ⟨p0, v0, hp0, b0, d0, n0, z0⟩ := H0.out.facts
  have HP0 := Lib.hid hp0
  have HT0 := Lib.hid (tk_yes g0)
  have g02 : s.deep.is 1 #[102, 117, 110].toList = true := g0
  have HDP : Hid (s.deep = { s with d := s.d + 1 }) := Lib.hid (by unfold PS.deep; rw [if_neg hh])
  have hhb : ((s.d : Int) == 100) = false := by
    have : (s.d : Int) ≠ 100 := by omega
    simpa using this
  clear h hp0 hh g0
  go_enter_defers Tryz.func26, Tryz.ntmps26
  go_wp2_with (first | (go_at_call 50; refine (HC.out _ HW0.out.st).mono ?_; rintro e w9 ⟨rfl, h9, k9⟩; have HF := Lib.hid (HW0.out.next h9 k9); clear h9 k9) | (go_at_call 49; (with_reducible refine (word_at HE.out.st (mk_list #[102, 117, 110])).mono ?_); rintro e w5 ⟨rfl, h5, k5⟩; rw [show s.deep.tk 1 #[102, 117, 110].toList = s.deep.nx from HT0.out] at h5; have HW0 := Lib.hid (HE.out.next h5 k5); obtain ⟨pf0, vf0, hpf, bf0, _⟩ := HW0.out.facts; clear h5 k5 hpf) | (go_at_call 46; refine (peek_s H0.out.st HP0.out).mono ?_; rintro e w1 ⟨rfl, hb1⟩; have H1 := Lib.hid (H0.out.next (H0.out.st.below hb1) (Kpt.of_below (b := b) H0.out.st.rlt hb1)); obtain ⟨p1, v1, hp1, b1, d1, n1, z1⟩ := H1.out.facts; have HB := Lib.hid (H1.out.st.setd (s.d + 1) ((s.d : Int) + 1) (by simp)); have HE : Hid (ExAt Av B rb b w (w1.setCell ⟨rb, 2, none⟩ (.int .i64 ((s.d : Int) + 1))) s.deep) := Lib.hid (by rw [HDP.out]; exact H1.out.next HB.out.1 HB.out.2); obtain ⟨pe, ve, hpe, be, de, ne, ze⟩ := HE.out.facts; clear hpe de ne ze; clear hp1 hb1))
  refine leaves_cons (f := 48) (args := #[.pointer (some ⟨w.heap.size, 0, none⟩)]) (by simp) (by simp [go_sem]) ?_
  refine (down_d .returning HF.out.st hf.out.1 hf.out.2 w.heap.size ((HF.out.lb.cell 0).trans rfl)).mono ?_
  rintro e u' w'' ⟨rfl, rfl, hs, hk⟩
  exact ⟨_, results_tmp rfl _ _ _, rfl, hs, HF.out.kp.trans hk⟩
theorem ex_go_let (h : St Av B rb b w s) (hd : s.d < 1000) (hh : s.d ≠ 100) (g0 : s.deep.is 1 w_fun = false) (g1 : s.deep.is 1 w_let = true) {af : Nat} {sf : PS} (HC : Hid (∀ W, St Av B rb b W s.deep.nx -> Calls Tryz.prog 51 #[.pointer (some ⟨rb, 0, none⟩), .int .i64 s.pk.p] W (APost Av B rb b W af sf))) (hf : Hid (1 <= sf.d /\ sf.d <= 100000)) : Calls Tryz.prog 26 #[.pointer (some ⟨rb, 0, none⟩)] w (APost Av B rb b w af sf.up) := by
  have hmf : ∀ (fn : Fn) (first cap : Array Value) (w : World), (Instr.makeFunc fn first cap).run Tryz.prog w = .ok (.func fn first cap) w := fun _ _ _ _ => rfl
  have H0 := Lib.hid (ex_start h)
  obtain ⟨p0, v0, hp0, b0, d0, n0, z0⟩ := H0.out.facts
  have HP0 := Lib.hid hp0
  have HT0 := Lib.hid (tk_not g0)
  have g02 : s.deep.is 1 #[102, 117, 110].toList = false := g0
  have HT1 := Lib.hid (tk_yes g1)
  have g12 : s.deep.is 1 #[108, 101, 116].toList = true := g1
  have HDP : Hid (s.deep = { s with d := s.d + 1 }) := Lib.hid (by unfold PS.deep; rw [if_neg hh])
  have hhb : ((s.d : Int) == 100) = false := by
    have : (s.d : Int) ≠ 100 := by omega
    simpa using this
  clear h hp0 hh g0 g1
  go_enter_defers Tryz.func26, Tryz.ntmps26
  go_wp2_with (first | (go_at_call 51; refine (HC.out _ HW1.out.st).mono ?_; rintro e w9 ⟨rfl, h9, k9⟩; have HF := Lib.hid (HW1.out.next h9 k9); clear h9 k9) | (go_at_call 49; (with_reducible refine (word_at HW0.out.st (mk_list #[108, 101, 116])).mono ?_); rintro e w6 ⟨rfl, h5, k5⟩; rw [show s.deep.tk 1 #[108, 101, 116].toList = s.deep.nx from HT1.out] at h5; have HW1 := Lib.hid (HW0.out.next h5 k5); obtain ⟨pf1, vf1, hpf, bf1, _⟩ := HW1.out.facts; clear h5 k5 hpf) | (go_at_call 49; (with_reducible refine (word_at HE.out.st (mk_list #[102, 117, 110])).mono ?_); rintro e w5 ⟨rfl, h5, k5⟩; rw [show s.deep.tk 1 #[102, 117, 110].toList = s.deep from HT0.out] at h5; have HW0 := Lib.hid (HE.out.next h5 k5); obtain ⟨pf0, vf0, hpf, bf0, _⟩ := HW0.out.facts; clear h5 k5 hpf) | (go_at_call 46; refine (peek_s H0.out.st HP0.out).mono ?_; rintro e w1 ⟨rfl, hb1⟩; have H1 := Lib.hid (H0.out.next (H0.out.st.below hb1) (Kpt.of_below (b := b) H0.out.st.rlt hb1)); obtain ⟨p1, v1, hp1, b1, d1, n1, z1⟩ := H1.out.facts; have HB := Lib.hid (H1.out.st.setd (s.d + 1) ((s.d : Int) + 1) (by simp)); have HE : Hid (ExAt Av B rb b w (w1.setCell ⟨rb, 2, none⟩ (.int .i64 ((s.d : Int) + 1))) s.deep) := Lib.hid (by rw [HDP.out]; exact H1.out.next HB.out.1 HB.out.2); obtain ⟨pe, ve, hpe, be, de, ne, ze⟩ := HE.out.facts; clear hpe de ne ze; clear hp1 hb1))
  refine leaves_cons (f := 48) (args := #[.pointer (some ⟨w.heap.size, 0, none⟩)]) (by simp) (by simp [go_sem]) ?_
  refine (down_d .returning HF.out.st hf.out.1 hf.out.2 w.heap.size ((HF.out.lb.cell 0).trans rfl)).mono ?_
  rintro e u' w'' ⟨rfl, rfl, hs, hk⟩
  exact ⟨_, results_tmp rfl _ _ _, rfl, hs, HF.out.kp.trans hk⟩
theorem ex_go_if (h : St Av B rb b w s) (hd : s.d < 1000) (hh : s.d ≠ 100) (g0 : s.deep.is 1 w_fun = false) (g1 : s.deep.is 1 w_let = false) (g2 : s.deep.is 1 w_if = true) {af : Nat} {sf : PS} (HC : Hid (∀ W, St Av B rb b W s.deep.nx -> Calls Tryz.prog 52 #[.pointer (some ⟨rb, 0, none⟩), .int .i64 s.pk.p] W (APost Av B rb b W af sf))) (hf : Hid (1 <= sf.d /\ sf.d <= 100000)) : Calls Tryz.prog 26 #[.pointer (some ⟨rb, 0, none⟩)] w (APost Av B rb b w af sf.up) := by
  have hmf : ∀ (fn : Fn) (first cap : Array Value) (w : World), (Instr.makeFunc fn first cap).run Tryz.prog w = .ok (.func fn first cap) w := fun _ _ _ _ => rfl
  have H0 := Lib.hid (ex_start h)
  obtain ⟨p0, v0, hp0, b0, d0, n0, z0⟩ := H0.out.facts
  have HP0 := Lib.hid hp0
  have HT0 := Lib.hid (tk_not g0)
  have g02 : s.deep.is 1 #[102, 117, 110].toList = false := g0
  have HT1 := Lib.hid (tk_not g1)
  have g12 : s.deep.is 1 #[108, 101, 116].toList = false := g1
  have HT2 := Lib.hid (tk_yes g2)
  have g22 : s.deep.is 1 #[105, 102].toList = true := g2
  have HDP : Hid (s.deep = { s with d := s.d + 1 }) := Lib.hid (by unfold PS.deep; rw [if_neg hh])
  have hhb : ((s.d : Int) == 100) = false := by
    have : (s.d : Int) ≠ 100 := by omega
    simpa using this
  clear h hp0 hh g0 g1 g2
  go_enter_defers Tryz.func26, Tryz.ntmps26
  go_wp2_with (first | (go_at_call 52; refine (HC.out _ HW2.out.st).mono ?_; rintro e w9 ⟨rfl, h9, k9⟩; have HF := Lib.hid (HW2.out.next h9 k9); clear h9 k9) | (go_at_call 49; (with_reducible refine (word_at HW1.out.st (mk_list #[105, 102])).mono ?_); rintro e w7 ⟨rfl, h5, k5⟩; rw [show s.deep.tk 1 #[105, 102].toList = s.deep.nx from HT2.out] at h5; have HW2 := Lib.hid (HW1.out.next h5 k5); obtain ⟨pf2, vf2, hpf, bf2, _⟩ := HW2.out.facts; clear h5 k5 hpf) | (go_at_call 49; (with_reducible refine (word_at HW0.out.st (mk_list #[108, 101, 116])).mono ?_); rintro e w6 ⟨rfl, h5, k5⟩; rw [show s.deep.tk 1 #[108, 101, 116].toList = s.deep from HT1.out] at h5; have HW1 := Lib.hid (HW0.out.next h5 k5); obtain ⟨pf1, vf1, hpf, bf1, _⟩ := HW1.out.facts; clear h5 k5 hpf) | (go_at_call 49; (with_reducible refine (word_at HE.out.st (mk_list #[102, 117, 110])).mono ?_); rintro e w5 ⟨rfl, h5, k5⟩; rw [show s.deep.tk 1 #[102, 117, 110].toList = s.deep from HT0.out] at h5; have HW0 := Lib.hid (HE.out.next h5 k5); obtain ⟨pf0, vf0, hpf, bf0, _⟩ := HW0.out.facts; clear h5 k5 hpf) | (go_at_call 46; refine (peek_s H0.out.st HP0.out).mono ?_; rintro e w1 ⟨rfl, hb1⟩; have H1 := Lib.hid (H0.out.next (H0.out.st.below hb1) (Kpt.of_below (b := b) H0.out.st.rlt hb1)); obtain ⟨p1, v1, hp1, b1, d1, n1, z1⟩ := H1.out.facts; have HB := Lib.hid (H1.out.st.setd (s.d + 1) ((s.d : Int) + 1) (by simp)); have HE : Hid (ExAt Av B rb b w (w1.setCell ⟨rb, 2, none⟩ (.int .i64 ((s.d : Int) + 1))) s.deep) := Lib.hid (by rw [HDP.out]; exact H1.out.next HB.out.1 HB.out.2); obtain ⟨pe, ve, hpe, be, de, ne, ze⟩ := HE.out.facts; clear hpe de ne ze; clear hp1 hb1))
  refine leaves_cons (f := 48) (args := #[.pointer (some ⟨w.heap.size, 0, none⟩)]) (by simp) (by simp [go_sem]) ?_
  refine (down_d .returning HF.out.st hf.out.1 hf.out.2 w.heap.size ((HF.out.lb.cell 0).trans rfl)).mono ?_
  rintro e u' w'' ⟨rfl, rfl, hs, hk⟩
  exact ⟨_, results_tmp rfl _ _ _, rfl, hs, HF.out.kp.trans hk⟩
theorem ex_go_cmp (h : St Av B rb b w s) (hd : s.d < 1000) (hh : s.d ≠ 100) (g0 : s.deep.is 1 w_fun = false) (g1 : s.deep.is 1 w_let = false) (g2 : s.deep.is 1 w_if = false) {af : Nat} {sf : PS} (HC : Hid (∀ W, St Av B rb b W s.deep -> Calls Tryz.prog 53 #[.pointer (some ⟨rb, 0, none⟩)] W (APost Av B rb b W af sf))) (hf : Hid (1 <= sf.d /\ sf.d <= 100000)) : Calls Tryz.prog 26 #[.pointer (some ⟨rb, 0, none⟩)] w (APost Av B rb b w af sf.up) := by
  have hmf : ∀ (fn : Fn) (first cap : Array Value) (w : World), (Instr.makeFunc fn first cap).run Tryz.prog w = .ok (.func fn first cap) w := fun _ _ _ _ => rfl
  have H0 := Lib.hid (ex_start h)
  obtain ⟨p0, v0, hp0, b0, d0, n0, z0⟩ := H0.out.facts
  have HP0 := Lib.hid hp0
  have HT0 := Lib.hid (tk_not g0)
  have g02 : s.deep.is 1 #[102, 117, 110].toList = false := g0
  have HT1 := Lib.hid (tk_not g1)
  have g12 : s.deep.is 1 #[108, 101, 116].toList = false := g1
  have HT2 := Lib.hid (tk_not g2)
  have g22 : s.deep.is 1 #[105, 102].toList = false := g2
  have HDP : Hid (s.deep = { s with d := s.d + 1 }) := Lib.hid (by unfold PS.deep; rw [if_neg hh])
  have hhb : ((s.d : Int) == 100) = false := by
    have : (s.d : Int) ≠ 100 := by omega
    simpa using this
  clear h hp0 hh g0 g1 g2
  go_enter_defers Tryz.func26, Tryz.ntmps26
  go_wp2_with (first | (go_at_call 53; refine (HC.out _ HW2.out.st).mono ?_; rintro e w9 ⟨rfl, h9, k9⟩; have HF := Lib.hid (HW2.out.next h9 k9); clear h9 k9) | (go_at_call 49; (with_reducible refine (word_at HW1.out.st (mk_list #[105, 102])).mono ?_); rintro e w7 ⟨rfl, h5, k5⟩; rw [show s.deep.tk 1 #[105, 102].toList = s.deep from HT2.out] at h5; have HW2 := Lib.hid (HW1.out.next h5 k5); obtain ⟨pf2, vf2, hpf, bf2, _⟩ := HW2.out.facts; clear h5 k5 hpf) | (go_at_call 49; (with_reducible refine (word_at HW0.out.st (mk_list #[108, 101, 116])).mono ?_); rintro e w6 ⟨rfl, h5, k5⟩; rw [show s.deep.tk 1 #[108, 101, 116].toList = s.deep from HT1.out] at h5; have HW1 := Lib.hid (HW0.out.next h5 k5); obtain ⟨pf1, vf1, hpf, bf1, _⟩ := HW1.out.facts; clear h5 k5 hpf) | (go_at_call 49; (with_reducible refine (word_at HE.out.st (mk_list #[102, 117, 110])).mono ?_); rintro e w5 ⟨rfl, h5, k5⟩; rw [show s.deep.tk 1 #[102, 117, 110].toList = s.deep from HT0.out] at h5; have HW0 := Lib.hid (HE.out.next h5 k5); obtain ⟨pf0, vf0, hpf, bf0, _⟩ := HW0.out.facts; clear h5 k5 hpf) | (go_at_call 46; refine (peek_s H0.out.st HP0.out).mono ?_; rintro e w1 ⟨rfl, hb1⟩; have H1 := Lib.hid (H0.out.next (H0.out.st.below hb1) (Kpt.of_below (b := b) H0.out.st.rlt hb1)); obtain ⟨p1, v1, hp1, b1, d1, n1, z1⟩ := H1.out.facts; have HB := Lib.hid (H1.out.st.setd (s.d + 1) ((s.d : Int) + 1) (by simp)); have HE : Hid (ExAt Av B rb b w (w1.setCell ⟨rb, 2, none⟩ (.int .i64 ((s.d : Int) + 1))) s.deep) := Lib.hid (by rw [HDP.out]; exact H1.out.next HB.out.1 HB.out.2); obtain ⟨pe, ve, hpe, be, de, ne, ze⟩ := HE.out.facts; clear hpe de ne ze; clear hp1 hb1))
  refine leaves_cons (f := 48) (args := #[.pointer (some ⟨w.heap.size, 0, none⟩)]) (by simp) (by simp [go_sem]) ?_
  refine (down_d .returning HF.out.st hf.out.1 hf.out.2 w.heap.size ((HF.out.lb.cell 0).trans rfl)).mono ?_
  rintro e u' w'' ⟨rfl, rfl, hs, hk⟩
  exact ⟨_, results_tmp rfl _ _ _, rfl, hs, HF.out.kp.trans hk⟩
theorem ex_deep_fun (h : St Av B rb b w s) (hd : s.d < 1000) (hh : s.d = 100) (g0 : s.deep.is 1 w_fun = true) {af : Nat} {sf : PS} (HC : Hid (∀ W, St Av B rb b W s.deep.nx -> Calls Tryz.prog 50 #[.pointer (some ⟨rb, 0, none⟩), .int .i64 s.pk.p] W (APost Av B rb b W af sf))) (hf : Hid (1 <= sf.d /\ sf.d <= 100000)) : Calls Tryz.prog 26 #[.pointer (some ⟨rb, 0, none⟩)] w (APost Av B rb b w af sf.up) := by
  have hmf : ∀ (fn : Fn) (first cap : Array Value) (w : World), (Instr.makeFunc fn first cap).run Tryz.prog w = .ok (.func fn first cap) w := fun _ _ _ _ => rfl
  have H0 := Lib.hid (ex_start h)
  obtain ⟨p0, v0, hp0, b0, d0, n0, z0⟩ := H0.out.facts
  have HP0 := Lib.hid hp0
  have HT0 := Lib.hid (tk_yes g0)
  have g02 : s.deep.is 1 #[102, 117, 110].toList = true := g0
  have HDP : Hid (s.deep = { (s.no s.pk.p 6) with d := s.d + 1 }) := Lib.hid (by unfold PS.deep; rw [if_pos hh])
  have hhb : ((s.d : Int) == 100) = true := by rw [hh]; rfl
  clear h hp0 hh g0
  go_enter_defers Tryz.func26, Tryz.ntmps26
  go_wp2_with (first | (go_at_call 50; refine (HC.out _ HW0.out.st).mono ?_; rintro e w9 ⟨rfl, h9, k9⟩; have HF := Lib.hid (HW0.out.next h9 k9); clear h9 k9) | (go_at_call 49; (with_reducible refine (word_at HE.out.st (mk_list #[102, 117, 110])).mono ?_); rintro e w5 ⟨rfl, h5, k5⟩; rw [show s.deep.tk 1 #[102, 117, 110].toList = s.deep.nx from HT0.out] at h5; have HW0 := Lib.hid (HE.out.next h5 k5); obtain ⟨pf0, vf0, hpf, bf0, _⟩ := HW0.out.facts; clear h5 k5 hpf) | (go_at_call 47; refine (refuse_any H1.out.st _ 6).mono ?_; rintro e w2 ⟨rfl, h2, k2⟩; have H2 := Lib.hid (H1.out.next h2 k2); obtain ⟨p2, v2, hp2, b2, d2, n2, z2⟩ := H2.out.facts; have n2x : w2.cell? ⟨rb, 2, none⟩ = some (.int .i64 (s.d : Int)) := n2; clear n2; have HB := Lib.hid (H2.out.st.setd (s.d + 1) ((s.d : Int) + 1) (by simp)); have HE : Hid (ExAt Av B rb b w (w2.setCell ⟨rb, 2, none⟩ (.int .i64 ((s.d : Int) + 1))) s.deep) := Lib.hid (by rw [HDP.out]; exact H2.out.next HB.out.1 HB.out.2); obtain ⟨pe, ve, hpe, be, de, ne, ze⟩ := HE.out.facts; clear hpe de ne ze; clear hp2 h2 k2) | (go_at_call 46; refine (peek_s H0.out.st HP0.out).mono ?_; rintro e w1 ⟨rfl, hb1⟩; have H1 := Lib.hid (H0.out.next (H0.out.st.below hb1) (Kpt.of_below (b := b) H0.out.st.rlt hb1)); obtain ⟨p1, v1, hp1, b1, d1, n1, z1⟩ := H1.out.facts; clear hp1 hb1))
  refine leaves_cons (f := 48) (args := #[.pointer (some ⟨w.heap.size, 0, none⟩)]) (by simp) (by simp [go_sem]) ?_
  refine (down_d .returning HF.out.st hf.out.1 hf.out.2 w.heap.size ((HF.out.lb.cell 0).trans rfl)).mono ?_
  rintro e u' w'' ⟨rfl, rfl, hs, hk⟩
  exact ⟨_, results_tmp rfl _ _ _, rfl, hs, HF.out.kp.trans hk⟩
theorem ex_deep_let (h : St Av B rb b w s) (hd : s.d < 1000) (hh : s.d = 100) (g0 : s.deep.is 1 w_fun = false) (g1 : s.deep.is 1 w_let = true) {af : Nat} {sf : PS} (HC : Hid (∀ W, St Av B rb b W s.deep.nx -> Calls Tryz.prog 51 #[.pointer (some ⟨rb, 0, none⟩), .int .i64 s.pk.p] W (APost Av B rb b W af sf))) (hf : Hid (1 <= sf.d /\ sf.d <= 100000)) : Calls Tryz.prog 26 #[.pointer (some ⟨rb, 0, none⟩)] w (APost Av B rb b w af sf.up) := by
  have hmf : ∀ (fn : Fn) (first cap : Array Value) (w : World), (Instr.makeFunc fn first cap).run Tryz.prog w = .ok (.func fn first cap) w := fun _ _ _ _ => rfl
  have H0 := Lib.hid (ex_start h)
  obtain ⟨p0, v0, hp0, b0, d0, n0, z0⟩ := H0.out.facts
  have HP0 := Lib.hid hp0
  have HT0 := Lib.hid (tk_not g0)
  have g02 : s.deep.is 1 #[102, 117, 110].toList = false := g0
  have HT1 := Lib.hid (tk_yes g1)
  have g12 : s.deep.is 1 #[108, 101, 116].toList = true := g1
  have HDP : Hid (s.deep = { (s.no s.pk.p 6) with d := s.d + 1 }) := Lib.hid (by unfold PS.deep; rw [if_pos hh])
  have hhb : ((s.d : Int) == 100) = true := by rw [hh]; rfl
  clear h hp0 hh g0 g1
  go_enter_defers Tryz.func26, Tryz.ntmps26
  go_wp2_with (first | (go_at_call 51; refine (HC.out _ HW1.out.st).mono ?_; rintro e w9 ⟨rfl, h9, k9⟩; have HF := Lib.hid (HW1.out.next h9 k9); clear h9 k9) | (go_at_call 49; (with_reducible refine (word_at HW0.out.st (mk_list #[108, 101, 116])).mono ?_); rintro e w6 ⟨rfl, h5, k5⟩; rw [show s.deep.tk 1 #[108, 101, 116].toList = s.deep.nx from HT1.out] at h5; have HW1 := Lib.hid (HW0.out.next h5 k5); obtain ⟨pf1, vf1, hpf, bf1, _⟩ := HW1.out.facts; clear h5 k5 hpf) | (go_at_call 49; (with_reducible refine (word_at HE.out.st (mk_list #[102, 117, 110])).mono ?_); rintro e w5 ⟨rfl, h5, k5⟩; rw [show s.deep.tk 1 #[102, 117, 110].toList = s.deep from HT0.out] at h5; have HW0 := Lib.hid (HE.out.next h5 k5); obtain ⟨pf0, vf0, hpf, bf0, _⟩ := HW0.out.facts; clear h5 k5 hpf) | (go_at_call 47; refine (refuse_any H1.out.st _ 6).mono ?_; rintro e w2 ⟨rfl, h2, k2⟩; have H2 := Lib.hid (H1.out.next h2 k2); obtain ⟨p2, v2, hp2, b2, d2, n2, z2⟩ := H2.out.facts; have n2x : w2.cell? ⟨rb, 2, none⟩ = some (.int .i64 (s.d : Int)) := n2; clear n2; have HB := Lib.hid (H2.out.st.setd (s.d + 1) ((s.d : Int) + 1) (by simp)); have HE : Hid (ExAt Av B rb b w (w2.setCell ⟨rb, 2, none⟩ (.int .i64 ((s.d : Int) + 1))) s.deep) := Lib.hid (by rw [HDP.out]; exact H2.out.next HB.out.1 HB.out.2); obtain ⟨pe, ve, hpe, be, de, ne, ze⟩ := HE.out.facts; clear hpe de ne ze; clear hp2 h2 k2) | (go_at_call 46; refine (peek_s H0.out.st HP0.out).mono ?_; rintro e w1 ⟨rfl, hb1⟩; have H1 := Lib.hid (H0.out.next (H0.out.st.below hb1) (Kpt.of_below (b := b) H0.out.st.rlt hb1)); obtain ⟨p1, v1, hp1, b1, d1, n1, z1⟩ := H1.out.facts; clear hp1 hb1))
  refine leaves_cons (f := 48) (args := #[.pointer (some ⟨w.heap.size, 0, none⟩)]) (by simp) (by simp [go_sem]) ?_
  refine (down_d .returning HF.out.st hf.out.1 hf.out.2 w.heap.size ((HF.out.lb.cell 0).trans rfl)).mono ?_
  rintro e u' w'' ⟨rfl, rfl, hs, hk⟩
  exact ⟨_, results_tmp rfl _ _ _, rfl, hs, HF.out.kp.trans hk⟩
theorem ex_deep_if (h : St Av B rb b w s) (hd : s.d < 1000) (hh : s.d = 100) (g0 : s.deep.is 1 w_fun = false) (g1 : s.deep.is 1 w_let = false) (g2 : s.deep.is 1 w_if = true) {af : Nat} {sf : PS} (HC : Hid (∀ W, St Av B rb b W s.deep.nx -> Calls Tryz.prog 52 #[.pointer (some ⟨rb, 0, none⟩), .int .i64 s.pk.p] W (APost Av B rb b W af sf))) (hf : Hid (1 <= sf.d /\ sf.d <= 100000)) : Calls Tryz.prog 26 #[.pointer (some ⟨rb, 0, none⟩)] w (APost Av B rb b w af sf.up) := by
  have hmf : ∀ (fn : Fn) (first cap : Array Value) (w : World), (Instr.makeFunc fn first cap).run Tryz.prog w = .ok (.func fn first cap) w := fun _ _ _ _ => rfl
  have H0 := Lib.hid (ex_start h)
  obtain ⟨p0, v0, hp0, b0, d0, n0, z0⟩ := H0.out.facts
  have HP0 := Lib.hid hp0
  have HT0 := Lib.hid (tk_not g0)
  have g02 : s.deep.is 1 #[102, 117, 110].toList = false := g0
  have HT1 := Lib.hid (tk_not g1)
  have g12 : s.deep.is 1 #[108, 101, 116].toList = false := g1
  have HT2 := Lib.hid (tk_yes g2)
  have g22 : s.deep.is 1 #[105, 102].toList = true := g2
  have HDP : Hid (s.deep = { (s.no s.pk.p 6) with d := s.d + 1 }) := Lib.hid (by unfold PS.deep; rw [if_pos hh])
  have hhb : ((s.d : Int) == 100) = true := by rw [hh]; rfl
  clear h hp0 hh g0 g1 g2
  go_enter_defers Tryz.func26, Tryz.ntmps26
  go_wp2_with (first | (go_at_call 52; refine (HC.out _ HW2.out.st).mono ?_; rintro e w9 ⟨rfl, h9, k9⟩; have HF := Lib.hid (HW2.out.next h9 k9); clear h9 k9) | (go_at_call 49; (with_reducible refine (word_at HW1.out.st (mk_list #[105, 102])).mono ?_); rintro e w7 ⟨rfl, h5, k5⟩; rw [show s.deep.tk 1 #[105, 102].toList = s.deep.nx from HT2.out] at h5; have HW2 := Lib.hid (HW1.out.next h5 k5); obtain ⟨pf2, vf2, hpf, bf2, _⟩ := HW2.out.facts; clear h5 k5 hpf) | (go_at_call 49; (with_reducible refine (word_at HW0.out.st (mk_list #[108, 101, 116])).mono ?_); rintro e w6 ⟨rfl, h5, k5⟩; rw [show s.deep.tk 1 #[108, 101, 116].toList = s.deep from HT1.out] at h5; have HW1 := Lib.hid (HW0.out.next h5 k5); obtain ⟨pf1, vf1, hpf, bf1, _⟩ := HW1.out.facts; clear h5 k5 hpf) | (go_at_call 49; (with_reducible refine (word_at HE.out.st (mk_list #[102, 117, 110])).mono ?_); rintro e w5 ⟨rfl, h5, k5⟩; rw [show s.deep.tk 1 #[102, 117, 110].toList = s.deep from HT0.out] at h5; have HW0 := Lib.hid (HE.out.next h5 k5); obtain ⟨pf0, vf0, hpf, bf0, _⟩ := HW0.out.facts; clear h5 k5 hpf) | (go_at_call 47; refine (refuse_any H1.out.st _ 6).mono ?_; rintro e w2 ⟨rfl, h2, k2⟩; have H2 := Lib.hid (H1.out.next h2 k2); obtain ⟨p2, v2, hp2, b2, d2, n2, z2⟩ := H2.out.facts; have n2x : w2.cell? ⟨rb, 2, none⟩ = some (.int .i64 (s.d : Int)) := n2; clear n2; have HB := Lib.hid (H2.out.st.setd (s.d + 1) ((s.d : Int) + 1) (by simp)); have HE : Hid (ExAt Av B rb b w (w2.setCell ⟨rb, 2, none⟩ (.int .i64 ((s.d : Int) + 1))) s.deep) := Lib.hid (by rw [HDP.out]; exact H2.out.next HB.out.1 HB.out.2); obtain ⟨pe, ve, hpe, be, de, ne, ze⟩ := HE.out.facts; clear hpe de ne ze; clear hp2 h2 k2) | (go_at_call 46; refine (peek_s H0.out.st HP0.out).mono ?_; rintro e w1 ⟨rfl, hb1⟩; have H1 := Lib.hid (H0.out.next (H0.out.st.below hb1) (Kpt.of_below (b := b) H0.out.st.rlt hb1)); obtain ⟨p1, v1, hp1, b1, d1, n1, z1⟩ := H1.out.facts; clear hp1 hb1))
  refine leaves_cons (f := 48) (args := #[.pointer (some ⟨w.heap.size, 0, none⟩)]) (by simp) (by simp [go_sem]) ?_
  refine (down_d .returning HF.out.st hf.out.1 hf.out.2 w.heap.size ((HF.out.lb.cell 0).trans rfl)).mono ?_
  rintro e u' w'' ⟨rfl, rfl, hs, hk⟩
  exact ⟨_, results_tmp rfl _ _ _, rfl, hs, HF.out.kp.trans hk⟩
theorem ex_deep_cmp (h : St Av B rb b w s) (hd : s.d < 1000) (hh : s.d = 100) (g0 : s.deep.is 1 w_fun = false) (g1 : s.deep.is 1 w_let = false) (g2 : s.deep.is 1 w_if = false) {af : Nat} {sf : PS} (HC : Hid (∀ W, St Av B rb b W s.deep -> Calls Tryz.prog 53 #[.pointer (some ⟨rb, 0, none⟩)] W (APost Av B rb b W af sf))) (hf : Hid (1 <= sf.d /\ sf.d <= 100000)) : Calls Tryz.prog 26 #[.pointer (some ⟨rb, 0, none⟩)] w (APost Av B rb b w af sf.up) := by
  have hmf : ∀ (fn : Fn) (first cap : Array Value) (w : World), (Instr.makeFunc fn first cap).run Tryz.prog w = .ok (.func fn first cap) w := fun _ _ _ _ => rfl
  have H0 := Lib.hid (ex_start h)
  obtain ⟨p0, v0, hp0, b0, d0, n0, z0⟩ := H0.out.facts
  have HP0 := Lib.hid hp0
  have HT0 := Lib.hid (tk_not g0)
  have g02 : s.deep.is 1 #[102, 117, 110].toList = false := g0
  have HT1 := Lib.hid (tk_not g1)
  have g12 : s.deep.is 1 #[108, 101, 116].toList = false := g1
  have HT2 := Lib.hid (tk_not g2)
  have g22 : s.deep.is 1 #[105, 102].toList = false := g2
  have HDP : Hid (s.deep = { (s.no s.pk.p 6) with d := s.d + 1 }) := Lib.hid (by unfold PS.deep; rw [if_pos hh])
  have hhb : ((s.d : Int) == 100) = true := by rw [hh]; rfl
  clear h hp0 hh g0 g1 g2
  go_enter_defers Tryz.func26, Tryz.ntmps26
  go_wp2_with (first | (go_at_call 53; refine (HC.out _ HW2.out.st).mono ?_; rintro e w9 ⟨rfl, h9, k9⟩; have HF := Lib.hid (HW2.out.next h9 k9); clear h9 k9) | (go_at_call 49; (with_reducible refine (word_at HW1.out.st (mk_list #[105, 102])).mono ?_); rintro e w7 ⟨rfl, h5, k5⟩; rw [show s.deep.tk 1 #[105, 102].toList = s.deep from HT2.out] at h5; have HW2 := Lib.hid (HW1.out.next h5 k5); obtain ⟨pf2, vf2, hpf, bf2, _⟩ := HW2.out.facts; clear h5 k5 hpf) | (go_at_call 49; (with_reducible refine (word_at HW0.out.st (mk_list #[108, 101, 116])).mono ?_); rintro e w6 ⟨rfl, h5, k5⟩; rw [show s.deep.tk 1 #[108, 101, 116].toList = s.deep from HT1.out] at h5; have HW1 := Lib.hid (HW0.out.next h5 k5); obtain ⟨pf1, vf1, hpf, bf1, _⟩ := HW1.out.facts; clear h5 k5 hpf) | (go_at_call 49; (with_reducible refine (word_at HE.out.st (mk_list #[102, 117, 110])).mono ?_); rintro e w5 ⟨rfl, h5, k5⟩; rw [show s.deep.tk 1 #[102, 117, 110].toList = s.deep from HT0.out] at h5; have HW0 := Lib.hid (HE.out.next h5 k5); obtain ⟨pf0, vf0, hpf, bf0, _⟩ := HW0.out.facts; clear h5 k5 hpf) | (go_at_call 47; refine (refuse_any H1.out.st _ 6).mono ?_; rintro e w2 ⟨rfl, h2, k2⟩; have H2 := Lib.hid (H1.out.next h2 k2); obtain ⟨p2, v2, hp2, b2, d2, n2, z2⟩ := H2.out.facts; have n2x : w2.cell? ⟨rb, 2, none⟩ = some (.int .i64 (s.d : Int)) := n2; clear n2; have HB := Lib.hid (H2.out.st.setd (s.d + 1) ((s.d : Int) + 1) (by simp)); have HE : Hid (ExAt Av B rb b w (w2.setCell ⟨rb, 2, none⟩ (.int .i64 ((s.d : Int) + 1))) s.deep) := Lib.hid (by rw [HDP.out]; exact H2.out.next HB.out.1 HB.out.2); obtain ⟨pe, ve, hpe, be, de, ne, ze⟩ := HE.out.facts; clear hpe de ne ze; clear hp2 h2 k2) | (go_at_call 46; refine (peek_s H0.out.st HP0.out).mono ?_; rintro e w1 ⟨rfl, hb1⟩; have H1 := Lib.hid (H0.out.next (H0.out.st.below hb1) (Kpt.of_below (b := b) H0.out.st.rlt hb1)); obtain ⟨p1, v1, hp1, b1, d1, n1, z1⟩ := H1.out.facts; clear hp1 hb1))
  refine leaves_cons (f := 48) (args := #[.pointer (some ⟨w.heap.size, 0, none⟩)]) (by simp) (by simp [go_sem]) ?_
  refine (down_d .returning HF.out.st hf.out.1 hf.out.2 w.heap.size ((HF.out.lb.cell 0).trans rfl)).mono ?_
  rintro e u' w'' ⟨rfl, rfl, hs, hk⟩
  exact ⟨_, results_tmp rfl _ _ _, rfl, hs, HF.out.kp.trans hk⟩
end
open T Go.RowKit
section
variable {Av : Nat -> Prop} {B rb b : Nat} {w w' W : World} {s s' : PS}
theorem expr_any : ∀ f, Reads B rb b 26 (exprP f) := by
  intro f
  induction f with
  | zero => intro Av w s af sf h ho; cases ho
  | succ f HX =>
    intro Av w s af sf h ho
    rw [exprP] at ho
    by_cases hd : s.d < 1000
    case neg => rw [if_neg hd] at ho; cases ho
    rw [if_pos hd] at ho
    obtain ⟨a, s1, h1, h2⟩ := bind_some ho
    cases h2
    have hs1 : s1.d = s.d + 1 := inner_d (expr_d f) _ _ _ h1
    have hf : Hid (1 <= s1.d /\ s1.d <= 100000) := Lib.hid ⟨by omega, by omega⟩
    have HA := app_any (post_any (atom_any HX))
    have HS := sum_any (prod_any HA)
    unfold innerP at h1
    by_cases g0 : s.deep.is 1 w_fun = true
    · rw [if_pos g0] at h1
      by_cases hh : s.d = 100
      · exact ex_deep_fun h hd hh g0 (Lib.hid fun W hW => fun_any HX _ hW h1) hf
      · exact ex_go_fun h hd hh g0 (Lib.hid fun W hW => fun_any HX _ hW h1) hf
    rw [if_neg g0] at h1
    have n0 := Bool.eq_false_iff.2 g0
    by_cases g1 : s.deep.is 1 w_let = true
    · rw [if_pos g1] at h1
      by_cases hh : s.d = 100
      · exact ex_deep_let h hd hh n0 g1 (Lib.hid fun W hW => bind_any HX _ hW h1) hf
      · exact ex_go_let h hd hh n0 g1 (Lib.hid fun W hW => bind_any HX _ hW h1) hf
    rw [if_neg g1] at h1
    have n1 := Bool.eq_false_iff.2 g1
    by_cases g2 : s.deep.is 1 w_if = true
    · rw [if_pos g2] at h1
      by_cases hh : s.d = 100
      · exact ex_deep_if h hd hh n0 n1 g2 (Lib.hid fun W hW => if_any HX _ hW h1) hf
      · exact ex_go_if h hd hh n0 n1 g2 (Lib.hid fun W hW => if_any HX _ hW h1) hf
    rw [if_neg g2] at h1
    have n2 := Bool.eq_false_iff.2 g2
    by_cases hh : s.d = 100
    · exact ex_deep_cmp h hd hh n0 n1 n2 (Lib.hid fun W hW => cmp_any HS W _ _ _ hW h1) hf
    · exact ex_go_cmp h hd hh n0 n1 n2 (Lib.hid fun W hW => cmp_any HS W _ _ _ hW h1) hf
end
end Go.Proofs.YtjakeidbajkdcaaGreatDoor.A
