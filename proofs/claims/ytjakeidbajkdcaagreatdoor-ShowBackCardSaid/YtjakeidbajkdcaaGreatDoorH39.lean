/- Joined by program. -/
import Derived.Test.YtjakeidbajkdcaaGreatDoorH37
set_option maxRecDepth 100000
set_option maxHeartbeats 4000000
namespace Go.Proofs.YtjakeidbajkdcaaGreatDoor.A
open T Go.RowKit Go.Shelf
attribute [local go_sem] field_p field_s field_n
theorem idxl_any (P : Fld -> Bool) (l : List Fld) (L c bx : Nat) (A : Option Addr) (w : World) (HL : Hid (l.length = L)) (hL : L <= 1000) (HR : Hid (0 < L -> ∃ g o, A = some ⟨g, o, none⟩ /\ g < w.heap.size /\ FldsAt w g o l))
    (HF : Hid (∀ w1 f, Below w.heap.size w w1 -> Calls Tryz.prog 214 #[.agg #[.string (Fld.nm f), .string (Fld.vr f), .int .i64 (Fld.pl f)], .pointer (some ⟨bx, 0, none⟩)] w1 fun e w' => e = .returned (.bool (P f)) /\ Below w1.heap.size w1 w')) :
    Calls Tryz.prog 215 #[.slice A L c, .func (.func 214) #[] #[.pointer (some ⟨bx, 0, none⟩)]] w (FxPost (l.any P) w) := by
  go_enter Tryz.func215, Tryz.ntmps215
  go_wp2
  go_loopw [8] (fun i wr => ∃ q : Nat, i = .int .i64 (q : Int) /\ q <= L /\ Hid ((l.take q).any P = false) /\ Hid (Below w.heap.size w wr)) (fun i _ => L - (intOf i).toNat)
  case atStart => exact ⟨0, rfl, Nat.zero_le _, Lib.hid (by simp), Lib.hid (Below.refl _ _)⟩
  case round =>
    obtain ⟨q, rfl, hq, HC, HB⟩ := hrel
    have hsz := HB.out.size
    by_cases hlt : q < L
    · obtain ⟨f, hx⟩ : ∃ x, l[q]? = some x := ⟨_, List.getElem?_eq_getElem (by rw [HL.out]; exact hlt)⟩
      obtain ⟨g, o, rfl, hg, hr⟩ := HR.out (by omega)
      obtain ⟨m0, m1, m2⟩ := (hr.below (HB.out.mono (Nat.succ_le_of_lt hg)) (Nat.lt_succ_self g)) q f hx
      have HRR := Lib.hid hr
      clear hr
      cases hp : P f with
      | true =>
        have HY := Lib.hid (any_yes P l q f hx hp)
        have HP := Lib.hid hp
        clear hx hp
        go_wp2_with (go_at_call 214; refine (HF.out _ f HB.out).mono ?_; rintro e w1 ⟨rfl, hb1⟩; rw [HP.out]; have HBB := Lib.hid hb1; clear hb1)
        go_ret
        exact ⟨⟨_, rfl, by rw [HY.out]; simp⟩, HB.out.trans (HBB.out.mono hsz)⟩
      | false =>
        have HY := Lib.hid (any_no P l q f hx HC.out hp)
        have HP := Lib.hid hp
        clear hx hp
        go_wp2_with (go_at_call 214; refine (HF.out _ f HB.out).mono ?_; rintro e w1 ⟨rfl, hb1⟩; rw [HP.out]; have HBB := Lib.hid hb1; clear hb1)
        go_roundw
        case rel => exact ⟨q + 1, by go_num, by omega, HY, Lib.hid (HB.out.trans (HBB.out.mono hsz))⟩
        case measure => simp [intOf]; omega
    · obtain rfl : q = L := by omega
      go_wp2
      go_ret
      exact ⟨⟨_, rfl, by have := HC.out; rw [List.take_of_length_le (by rw [HL.out]; omega)] at this; rw [this]; rfl⟩, HB.out⟩
theorem contl_any (P : Fld -> Bool) (l : List Fld) (L c bx : Nat) (A : Option Addr) (w : World) (t : Bool) (ht : l.any P = t) (HL : Hid (l.length = L)) (hL : L <= 1000) (HR : Hid (0 < L -> ∃ g o, A = some ⟨g, o, none⟩ /\ g < w.heap.size /\ FldsAt w g o l))
    (HF : Hid (∀ w1 f, Below w.heap.size w w1 -> Calls Tryz.prog 214 #[.agg #[.string (Fld.nm f), .string (Fld.vr f), .int .i64 (Fld.pl f)], .pointer (some ⟨bx, 0, none⟩)] w1 fun e w' => e = .returned (.bool (P f)) /\ Below w1.heap.size w1 w')) :
    Calls Tryz.prog 213 #[.slice A L c, .func (.func 214) #[] #[.pointer (some ⟨bx, 0, none⟩)]] w fun e w' => e = .returned (.bool t) /\ Below w.heap.size w w' := by
  have HC := Lib.hid (idxl_any P l L c bx A w HL hL HR HF)
  rw [ht] at HC
  clear ht
  go_enter Tryz.func213, Tryz.ntmps213
  go_wp2_with (go_at_call 215; refine HC.out.mono ?_; rintro e w1 ⟨⟨r, rfl, hr⟩, hb1⟩)
  go_ret
  exact ⟨ret_b (by first | exact hr | simp), hb1⟩
theorem label1_any (f : Fld) (x : ByteArray) (bx : Nat) (w : World) (hx : w.cell? ⟨bx, 0, none⟩ = some (.string x)) (hlt : bx < w.heap.size) :
    Calls Tryz.prog 214 #[.agg #[.string (Fld.nm f), .string (Fld.vr f), .int .i64 (Fld.pl f)], .pointer (some ⟨bx, 0, none⟩)] w fun e w' => e = .returned (.bool (f.nm.toList == x.toList)) /\ Below w.heap.size w w' := by
  have h1 : (w.alloc (.cells #[.string (Fld.nm f), .string (Fld.vr f), .int .i64 (Fld.pl f)] 97)).cell? ⟨bx, 0, none⟩ = some (.string x) := (((Below.refl _ w).alloc (Nat.le_refl _) _).cell (p := ⟨bx, 0, none⟩) hlt).trans hx
  obtain ⟨y, hy⟩ : ∃ y, (f.nm.toList == x.toList) = y := ⟨_, rfl⟩
  rw [hy]
  go_enter Tryz.func214, Tryz.ntmps214
  go_wp2
  go_ret
  exact ⟨rfl, (Below.refl _ w).alloc (Nat.le_refl _) _⟩
section
variable {Av : Nat -> Prop} {B rb b : Nat} {w w' : World} {s s' : PS}
theorem ownF_kpt {v : Value} {l : List Fld} (hf : OwnF B w v l) (h : St Av B rb b w s) (hk : Kpt rb b w w') : OwnF B w' v l := by
  have hrb := h.hrb
  have hbB := h.hb
  refine ⟨hf.1, ?_⟩
  rcases hf.2 with h0 | ⟨g, cap, cur, e1, e2, e3, e4⟩
  · exact .inl h0
  · refine .inr ⟨g, cap, cur, e1, e2, (hk.fr.block g (Array.getElem?_eq_some_iff.1 e3).1 fun hh => ?_).trans e3, e4⟩
    rcases hh with hh | hh | hh
    · omega
    · omega
    · obtain ⟨_, cur', hc⟩ := h.nbB g hh
      rw [hc] at e3
      injection e3 with e
      injection e with _ e _
      exact absurd e (by decide)
theorem ownF_at {v : Value} {A : Option Addr} {n c : Nat} {l : List Fld} (hf : OwnF B w v l) (hv : v = .slice A n c) (hl : l.length = n) : 0 < n -> ∃ g o, A = some ⟨g, o, none⟩ /\ g < w.heap.size /\ FldsAt w g o l := fun h0 => by
  obtain ⟨A', c', e, _, _, hh⟩ := ownF_flds hf
  rw [hv] at e
  injection e with e1 e2 e3
  obtain ⟨g, o, e4, e5, e6⟩ := hh (by omega)
  exact ⟨g, o, e1.trans e4, e5, e6⟩
end
open T Go.RowKit Go.Shelf
attribute [local go_sem] field_p field_s field_n
section
variable {Av : Nat -> Prop} {B rb b : Nat} {w w' : World} {s s' : PS}
theorem label_any (h : St Av B rb b w s) (k : Int) (fs : List Fld) (FA : Option Addr) (n fc : Nat) (hl : fs.length = n) (hn : n <= 1000) (hf : OwnF B w (.slice FA n fc) fs) :
    Calls Tryz.prog 211 #[.pointer (some ⟨rb, 0, none⟩), .int .i64 k, .slice FA n fc] w (SPost Av B rb b w (s.lab k fs).1 (s.lab k fs).2) := by
  obtain ⟨p, v, hp, hR⟩ := h.rb_
  obtain ⟨c0, c1, c2, c3, c4⟩ := hp.cells
  have hlt := h.rlt
  have HPK := Lib.hid (peek_s h hp)
  have H := Lib.hid h
  have HF := Lib.hid hf
  have HL := Lib.hid hl
  obtain ⟨x, hx⟩ : ∃ x, (s.txt k).1 = x := ⟨_, rfl⟩
  have HT : Hid (∀ W, Below w.heap.size w W -> Calls Tryz.prog 82 #[.pointer (some ⟨rb, 0, none⟩), .int .i64 k] W (SPost Av B rb b W x (s.txt k).2)) := Lib.hid fun W hb => by have := text_any (h.below hb) k; rwa [hx] at this
  by_cases h30 : n = 30
  · have e1 : s.lab k fs = (x, (s.txt k).2.no s.pk.p 8) := by unfold PS.lab; rw [if_pos (hl.trans h30), hx]
    rw [e1]
    subst h30
    clear h hp hR hf hl e1 hx
    go_enter Tryz.func211, Tryz.ntmps211
    go_wp2_with (first | (go_at_call 46; refine HPK.out.mono ?_; rintro e w1 ⟨rfl, hb1⟩; have HB1 := Lib.hid hb1; clear hb1) | (go_at_call 82; refine (HT.out _ HB1.out).mono ?_; rintro e w2 ⟨rfl, h2, k2⟩; have H2 := Lib.hid (h2.alloc (.cells #[.string x] 9)); have K2 := Lib.hid (((Kpt.of_below (b := b) hlt HB1.out).trans k2).alloc h2.rlt (.cells #[.string x] 9)); have L2 := Lib.hid (Loc.new h2 #[.string x] 9); clear h2 k2) | (go_at_call 47; refine (refuse_any H2.out _ 8).mono ?_; rintro e w3 ⟨rfl, h3, k3⟩; have H3 := Lib.hid h3; have K3 := Lib.hid (K2.out.trans k3); have d0 := ((L2.out.kpt k3).cell 0).trans rfl; clear h3 k3))
    go_ret
    exact ⟨rfl, H3.out, K3.out⟩
  · have hnb : ((n : Int) == 30) = false := by have : (n : Int) ≠ 30 := by omega
                                               simpa using this
    by_cases hy : (fs.any fun y => y.nm.toList == x.toList) = true
    · have e1 : s.lab k fs = (x, (s.txt k).2.no s.pk.p 5) := by unfold PS.lab; rw [if_neg (by omega), hx, if_pos hy]
      rw [e1]
      have HC : Hid (∀ W bx, Below w.heap.size w W ∨ Kpt rb b w W -> w.heap.size <= bx -> bx < W.heap.size -> W.cell? ⟨bx, 0, none⟩ = some (.string x) -> Calls Tryz.prog 213 #[.slice FA n fc, .func (.func 214) #[] #[.pointer (some ⟨bx, 0, none⟩)]] W fun e w' => e = .returned (.bool true) /\ Below W.heap.size W w') := Lib.hid fun W bx hW h1 h2 h3 => by
        have hk : Kpt rb b w W := hW.elim (fun hb => Kpt.of_below hlt hb) id
        exact contl_any _ fs n fc bx FA W true hy (Lib.hid hl) hn (Lib.hid (ownF_at (ownF_kpt hf h hk) rfl hl)) (Lib.hid fun w1 f hb => label1_any f x bx w1 ((hb.cell (p := ⟨bx, 0, none⟩) h2).trans h3) (Nat.lt_of_lt_of_le h2 hb.size))
      clear h hp hR hf hl e1 hx hy h30
      go_enter Tryz.func211, Tryz.ntmps211
      go_wp2_with (first | (go_at_call 46; refine HPK.out.mono ?_; rintro e w1 ⟨rfl, hb1⟩; have HB1 := Lib.hid hb1; clear hb1) | (go_at_call 82; refine (HT.out _ HB1.out).mono ?_; rintro e w2 ⟨rfl, h2, k2⟩; have hz2 : w.heap.size <= w2.heap.size := Nat.le_trans HB1.out.size k2.fr.size; have H2 := Lib.hid (h2.alloc (.cells #[.string x] 9)); have K2 := Lib.hid (((Kpt.of_below (b := b) hlt HB1.out).trans k2).alloc h2.rlt (.cells #[.string x] 9)); have L2 := Lib.hid (Loc.new h2 #[.string x] 9); clear h2 k2) | (go_at_call 213; refine (HC.out _ w2.heap.size (.inr K2.out) hz2 (by simp) ((L2.out.cell 0).trans rfl)).mono ?_; rintro e w3 ⟨rfl, hb3⟩; have H3 := Lib.hid (H2.out.below hb3); have L3 := Lib.hid (L2.out.kpt (Kpt.of_below H2.out.rlt hb3)); have K3 := Lib.hid (K2.out.trans (Kpt.of_below H2.out.rlt hb3)); clear hb3) | (go_at_call 47; refine (refuse_any H3.out _ 5).mono ?_; rintro e w4 ⟨rfl, h4, k4⟩; have H4 := Lib.hid h4; have K4 := Lib.hid (K3.out.trans k4); have d0 := ((L3.out.kpt k4).cell 0).trans rfl; clear h4 k4))
      go_ret
      exact ⟨rfl, H4.out, K4.out⟩
    · have e1 : s.lab k fs = (x, (s.txt k).2) := by unfold PS.lab; rw [if_neg (by omega), hx, if_neg hy]; exact Prod.ext hx rfl
      rw [e1]
      have HC : Hid (∀ W bx, Below w.heap.size w W ∨ Kpt rb b w W -> w.heap.size <= bx -> bx < W.heap.size -> W.cell? ⟨bx, 0, none⟩ = some (.string x) -> Calls Tryz.prog 213 #[.slice FA n fc, .func (.func 214) #[] #[.pointer (some ⟨bx, 0, none⟩)]] W fun e w' => e = .returned (.bool false) /\ Below W.heap.size W w') := Lib.hid fun W bx hW h1 h2 h3 => by
        have hk : Kpt rb b w W := hW.elim (fun hb => Kpt.of_below hlt hb) id
        exact contl_any _ fs n fc bx FA W false (Bool.eq_false_iff.2 hy) (Lib.hid hl) hn (Lib.hid (ownF_at (ownF_kpt hf h hk) rfl hl)) (Lib.hid fun w1 f hb => label1_any f x bx w1 ((hb.cell (p := ⟨bx, 0, none⟩) h2).trans h3) (Nat.lt_of_lt_of_le h2 hb.size))
      clear h hp hR hf hl e1 hx hy h30
      go_enter Tryz.func211, Tryz.ntmps211
      go_wp2_with (first | (go_at_call 46; refine HPK.out.mono ?_; rintro e w1 ⟨rfl, hb1⟩; have HB1 := Lib.hid hb1; clear hb1) | (go_at_call 82; refine (HT.out _ HB1.out).mono ?_; rintro e w2 ⟨rfl, h2, k2⟩; have hz2 : w.heap.size <= w2.heap.size := Nat.le_trans HB1.out.size k2.fr.size; have H2 := Lib.hid (h2.alloc (.cells #[.string x] 9)); have K2 := Lib.hid (((Kpt.of_below (b := b) hlt HB1.out).trans k2).alloc h2.rlt (.cells #[.string x] 9)); have L2 := Lib.hid (Loc.new h2 #[.string x] 9); clear h2 k2) | (go_at_call 213; refine (HC.out _ w2.heap.size (.inr K2.out) hz2 (by simp) ((L2.out.cell 0).trans rfl)).mono ?_; rintro e w3 ⟨rfl, hb3⟩; have H3 := Lib.hid (H2.out.below hb3); have d0 := ((L2.out.kpt (Kpt.of_below H2.out.rlt hb3)).cell 0).trans rfl; have K3 := Lib.hid (K2.out.trans (Kpt.of_below H2.out.rlt hb3)); clear hb3))
      go_ret
      exact ⟨rfl, H3.out, K3.out⟩
end
open T Go.RowKit Go.Shelf
attribute [local go_sem] field_p field_s field_n
section
variable {Av : Nat -> Prop} {B rb b : Nat} {w w' : World} {s s' : PS}
theorem begins_pk (s : PS) : begins s.l = if s.pk.k = 4 ∨ s.pk.k = 5 ∨ s.pk.k = 2 then true else if s.pk.k = 1 then (s.pk.s.toList == w_true || s.pk.s.toList == w_false || s.pk.s.toList == w_case) else (s.is 7 s_lpar || s.is 7 s_lbra) := by
  rw [pk_eq]
  unfold PS.is
  cases s.l with
  | nil => simp [begins, hdT, kindT, isT]
  | cons t l =>
    simp only [begins, hdT, kindT, isT]
    by_cases h4 : t.k = 4
    · simp [h4]
    by_cases h5 : t.k = 5
    · simp [h5]
    by_cases h2 : t.k = 2
    · simp [h2]
    by_cases h1 : t.k = 1
    · simp [h1, Bool.or_assoc]
    · simp [h4, h5, h2, h1]
theorem mk_list (a : Array UInt8) : (ByteArray.mk a).toList = a.toList := by simp [ByteArray.toList_eq]
theorem isAny2 (s : PS) (x y : List UInt8) : ([(⟨x.toArray⟩ : ByteArray), ⟨y.toArray⟩].any fun z => s.is 7 z.toList) = (s.is 7 x || s.is 7 y) := by simp [mk_list]
theorem sign_at (h : St Av B rb b w s) {x : ByteArray} {l : List UInt8} (hx : x.toList = l) : Calls Tryz.prog 200 #[.pointer (some ⟨rb, 0, none⟩), .string x] w (BPost Av B rb b w (s.is 7 l) (s.tk 7 l)) := by subst hx; exact sign_any h x
theorem word_at (h : St Av B rb b w s) {x : ByteArray} {l : List UInt8} (hx : x.toList = l) : Calls Tryz.prog 49 #[.pointer (some ⟨rb, 0, none⟩), .string x] w (BPost Av B rb b w (s.is 1 l) (s.tk 1 l)) := by subst hx; exact word_any h x
theorem must_at (h : St Av B rb b w s) (k : Int) {x : ByteArray} {l : List UInt8} (hx : x.toList = l) (hk0 : k ≠ 0) (hk4 : k ≠ 4) : Calls Tryz.prog 83 #[.pointer (some ⟨rb, 0, none⟩), .int .i64 k, .string x] w (VPost Av B rb b w (s.must k l)) := by subst hx; exact must_any h k x hk0 hk4
theorem isAtom_any (h : St Av B rb b w s) : Calls Tryz.prog 182 #[.pointer (some ⟨rb, 0, none⟩)] w fun e w' => e = .returned (.bool (begins s.l)) /\ Below w.heap.size w w' := by
  obtain ⟨p, v, hp, hR⟩ := h.rb_
  obtain ⟨c0, c1, c2, c3, c4⟩ := hp.cells
  have hlt := h.rlt
  have HPK := Lib.hid (peek_s h hp)
  have H := Lib.hid h
  rw [begins_pk]
  have key : ∀ c : Int, s.pk.k = c -> (s.pk.k == c) = true := fun l h => by simpa using h
  have nay : ∀ c : Int, s.pk.k ≠ c -> (s.pk.k == c) = false := fun l h => by simpa using h
  by_cases h4 : s.pk.k = 4
  · rw [if_pos (.inl h4)]
    have a1 := key _ h4
    clear h hp hR key nay h4
    go_enter Tryz.func182, Tryz.ntmps182
    go_wp2_with (go_at_call 46; refine HPK.out.mono ?_; rintro e w1 ⟨rfl, hb1⟩; have hb := hb1.alloc hb1.size (.cells #[.int .i64 s.pk.k, .string s.pk.s, .int .i64 s.pk.n, .int .i64 s.pk.p] 63); have HB := Lib.hid hb; clear hb hb1)
    go_ret
    exact ⟨rfl, HB.out⟩
  by_cases h5 : s.pk.k = 5
  · rw [if_pos (.inr (.inl h5))]
    have a0 := nay _ h4
    have a1 := key _ h5
    clear h hp hR key nay h4 h5
    go_enter Tryz.func182, Tryz.ntmps182
    go_wp2_with (go_at_call 46; refine HPK.out.mono ?_; rintro e w1 ⟨rfl, hb1⟩; have hb := hb1.alloc hb1.size (.cells #[.int .i64 s.pk.k, .string s.pk.s, .int .i64 s.pk.n, .int .i64 s.pk.p] 63); have HB := Lib.hid hb; clear hb hb1)
    go_ret
    exact ⟨rfl, HB.out⟩
  by_cases h2 : s.pk.k = 2
  · rw [if_pos (.inr (.inr h2))]
    have a0 := nay _ h4
    have a1 := nay _ h5
    have a2 := key _ h2
    clear h hp hR key nay h4 h5 h2
    go_enter Tryz.func182, Tryz.ntmps182
    go_wp2_with (go_at_call 46; refine HPK.out.mono ?_; rintro e w1 ⟨rfl, hb1⟩; have hb := hb1.alloc hb1.size (.cells #[.int .i64 s.pk.k, .string s.pk.s, .int .i64 s.pk.n, .int .i64 s.pk.p] 63); have HB := Lib.hid hb; clear hb hb1)
    go_ret
    exact ⟨rfl, HB.out⟩
  rw [if_neg (by rintro (h | h | h); exact h4 h; exact h5 h; exact h2 h)]
  have a0 := nay _ h4
  have a1 := nay _ h5
  have a2 := nay _ h2
  by_cases h1 : s.pk.k = 1
  · rw [if_pos h1]
    have a3 := key _ h1
    obtain ⟨t1, e1⟩ : ∃ t, (s.pk.s.toList == [116, 114, 117, 101]) = t := ⟨_, rfl⟩
    obtain ⟨t2, e2⟩ : ∃ t, (s.pk.s.toList == [102, 97, 108, 115, 101]) = t := ⟨_, rfl⟩
    obtain ⟨t3, e3⟩ : ∃ t, (s.pk.s.toList == [99, 97, 115, 101]) = t := ⟨_, rfl⟩
    rw [show (s.pk.s.toList == w_true) = t1 from e1, show (s.pk.s.toList == w_false) = t2 from e2, show (s.pk.s.toList == w_case) = t3 from e3]
    clear h hp hR key nay h4 h5 h2 h1
    cases t1 <;> cases t2 <;> cases t3
    all_goals
      go_enter Tryz.func182, Tryz.ntmps182
      go_wp2_with (go_at_call 46; refine HPK.out.mono ?_; rintro e w1 ⟨rfl, hb1⟩; have hb := hb1.alloc hb1.size (.cells #[.int .i64 s.pk.k, .string s.pk.s, .int .i64 s.pk.n, .int .i64 s.pk.p] 63); have HB := Lib.hid hb; clear hb hb1)
      go_ret
      exact ⟨rfl, HB.out⟩
  · rw [if_neg h1]
    have a3 := nay _ h1
    have HI : Hid (∀ W g, Below w.heap.size w W -> g < W.heap.size -> TxRow W g 0 [⟨#[40]⟩, ⟨#[123]⟩] -> Calls Tryz.prog 86 #[.pointer (some ⟨rb, 0, none⟩), .slice (some ⟨g, 0, none⟩) 2 2] W fun e w' => e = .returned (.bool (s.is 7 s_lpar || s.is 7 s_lbra)) /\ Below W.heap.size W w') := Lib.hid fun W g hb hg hr =>
      isSign_any (h.below hb) [⟨#[40]⟩, ⟨#[123]⟩] 2 2 g 0 _ (isAny2 s [40] [123]) rfl (by decide) hg hr
    obtain ⟨t, ht⟩ : ∃ t, (s.is 7 s_lpar || s.is 7 s_lbra) = t := ⟨_, rfl⟩
    rw [ht] at HI ⊢
    clear h hp hR key nay h4 h5 h2 h1 ht
    go_enter Tryz.func182, Tryz.ntmps182
    go_wp2_with (first | (go_at_call 46; refine HPK.out.mono ?_; rintro e w1 ⟨rfl, hb1⟩; have hb := (hb1.alloc hb1.size (.cells #[.int .i64 s.pk.k, .string s.pk.s, .int .i64 s.pk.n, .int .i64 s.pk.p] 63)).alloc (by have := hb1.size; simp; omega) (.cells #[.string ⟨#[40]⟩, .string ⟨#[123]⟩] 9); have HB := Lib.hid hb; clear hb hb1) | (go_at_call 86; refine (HI.out _ _ HB.out (by simp) (tx_two _ _ _ _ _ (by simp))).mono ?_; rintro e w2 ⟨rfl, hb2⟩))
    go_ret
    exact ⟨rfl, HB.out.trans (hb2.mono HB.out.size)⟩
end
open T Go.RowKit Go.Shelf
attribute [local go_sem] field_p field_s field_n
abbrev Z9 : Array Value := #[.int .i64 0, .int .i64 0, .int .i64 0, .int .i64 0, .int .i64 0, .string ⟨#[]⟩, .string ⟨#[]⟩, .slice none 0 0, .int .i64 0]
structure LeafAt (Av : Nat -> Prop) (B rb b : Nat) (w W : World) (s : PS) (t : Tk) (kR kT kN : Nat) (y : Nd) : Prop where
  st : St Av B rb b W s
  kp : Kpt rb b w W
  lr : Loc rb b W kR (Z9) 37
  lt : Loc rb b W kT (tkArr t) 63
  ln : Loc rb b W kN (ndArr y (.slice none 0 0)) 37
  hr : w.heap.size <= kR
  hn : w.heap.size <= kN
  ne : kR ≠ kN
  hB : B <= w.heap.size
section
variable {Av : Nat -> Prop} {B rb b : Nat} {w w' W W' : World} {s s' : PS} {t : Tk} {kR kT kN : Nat} {y : Nd}
theorem LeafAt.next (h : LeafAt Av B rb b w W s t kR kT kN y) (hs : St Av B rb b W' s') (hk : Kpt rb b W W') : LeafAt Av B rb b w W' s' t kR kT kN y :=
  ⟨hs, h.kp.trans hk, h.lr.kpt hk, h.lt.kpt hk, h.ln.kpt hk, h.hr, h.hn, h.ne, h.hB⟩
theorem LeafAt.facts (h : LeafAt Av B rb b w W s t kR kT kN y) : (W.cell? ⟨kT, 0, none⟩ = some (.int .i64 t.k) /\ W.cell? ⟨kT, 1, none⟩ = some (.string t.s) /\ W.cell? ⟨kT, 2, none⟩ = some (.int .i64 t.n) /\ W.cell? ⟨kT, 3, none⟩ = some (.int .i64 t.p)) /\ (∀ j, W.frozen? ⟨kN, j, none⟩ = false) /\ ∀ j, W.frozen? ⟨kR, j, none⟩ = false :=
  ⟨⟨h.lt.cell 0, h.lt.cell 1, h.lt.cell 2, h.lt.cell 3⟩, fun j => h.ln.frozen j, fun j => h.lr.frozen j⟩
theorem leaf_start (h : St Av B rb b w s) {w1 : World} (hb : Below (w.alloc (.cells Z9 37)).heap.size (w.alloc (.cells Z9 37)) w1) (t : Tk) (p : Int) :
    LeafAt Av B rb b w ((w1.alloc (.cells #[.int .i64 t.k, .string t.s, .int .i64 t.n, .int .i64 t.p] 63)).alloc (.cells #[.int .i64 0, .int .i64 0, .int .i64 0, .int .i64 0, .int .i64 0, .string ⟨#[]⟩, .string ⟨#[]⟩, .slice none 0 0, .int .i64 p] 37)) s t w.heap.size w1.heap.size (w1.heap.size + 1) ⟨0, 0, 0, 0, 0, ⟨#[]⟩, ⟨#[]⟩, [], p⟩ := by
  have h0 := h.alloc (.cells Z9 37)
  have h1 := h0.below hb
  have h2 := h1.alloc (.cells (tkArr t) 63)
  have l0 := (Loc.new h (Z9) 37).kpt (Kpt.of_below h0.rlt hb)
  have hz := hb.size
  simp only [World.size_alloc] at hz
  refine ⟨h2.alloc _, (((Kpt.refl rb b w).alloc h.rlt _).trans (Kpt.of_below h0.rlt hb)).alloc h1.rlt _ |>.alloc h2.rlt _, (l0.alloc h1.rlt _).alloc h2.rlt _, (Loc.new h1 _ _).alloc h2.rlt _, ?_, Nat.le_refl _, by omega, by omega, h.hB⟩
  have := Loc.new h2 (ndArr ⟨0, 0, 0, 0, 0, ⟨#[]⟩, ⟨#[]⟩, [], p⟩ (.slice none 0 0)) 37
  simp only [World.size_alloc] at this
  exact this
theorem put9 (h : St Av B rb b W s) {k : Nat} {cs : Array Value} (hl : Loc rb b W k cs 37) (hk : B <= k) (v0 v1 v2 v3 v4 v5 v6 v7 v8 : Value) :
    St Av B rb b (((((((((W.setCell ⟨k, 0, none⟩ v0).setCell ⟨k, 1, none⟩ v1).setCell ⟨k, 2, none⟩ v2).setCell ⟨k, 3, none⟩ v3).setCell ⟨k, 4, none⟩ v4).setCell ⟨k, 5, none⟩ v5).setCell ⟨k, 6, none⟩ v6).setCell ⟨k, 7, none⟩ v7).setCell ⟨k, 8, none⟩ v8) s :=
  have a0 := h.loc hl (by decide) hk (j := 0) v0
  have b0 := hl.set (j := 0) v0
  have a1 := a0.loc b0 (by decide) hk (j := 1) v1
  have b1 := b0.set (j := 1) v1
  have a2 := a1.loc b1 (by decide) hk (j := 2) v2
  have b2 := b1.set (j := 2) v2
  have a3 := a2.loc b2 (by decide) hk (j := 3) v3
  have b3 := b2.set (j := 3) v3
  have a4 := a3.loc b3 (by decide) hk (j := 4) v4
  have b4 := b3.set (j := 4) v4
  have a5 := a4.loc b4 (by decide) hk (j := 5) v5
  have b5 := b4.set (j := 5) v5
  have a6 := a5.loc b5 (by decide) hk (j := 6) v6
  have b6 := b5.set (j := 6) v6
  have a7 := a6.loc b6 (by decide) hk (j := 7) v7
  have b7 := b6.set (j := 7) v7
  a7.loc b7 (by decide) hk (j := 8) v8
theorem kput9 (h : Kpt rb b w W) (hr : rb < w.heap.size) {k : Nat} (hk : w.heap.size <= k) (v0 v1 v2 v3 v4 v5 v6 v7 v8 : Value) :
    Kpt rb b w (((((((((W.setCell ⟨k, 0, none⟩ v0).setCell ⟨k, 1, none⟩ v1).setCell ⟨k, 2, none⟩ v2).setCell ⟨k, 3, none⟩ v3).setCell ⟨k, 4, none⟩ v4).setCell ⟨k, 5, none⟩ v5).setCell ⟨k, 6, none⟩ v6).setCell ⟨k, 7, none⟩ v7).setCell ⟨k, 8, none⟩ v8) :=
  ((((((((h.set v0 hk hr).set v1 hk hr).set v2 hk hr).set v3 hk hr).set v4 hk hr).set v5 hk hr).set v6 hk hr).set v7 hk hr).set v8 hk hr
def LSet (Av : Nat -> Prop) (B rb b : Nat) (w W : World) (s : PS) (kR kN : Nat) : Prop := ∃ cs, St Av B rb b W s /\ Kpt rb b w W /\ Loc rb b W kR Z9 37 /\ Loc rb b W kN cs 37 /\ w.heap.size <= kR /\ w.heap.size <= kN /\ kR ≠ kN /\ B <= w.heap.size
theorem LeafAt.toL (h : LeafAt Av B rb b w W s t kR kT kN y) : LSet Av B rb b w W s kR kN := ⟨_, h.st, h.kp, h.lr, h.ln, h.hr, h.hn, h.ne, h.hB⟩
theorem LSet.set (h : LSet Av B rb b w W s kR kN) (j : Nat) (v : Value) : LSet Av B rb b w (W.setCell ⟨kN, j, none⟩ v) s kR kN := by
  obtain ⟨cs, h1, h2, h3, h4, h5, h6, h7, h8⟩ := h
  have hrb := h1.hrb
  exact ⟨_, h1.loc h4 (by decide) (by omega) v, h2.set v h6 (by omega), h3.far v (Ne.symm h7) h4.2.1, h4.set v, h5, h6, h7, h8⟩
theorem LSet.fin (h : LSet Av B rb b w W s kR kN) (v0 v1 v2 v3 v4 v5 v6 v7 v8 : Value) :
    St Av B rb b (((((((((W.setCell ⟨kR, 0, none⟩ v0).setCell ⟨kR, 1, none⟩ v1).setCell ⟨kR, 2, none⟩ v2).setCell ⟨kR, 3, none⟩ v3).setCell ⟨kR, 4, none⟩ v4).setCell ⟨kR, 5, none⟩ v5).setCell ⟨kR, 6, none⟩ v6).setCell ⟨kR, 7, none⟩ v7).setCell ⟨kR, 8, none⟩ v8) s /\
    Kpt rb b w (((((((((W.setCell ⟨kR, 0, none⟩ v0).setCell ⟨kR, 1, none⟩ v1).setCell ⟨kR, 2, none⟩ v2).setCell ⟨kR, 3, none⟩ v3).setCell ⟨kR, 4, none⟩ v4).setCell ⟨kR, 5, none⟩ v5).setCell ⟨kR, 6, none⟩ v6).setCell ⟨kR, 7, none⟩ v7).setCell ⟨kR, 8, none⟩ v8) := by
  obtain ⟨cs, h1, h2, h3, h4, h5, h6, h7, h8⟩ := h
  have hrb := h1.hrb
  exact ⟨put9 h1 h3 (by omega) _ _ _ _ _ _ _ _ _, kput9 h2 (by omega) h5 _ _ _ _ _ _ _ _ _⟩
def NPost (Av : Nat -> Prop) (B rb b : Nat) (w : World) (y : Nd) (s' : PS) (e : Ending) (w' : World) : Prop := e = .returned (.agg (ndArr y (.slice none 0 0))) /\ St Av B rb b w' s' /\ Kpt rb b w w'
end
section
variable {Av : Nat -> Prop} {B rb b : Nat} {w : World} {s : PS}
theorem tk_no {W : World} {x : List UInt8} (h : St Av B rb b W (s.tk 1 x)) (hx : Hid (s.is 1 x = false)) : St Av B rb b W s := by
  unfold PS.tk at h
  rwa [if_neg (by rw [hx.out]; decide)] at h
theorem leaf_true (h : St Av B rb b w s) (hw1 : s.is 1 w_true = true) : Calls Tryz.prog 207 #[.pointer (some ⟨rb, 0, none⟩)] w (NPost Av B rb b w ({ mk 2 s.pk.p with n := 1 }) (s.nx)) := by
  obtain ⟨p, v, hp, _⟩ := (h.alloc (.cells Z9 37)).rb_
  obtain ⟨c0, c1, c2, c3, c4⟩ := hp.cells
  have HPK := Lib.hid (peek_s (h.alloc (.cells Z9 37)) hp)
  have H := Lib.hid h
  have HS := Lib.hid h.pksz
  have HTK : Hid (s.tk 1 w_true = s.nx) := Lib.hid (by unfold PS.tk; rw [if_pos hw1])
  have g0 : s.is 1 #[116, 114, 117, 101].toList = true := hw1
  clear h hp
  go_enter Tryz.func207, Tryz.ntmps207
  go_wp2_with (first | (go_at_call 49; (with_reducible refine (word_at HA1.out.st (mk_list #[116, 114, 117, 101])).mono ?_); rintro e w2 ⟨rfl, h2, k2⟩; have HA2 := Lib.hid (HA1.out.next h2 k2); obtain ⟨⟨t0, t1, t2, t3⟩, fn, fr⟩ := HA2.out.facts; obtain ⟨q0, q1, q2, q3, q4, q5, q6, q7, q8⟩ := nd_cells HA2.out.ln.1; obtain ⟨r0, r1, r2, r3, r4, r5, r6, r7, r8⟩ := nd_cells (x := ⟨0, 0, 0, 0, 0, ⟨#[]⟩, ⟨#[]⟩, [], 0⟩) (v := .slice none 0 0) HA2.out.lr.1; obtain ⟨p2, v2, hp2, _⟩ := HA2.out.st.rb_; have HP2 := Lib.hid hp2; obtain ⟨c0, c1, c2, c3, c4⟩ := hp2.cells; clear hp2; clear h2 k2) | (go_at_call 46; refine (HPK.out).mono ?_; rintro e w1 ⟨rfl, hb1⟩; have hz1 : ¬ (w.heap.size = w1.heap.size + 1) := (by have := hb1.size; simp at this; omega); have hz2 : ¬ (w1.heap.size + 1 = w.heap.size) := (by omega); have HA1 := Lib.hid (leaf_start H.out hb1 s.pk s.pk.p); obtain ⟨⟨t0, t1, t2, t3⟩, fn, fr⟩ := HA1.out.facts; obtain ⟨q0, q1, q2, q3, q4, q5, q6, q7, q8⟩ := nd_cells HA1.out.ln.1; obtain ⟨r0, r1, r2, r3, r4, r5, r6, r7, r8⟩ := nd_cells (x := ⟨0, 0, 0, 0, 0, ⟨#[]⟩, ⟨#[]⟩, [], 0⟩) (v := .slice none 0 0) HA1.out.lr.1; obtain ⟨p1, v1, hp1, _⟩ := HA1.out.st.rb_; have HP1 := Lib.hid hp1; obtain ⟨c0, c1, c2, c3, c4⟩ := hp1.cells; clear hp1; clear hb1))
  have HL := HA2.out.toL
  rw [show s.tk 1 #[116, 114, 117, 101].toList = s.nx from HTK.out] at HL
  exact bodyPost_ret (v := .agg (ndArr ⟨2, 0, 0, 0, 1, ⟨#[]⟩, ⟨#[]⟩, [], s.pk.p⟩ (.slice none 0 0))) (by simp [results, Tryz.results207, go_sem, ndArr, r0, r1, r2, r3, r4, r5, r6, r7, r8]) rfl ⟨rfl, (LSet.fin ((HL.set _ _).set _ _) _ _ _ _ _ _ _ _ _).1, (LSet.fin ((HL.set _ _).set _ _) _ _ _ _ _ _ _ _ _).2⟩
theorem leaf_false (h : St Av B rb b w s) (nw1 : s.is 1 w_true = false) (hw2 : s.is 1 w_false = true) : Calls Tryz.prog 207 #[.pointer (some ⟨rb, 0, none⟩)] w (NPost Av B rb b w (mk 2 s.pk.p) (s.nx)) := by
  obtain ⟨p, v, hp, _⟩ := (h.alloc (.cells Z9 37)).rb_
  obtain ⟨c0, c1, c2, c3, c4⟩ := hp.cells
  have HPK := Lib.hid (peek_s (h.alloc (.cells Z9 37)) hp)
  have H := Lib.hid h
  have HS := Lib.hid h.pksz
  have hX1 := Lib.hid nw1
  have HTK : Hid (s.tk 1 w_false = s.nx) := Lib.hid (by unfold PS.tk; rw [if_pos hw2])
  have g0 : s.is 1 #[116, 114, 117, 101].toList = false := nw1
  have g1 : s.is 1 #[102, 97, 108, 115, 101].toList = true := hw2
  clear h hp
  go_enter Tryz.func207, Tryz.ntmps207
  go_wp2_with (first | (go_at_call 49; (with_reducible refine (word_at HA2.out.st (mk_list #[102, 97, 108, 115, 101])).mono ?_); rintro e w3 ⟨rfl, h3, k3⟩; have HA3 := Lib.hid (HA2.out.next h3 k3); obtain ⟨⟨t0, t1, t2, t3⟩, fn, fr⟩ := HA3.out.facts; obtain ⟨q0, q1, q2, q3, q4, q5, q6, q7, q8⟩ := nd_cells HA3.out.ln.1; obtain ⟨r0, r1, r2, r3, r4, r5, r6, r7, r8⟩ := nd_cells (x := ⟨0, 0, 0, 0, 0, ⟨#[]⟩, ⟨#[]⟩, [], 0⟩) (v := .slice none 0 0) HA3.out.lr.1; obtain ⟨p3, v3, hp3, _⟩ := HA3.out.st.rb_; have HP3 := Lib.hid hp3; obtain ⟨c0, c1, c2, c3, c4⟩ := hp3.cells; clear hp3; clear h3 k3) | (go_at_call 49; (with_reducible refine (word_at HA1.out.st (mk_list #[116, 114, 117, 101])).mono ?_); rintro e w2 ⟨rfl, h2, k2⟩; have HA2 : Hid (LeafAt Av B rb b w w2 s s.pk _ _ _ _) := Lib.hid (HA1.out.next (tk_no h2 hX1) k2); obtain ⟨⟨t0, t1, t2, t3⟩, fn, fr⟩ := HA2.out.facts; obtain ⟨q0, q1, q2, q3, q4, q5, q6, q7, q8⟩ := nd_cells HA2.out.ln.1; obtain ⟨r0, r1, r2, r3, r4, r5, r6, r7, r8⟩ := nd_cells (x := ⟨0, 0, 0, 0, 0, ⟨#[]⟩, ⟨#[]⟩, [], 0⟩) (v := .slice none 0 0) HA2.out.lr.1; obtain ⟨p2, v2, hp2, _⟩ := HA2.out.st.rb_; have HP2 := Lib.hid hp2; obtain ⟨c0, c1, c2, c3, c4⟩ := hp2.cells; clear hp2; clear h2 k2) | (go_at_call 46; refine (HPK.out).mono ?_; rintro e w1 ⟨rfl, hb1⟩; have hz1 : ¬ (w.heap.size = w1.heap.size + 1) := (by have := hb1.size; simp at this; omega); have hz2 : ¬ (w1.heap.size + 1 = w.heap.size) := (by omega); have HA1 := Lib.hid (leaf_start H.out hb1 s.pk s.pk.p); obtain ⟨⟨t0, t1, t2, t3⟩, fn, fr⟩ := HA1.out.facts; obtain ⟨q0, q1, q2, q3, q4, q5, q6, q7, q8⟩ := nd_cells HA1.out.ln.1; obtain ⟨r0, r1, r2, r3, r4, r5, r6, r7, r8⟩ := nd_cells (x := ⟨0, 0, 0, 0, 0, ⟨#[]⟩, ⟨#[]⟩, [], 0⟩) (v := .slice none 0 0) HA1.out.lr.1; obtain ⟨p1, v1, hp1, _⟩ := HA1.out.st.rb_; have HP1 := Lib.hid hp1; obtain ⟨c0, c1, c2, c3, c4⟩ := hp1.cells; clear hp1; clear hb1))
  have HL := HA3.out.toL
  rw [show s.tk 1 #[102, 97, 108, 115, 101].toList = s.nx from HTK.out] at HL
  exact bodyPost_ret (v := .agg (ndArr ⟨2, 0, 0, 0, 0, ⟨#[]⟩, ⟨#[]⟩, [], s.pk.p⟩ (.slice none 0 0))) (by simp [results, Tryz.results207, go_sem, ndArr, r0, r1, r2, r3, r4, r5, r6, r7, r8]) rfl ⟨rfl, (LSet.fin (HL.set _ _) _ _ _ _ _ _ _ _ _).1, (LSet.fin (HL.set _ _) _ _ _ _ _ _ _ _ _).2⟩
theorem leaf_num (h : St Av B rb b w s) (nw1 : s.is 1 w_true = false) (nw2 : s.is 1 w_false = false) (k4 : (s.pk.k == 4) = true) : Calls Tryz.prog 207 #[.pointer (some ⟨rb, 0, none⟩)] w (NPost Av B rb b w ({ mk 1 s.pk.p with n := s.pk.n }) (s.nx)) := by
  obtain ⟨p, v, hp, _⟩ := (h.alloc (.cells Z9 37)).rb_
  obtain ⟨c0, c1, c2, c3, c4⟩ := hp.cells
  have HPK := Lib.hid (peek_s (h.alloc (.cells Z9 37)) hp)
  have H := Lib.hid h
  have HS := Lib.hid h.pksz
  have hX1 := Lib.hid nw1
  have hX2 := Lib.hid nw2
  have g0 : s.is 1 #[116, 114, 117, 101].toList = false := nw1
  have g1 : s.is 1 #[102, 97, 108, 115, 101].toList = false := nw2
  clear h hp
  go_enter Tryz.func207, Tryz.ntmps207
  go_wp2_with (first | (go_at_call 49; (with_reducible refine (word_at HA2.out.st (mk_list #[102, 97, 108, 115, 101])).mono ?_); rintro e w3 ⟨rfl, h3, k3⟩; have HA3 : Hid (LeafAt Av B rb b w w3 s s.pk _ _ _ _) := Lib.hid (HA2.out.next (tk_no h3 hX2) k3); obtain ⟨⟨t0, t1, t2, t3⟩, fn, fr⟩ := HA3.out.facts; obtain ⟨q0, q1, q2, q3, q4, q5, q6, q7, q8⟩ := nd_cells HA3.out.ln.1; obtain ⟨r0, r1, r2, r3, r4, r5, r6, r7, r8⟩ := nd_cells (x := ⟨0, 0, 0, 0, 0, ⟨#[]⟩, ⟨#[]⟩, [], 0⟩) (v := .slice none 0 0) HA3.out.lr.1; obtain ⟨p3, v3, hp3, _⟩ := HA3.out.st.rb_; have HP3 := Lib.hid hp3; obtain ⟨c0, c1, c2, c3, c4⟩ := hp3.cells; clear hp3; clear h3 k3) | (go_at_call 49; (with_reducible refine (word_at HA1.out.st (mk_list #[116, 114, 117, 101])).mono ?_); rintro e w2 ⟨rfl, h2, k2⟩; have HA2 : Hid (LeafAt Av B rb b w w2 s s.pk _ _ _ _) := Lib.hid (HA1.out.next (tk_no h2 hX1) k2); obtain ⟨⟨t0, t1, t2, t3⟩, fn, fr⟩ := HA2.out.facts; obtain ⟨q0, q1, q2, q3, q4, q5, q6, q7, q8⟩ := nd_cells HA2.out.ln.1; obtain ⟨r0, r1, r2, r3, r4, r5, r6, r7, r8⟩ := nd_cells (x := ⟨0, 0, 0, 0, 0, ⟨#[]⟩, ⟨#[]⟩, [], 0⟩) (v := .slice none 0 0) HA2.out.lr.1; obtain ⟨p2, v2, hp2, _⟩ := HA2.out.st.rb_; have HP2 := Lib.hid hp2; obtain ⟨c0, c1, c2, c3, c4⟩ := hp2.cells; clear hp2; clear h2 k2) | (go_at_call 125; refine (next_s HA3.out.st HP3.out).mono ?_; rintro e w4 ⟨rfl, h4, k4⟩; have HA4 := Lib.hid (HA3.out.next h4 k4); obtain ⟨⟨t0, t1, t2, t3⟩, fn, fr⟩ := HA4.out.facts; obtain ⟨q0, q1, q2, q3, q4, q5, q6, q7, q8⟩ := nd_cells HA4.out.ln.1; obtain ⟨r0, r1, r2, r3, r4, r5, r6, r7, r8⟩ := nd_cells (x := ⟨0, 0, 0, 0, 0, ⟨#[]⟩, ⟨#[]⟩, [], 0⟩) (v := .slice none 0 0) HA4.out.lr.1; obtain ⟨p4, v4, hp4, _⟩ := HA4.out.st.rb_; have HP4 := Lib.hid hp4; obtain ⟨c0, c1, c2, c3, c4⟩ := hp4.cells; clear hp4; clear h4 k4) | (go_at_call 46; refine (HPK.out).mono ?_; rintro e w1 ⟨rfl, hb1⟩; have hz1 : ¬ (w.heap.size = w1.heap.size + 1) := (by have := hb1.size; simp at this; omega); have hz2 : ¬ (w1.heap.size + 1 = w.heap.size) := (by omega); have HA1 := Lib.hid (leaf_start H.out hb1 s.pk s.pk.p); obtain ⟨⟨t0, t1, t2, t3⟩, fn, fr⟩ := HA1.out.facts; obtain ⟨q0, q1, q2, q3, q4, q5, q6, q7, q8⟩ := nd_cells HA1.out.ln.1; obtain ⟨r0, r1, r2, r3, r4, r5, r6, r7, r8⟩ := nd_cells (x := ⟨0, 0, 0, 0, 0, ⟨#[]⟩, ⟨#[]⟩, [], 0⟩) (v := .slice none 0 0) HA1.out.lr.1; obtain ⟨p1, v1, hp1, _⟩ := HA1.out.st.rb_; have HP1 := Lib.hid hp1; obtain ⟨c0, c1, c2, c3, c4⟩ := hp1.cells; clear hp1; clear hb1))
  have HL := HA4.out.toL
  exact bodyPost_ret (v := .agg (ndArr ⟨1, 0, 0, 0, s.pk.n, ⟨#[]⟩, ⟨#[]⟩, [], s.pk.p⟩ (.slice none 0 0))) (by simp [results, Tryz.results207, go_sem, ndArr, r0, r1, r2, r3, r4, r5, r6, r7, r8]) rfl ⟨rfl, (LSet.fin ((HL.set _ _).set _ _) _ _ _ _ _ _ _ _ _).1, (LSet.fin ((HL.set _ _).set _ _) _ _ _ _ _ _ _ _ _).2⟩
theorem leaf_str (h : St Av B rb b w s) (nw1 : s.is 1 w_true = false) (nw2 : s.is 1 w_false = false) (n4 : (s.pk.k == 4) = false) (k5 : (s.pk.k == 5) = true) : Calls Tryz.prog 207 #[.pointer (some ⟨rb, 0, none⟩)] w (NPost Av B rb b w ({ mk 3 s.pk.p with s := s.pk.s }) (s.nx)) := by
  obtain ⟨p, v, hp, _⟩ := (h.alloc (.cells Z9 37)).rb_
  obtain ⟨c0, c1, c2, c3, c4⟩ := hp.cells
  have HPK := Lib.hid (peek_s (h.alloc (.cells Z9 37)) hp)
  have H := Lib.hid h
  have HS := Lib.hid h.pksz
  have hX1 := Lib.hid nw1
  have hX2 := Lib.hid nw2
  have g0 : s.is 1 #[116, 114, 117, 101].toList = false := nw1
  have g1 : s.is 1 #[102, 97, 108, 115, 101].toList = false := nw2
  clear h hp
  go_enter Tryz.func207, Tryz.ntmps207
  go_wp2_with (first | (go_at_call 49; (with_reducible refine (word_at HA2.out.st (mk_list #[102, 97, 108, 115, 101])).mono ?_); rintro e w3 ⟨rfl, h3, k3⟩; have HA3 : Hid (LeafAt Av B rb b w w3 s s.pk _ _ _ _) := Lib.hid (HA2.out.next (tk_no h3 hX2) k3); obtain ⟨⟨t0, t1, t2, t3⟩, fn, fr⟩ := HA3.out.facts; obtain ⟨q0, q1, q2, q3, q4, q5, q6, q7, q8⟩ := nd_cells HA3.out.ln.1; obtain ⟨r0, r1, r2, r3, r4, r5, r6, r7, r8⟩ := nd_cells (x := ⟨0, 0, 0, 0, 0, ⟨#[]⟩, ⟨#[]⟩, [], 0⟩) (v := .slice none 0 0) HA3.out.lr.1; obtain ⟨p3, v3, hp3, _⟩ := HA3.out.st.rb_; have HP3 := Lib.hid hp3; obtain ⟨c0, c1, c2, c3, c4⟩ := hp3.cells; clear hp3; clear h3 k3) | (go_at_call 49; (with_reducible refine (word_at HA1.out.st (mk_list #[116, 114, 117, 101])).mono ?_); rintro e w2 ⟨rfl, h2, k2⟩; have HA2 : Hid (LeafAt Av B rb b w w2 s s.pk _ _ _ _) := Lib.hid (HA1.out.next (tk_no h2 hX1) k2); obtain ⟨⟨t0, t1, t2, t3⟩, fn, fr⟩ := HA2.out.facts; obtain ⟨q0, q1, q2, q3, q4, q5, q6, q7, q8⟩ := nd_cells HA2.out.ln.1; obtain ⟨r0, r1, r2, r3, r4, r5, r6, r7, r8⟩ := nd_cells (x := ⟨0, 0, 0, 0, 0, ⟨#[]⟩, ⟨#[]⟩, [], 0⟩) (v := .slice none 0 0) HA2.out.lr.1; obtain ⟨p2, v2, hp2, _⟩ := HA2.out.st.rb_; have HP2 := Lib.hid hp2; obtain ⟨c0, c1, c2, c3, c4⟩ := hp2.cells; clear hp2; clear h2 k2) | (go_at_call 125; refine (next_s HA3.out.st HP3.out).mono ?_; rintro e w4 ⟨rfl, h4, k4⟩; have HA4 := Lib.hid (HA3.out.next h4 k4); obtain ⟨⟨t0, t1, t2, t3⟩, fn, fr⟩ := HA4.out.facts; obtain ⟨q0, q1, q2, q3, q4, q5, q6, q7, q8⟩ := nd_cells HA4.out.ln.1; obtain ⟨r0, r1, r2, r3, r4, r5, r6, r7, r8⟩ := nd_cells (x := ⟨0, 0, 0, 0, 0, ⟨#[]⟩, ⟨#[]⟩, [], 0⟩) (v := .slice none 0 0) HA4.out.lr.1; obtain ⟨p4, v4, hp4, _⟩ := HA4.out.st.rb_; have HP4 := Lib.hid hp4; obtain ⟨c0, c1, c2, c3, c4⟩ := hp4.cells; clear hp4; clear h4 k4) | (go_at_call 38; refine (T.clone_any _ HS.out _).mono ?_; rintro e w5 ⟨rfl, hb5⟩; have HA5 := Lib.hid (HA4.out.next (HA4.out.st.below hb5) (Kpt.of_below HA4.out.st.rlt hb5)); obtain ⟨⟨t0, t1, t2, t3⟩, fn, fr⟩ := HA5.out.facts; obtain ⟨q0, q1, q2, q3, q4, q5, q6, q7, q8⟩ := nd_cells HA5.out.ln.1; obtain ⟨r0, r1, r2, r3, r4, r5, r6, r7, r8⟩ := nd_cells (x := ⟨0, 0, 0, 0, 0, ⟨#[]⟩, ⟨#[]⟩, [], 0⟩) (v := .slice none 0 0) HA5.out.lr.1; obtain ⟨p5, v5, hp5, _⟩ := HA5.out.st.rb_; have HP5 := Lib.hid hp5; obtain ⟨c0, c1, c2, c3, c4⟩ := hp5.cells; clear hp5; clear hb5) | (go_at_call 46; refine (HPK.out).mono ?_; rintro e w1 ⟨rfl, hb1⟩; have hz1 : ¬ (w.heap.size = w1.heap.size + 1) := (by have := hb1.size; simp at this; omega); have hz2 : ¬ (w1.heap.size + 1 = w.heap.size) := (by omega); have HA1 := Lib.hid (leaf_start H.out hb1 s.pk s.pk.p); obtain ⟨⟨t0, t1, t2, t3⟩, fn, fr⟩ := HA1.out.facts; obtain ⟨q0, q1, q2, q3, q4, q5, q6, q7, q8⟩ := nd_cells HA1.out.ln.1; obtain ⟨r0, r1, r2, r3, r4, r5, r6, r7, r8⟩ := nd_cells (x := ⟨0, 0, 0, 0, 0, ⟨#[]⟩, ⟨#[]⟩, [], 0⟩) (v := .slice none 0 0) HA1.out.lr.1; obtain ⟨p1, v1, hp1, _⟩ := HA1.out.st.rb_; have HP1 := Lib.hid hp1; obtain ⟨c0, c1, c2, c3, c4⟩ := hp1.cells; clear hp1; clear hb1))
  have HL := HA5.out.toL
  exact bodyPost_ret (v := .agg (ndArr ⟨3, 0, 0, 0, 0, ⟨#[]⟩, s.pk.s, [], s.pk.p⟩ (.slice none 0 0))) (by simp [results, Tryz.results207, go_sem, ndArr, r0, r1, r2, r3, r4, r5, r6, r7, r8]) rfl ⟨rfl, (LSet.fin ((HL.set _ _).set _ _) _ _ _ _ _ _ _ _ _).1, (LSet.fin ((HL.set _ _).set _ _) _ _ _ _ _ _ _ _ _).2⟩
theorem leaf_name (h : St Av B rb b w s) (nw1 : s.is 1 w_true = false) (nw2 : s.is 1 w_false = false) (n4 : (s.pk.k == 4) = false) (n5 : (s.pk.k == 5) = false) (k2 : (s.pk.k == 2) = true) : Calls Tryz.prog 207 #[.pointer (some ⟨rb, 0, none⟩)] w (NPost Av B rb b w ({ mk 4 s.pk.p with nm := s.pk.s }) (s.nx)) := by
  obtain ⟨p, v, hp, _⟩ := (h.alloc (.cells Z9 37)).rb_
  obtain ⟨c0, c1, c2, c3, c4⟩ := hp.cells
  have HPK := Lib.hid (peek_s (h.alloc (.cells Z9 37)) hp)
  have H := Lib.hid h
  have HS := Lib.hid h.pksz
  have hX1 := Lib.hid nw1
  have hX2 := Lib.hid nw2
  have HTX : Hid (s.txt 2 = (s.pk.s, s.nx)) := Lib.hid (by unfold PS.txt; rw [if_pos (by simpa using k2)])
  have g0 : s.is 1 #[116, 114, 117, 101].toList = false := nw1
  have g1 : s.is 1 #[102, 97, 108, 115, 101].toList = false := nw2
  clear h hp
  go_enter Tryz.func207, Tryz.ntmps207
  go_wp2_with (first | (go_at_call 49; (with_reducible refine (word_at HA2.out.st (mk_list #[102, 97, 108, 115, 101])).mono ?_); rintro e w3 ⟨rfl, h3, k3⟩; have HA3 : Hid (LeafAt Av B rb b w w3 s s.pk _ _ _ _) := Lib.hid (HA2.out.next (tk_no h3 hX2) k3); obtain ⟨⟨t0, t1, t2, t3⟩, fn, fr⟩ := HA3.out.facts; obtain ⟨q0, q1, q2, q3, q4, q5, q6, q7, q8⟩ := nd_cells HA3.out.ln.1; obtain ⟨r0, r1, r2, r3, r4, r5, r6, r7, r8⟩ := nd_cells (x := ⟨0, 0, 0, 0, 0, ⟨#[]⟩, ⟨#[]⟩, [], 0⟩) (v := .slice none 0 0) HA3.out.lr.1; obtain ⟨p3, v3, hp3, _⟩ := HA3.out.st.rb_; have HP3 := Lib.hid hp3; obtain ⟨c0, c1, c2, c3, c4⟩ := hp3.cells; clear hp3; clear h3 k3) | (go_at_call 49; (with_reducible refine (word_at HA1.out.st (mk_list #[116, 114, 117, 101])).mono ?_); rintro e w2 ⟨rfl, h2, k2⟩; have HA2 : Hid (LeafAt Av B rb b w w2 s s.pk _ _ _ _) := Lib.hid (HA1.out.next (tk_no h2 hX1) k2); obtain ⟨⟨t0, t1, t2, t3⟩, fn, fr⟩ := HA2.out.facts; obtain ⟨q0, q1, q2, q3, q4, q5, q6, q7, q8⟩ := nd_cells HA2.out.ln.1; obtain ⟨r0, r1, r2, r3, r4, r5, r6, r7, r8⟩ := nd_cells (x := ⟨0, 0, 0, 0, 0, ⟨#[]⟩, ⟨#[]⟩, [], 0⟩) (v := .slice none 0 0) HA2.out.lr.1; obtain ⟨p2, v2, hp2, _⟩ := HA2.out.st.rb_; have HP2 := Lib.hid hp2; obtain ⟨c0, c1, c2, c3, c4⟩ := hp2.cells; clear hp2; clear h2 k2) | (go_at_call 82; refine (text_any HA3.out.st 2).mono ?_; rintro e w4 ⟨rfl, h4, k4⟩; rw [HTX.out] at h4 ⊢; have HA4 := Lib.hid (HA3.out.next h4 k4); obtain ⟨⟨t0, t1, t2, t3⟩, fn, fr⟩ := HA4.out.facts; obtain ⟨q0, q1, q2, q3, q4, q5, q6, q7, q8⟩ := nd_cells HA4.out.ln.1; obtain ⟨r0, r1, r2, r3, r4, r5, r6, r7, r8⟩ := nd_cells (x := ⟨0, 0, 0, 0, 0, ⟨#[]⟩, ⟨#[]⟩, [], 0⟩) (v := .slice none 0 0) HA4.out.lr.1; obtain ⟨p4, v4, hp4, _⟩ := HA4.out.st.rb_; have HP4 := Lib.hid hp4; obtain ⟨c0, c1, c2, c3, c4⟩ := hp4.cells; clear hp4; clear h4 k4) | (go_at_call 46; refine (HPK.out).mono ?_; rintro e w1 ⟨rfl, hb1⟩; have hz1 : ¬ (w.heap.size = w1.heap.size + 1) := (by have := hb1.size; simp at this; omega); have hz2 : ¬ (w1.heap.size + 1 = w.heap.size) := (by omega); have HA1 := Lib.hid (leaf_start H.out hb1 s.pk s.pk.p); obtain ⟨⟨t0, t1, t2, t3⟩, fn, fr⟩ := HA1.out.facts; obtain ⟨q0, q1, q2, q3, q4, q5, q6, q7, q8⟩ := nd_cells HA1.out.ln.1; obtain ⟨r0, r1, r2, r3, r4, r5, r6, r7, r8⟩ := nd_cells (x := ⟨0, 0, 0, 0, 0, ⟨#[]⟩, ⟨#[]⟩, [], 0⟩) (v := .slice none 0 0) HA1.out.lr.1; obtain ⟨p1, v1, hp1, _⟩ := HA1.out.st.rb_; have HP1 := Lib.hid hp1; obtain ⟨c0, c1, c2, c3, c4⟩ := hp1.cells; clear hp1; clear hb1))
  have HL := HA4.out.toL
  exact bodyPost_ret (v := .agg (ndArr ⟨4, 0, 0, 0, 0, s.pk.s, ⟨#[]⟩, [], s.pk.p⟩ (.slice none 0 0))) (by simp [results, Tryz.results207, go_sem, ndArr, r0, r1, r2, r3, r4, r5, r6, r7, r8]) rfl ⟨rfl, (LSet.fin ((HL.set _ _).set _ _) _ _ _ _ _ _ _ _ _).1, (LSet.fin ((HL.set _ _).set _ _) _ _ _ _ _ _ _ _ _).2⟩
theorem leaf_none (h : St Av B rb b w s) (nw1 : s.is 1 w_true = false) (nw2 : s.is 1 w_false = false) (n4 : (s.pk.k == 4) = false) (n5 : (s.pk.k == 5) = false) (n2 : (s.pk.k == 2) = false) : Calls Tryz.prog 207 #[.pointer (some ⟨rb, 0, none⟩)] w (NPost Av B rb b w (mk 0 s.pk.p) (s.no s.pk.p 5)) := by
  obtain ⟨p, v, hp, _⟩ := (h.alloc (.cells Z9 37)).rb_
  obtain ⟨c0, c1, c2, c3, c4⟩ := hp.cells
  have HPK := Lib.hid (peek_s (h.alloc (.cells Z9 37)) hp)
  have H := Lib.hid h
  have HS := Lib.hid h.pksz
  have hX1 := Lib.hid nw1
  have hX2 := Lib.hid nw2
  have g0 : s.is 1 #[116, 114, 117, 101].toList = false := nw1
  have g1 : s.is 1 #[102, 97, 108, 115, 101].toList = false := nw2
  clear h hp
  go_enter Tryz.func207, Tryz.ntmps207
  go_wp2_with (first | (go_at_call 49; (with_reducible refine (word_at HA2.out.st (mk_list #[102, 97, 108, 115, 101])).mono ?_); rintro e w3 ⟨rfl, h3, k3⟩; have HA3 : Hid (LeafAt Av B rb b w w3 s s.pk _ _ _ _) := Lib.hid (HA2.out.next (tk_no h3 hX2) k3); obtain ⟨⟨t0, t1, t2, t3⟩, fn, fr⟩ := HA3.out.facts; obtain ⟨q0, q1, q2, q3, q4, q5, q6, q7, q8⟩ := nd_cells HA3.out.ln.1; obtain ⟨r0, r1, r2, r3, r4, r5, r6, r7, r8⟩ := nd_cells (x := ⟨0, 0, 0, 0, 0, ⟨#[]⟩, ⟨#[]⟩, [], 0⟩) (v := .slice none 0 0) HA3.out.lr.1; obtain ⟨p3, v3, hp3, _⟩ := HA3.out.st.rb_; have HP3 := Lib.hid hp3; obtain ⟨c0, c1, c2, c3, c4⟩ := hp3.cells; clear hp3; clear h3 k3) | (go_at_call 49; (with_reducible refine (word_at HA1.out.st (mk_list #[116, 114, 117, 101])).mono ?_); rintro e w2 ⟨rfl, h2, k2⟩; have HA2 : Hid (LeafAt Av B rb b w w2 s s.pk _ _ _ _) := Lib.hid (HA1.out.next (tk_no h2 hX1) k2); obtain ⟨⟨t0, t1, t2, t3⟩, fn, fr⟩ := HA2.out.facts; obtain ⟨q0, q1, q2, q3, q4, q5, q6, q7, q8⟩ := nd_cells HA2.out.ln.1; obtain ⟨r0, r1, r2, r3, r4, r5, r6, r7, r8⟩ := nd_cells (x := ⟨0, 0, 0, 0, 0, ⟨#[]⟩, ⟨#[]⟩, [], 0⟩) (v := .slice none 0 0) HA2.out.lr.1; obtain ⟨p2, v2, hp2, _⟩ := HA2.out.st.rb_; have HP2 := Lib.hid hp2; obtain ⟨c0, c1, c2, c3, c4⟩ := hp2.cells; clear hp2; clear h2 k2) | (go_at_call 47; refine (refuse_any HA3.out.st _ 5).mono ?_; rintro e w4 ⟨rfl, h4, k4⟩; have HA4 := Lib.hid (HA3.out.next h4 k4); obtain ⟨⟨t0, t1, t2, t3⟩, fn, fr⟩ := HA4.out.facts; obtain ⟨q0, q1, q2, q3, q4, q5, q6, q7, q8⟩ := nd_cells HA4.out.ln.1; obtain ⟨r0, r1, r2, r3, r4, r5, r6, r7, r8⟩ := nd_cells (x := ⟨0, 0, 0, 0, 0, ⟨#[]⟩, ⟨#[]⟩, [], 0⟩) (v := .slice none 0 0) HA4.out.lr.1; obtain ⟨p4, v4, hp4, _⟩ := HA4.out.st.rb_; have HP4 := Lib.hid hp4; obtain ⟨c0, c1, c2, c3, c4⟩ := hp4.cells; clear hp4; clear h4 k4) | (go_at_call 46; refine (HPK.out).mono ?_; rintro e w1 ⟨rfl, hb1⟩; have hz1 : ¬ (w.heap.size = w1.heap.size + 1) := (by have := hb1.size; simp at this; omega); have hz2 : ¬ (w1.heap.size + 1 = w.heap.size) := (by omega); have HA1 := Lib.hid (leaf_start H.out hb1 s.pk s.pk.p); obtain ⟨⟨t0, t1, t2, t3⟩, fn, fr⟩ := HA1.out.facts; obtain ⟨q0, q1, q2, q3, q4, q5, q6, q7, q8⟩ := nd_cells HA1.out.ln.1; obtain ⟨r0, r1, r2, r3, r4, r5, r6, r7, r8⟩ := nd_cells (x := ⟨0, 0, 0, 0, 0, ⟨#[]⟩, ⟨#[]⟩, [], 0⟩) (v := .slice none 0 0) HA1.out.lr.1; obtain ⟨p1, v1, hp1, _⟩ := HA1.out.st.rb_; have HP1 := Lib.hid hp1; obtain ⟨c0, c1, c2, c3, c4⟩ := hp1.cells; clear hp1; clear hb1))
  have HL := HA4.out.toL
  exact bodyPost_ret (v := .agg (ndArr ⟨0, 0, 0, 0, 0, ⟨#[]⟩, ⟨#[]⟩, [], s.pk.p⟩ (.slice none 0 0))) (by simp [results, Tryz.results207, go_sem, ndArr, r0, r1, r2, r3, r4, r5, r6, r7, r8]) rfl ⟨rfl, (LSet.fin HL _ _ _ _ _ _ _ _ _).1, (LSet.fin HL _ _ _ _ _ _ _ _ _).2⟩
end
end Go.Proofs.YtjakeidbajkdcaaGreatDoor.A
