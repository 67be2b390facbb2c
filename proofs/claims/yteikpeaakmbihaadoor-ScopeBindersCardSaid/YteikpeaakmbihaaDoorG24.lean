/- Joined by program: PWithAny, RInts. -/
import Derived.Test.YteikpeaakmbihaaDoorG22
import Derived.Test.YteikpeaakmbihaaDoorG23
import Derived.Test.YteikpeaakmbihaaDoorG19
import Derived.Test.YteikpeaakmbihaaDoorG20
/- withKids, the program's, of whatever node. -/
namespace Go.Proofs.YteikpeaakmbihaaDoor.T
open Go.RowKit
def WithPost (y : Nd) (w : World) (e : Ending) (w' : World) : Prop := ∃ A c, e = .returned (.agg (ndArr y (.slice A y.l.length c))) ∧ OwnF w.heap.size w' (.slice A y.l.length c) y.l ∧ Below w.heap.size w w'
theorem own_eq (x : Nd) : own x = ownN x.kind := by
  have := ownN_le x.kind
  rw [own, kids_own, List.length_take]; simp; omega
/-- Texts that can be cloned. -/
def Clonable (x : Nd) : Prop := x.nm.size ≤ 281474976710656 ∧ x.s.size ≤ 281474976710656 ∧ x.l.length ≤ 1000000 ∧ ∀ f ∈ x.l, f.nm.size ≤ 281474976710656 ∧ f.vr.size ≤ 281474976710656
set_option maxHeartbeats 1000000 in
theorem with_any (x : Nd) (vl : Value) (ks : List Int) (gk ck : Nat) (w : World) (hv : Flds w.heap.size w vl x.l) (hks : ks.length = (kids x).length) (hr : Row0 w gk ks) (hgk : gk < w.heap.size) (hck : ks.length ≤ ck) (hS : Clonable x) :
    Calls Tryd.prog 47 #[.agg (ndArr x vl), .slice (some ⟨gk, 0, none⟩) ks.length ck] w (WithPost (wk x ks) w) := by
  have hlen : ks.length = ownN x.kind + (if many x = true then x.l.length else 0) := by
    rw [hks, kids, List.length_append]
    have h1 : (kids0 x).length = ownN x.kind := own_eq x
    rw [h1]
    split <;> simp
  have hH : ∀ (m : Nat), ownN x.kind = m → m ≤ ks.length → ∀ (a b c : Int) (A : Option Addr) (w1 : World), Below w.heap.size w w1 → (m < ck → A = some ⟨gk, m, none⟩) →
      Calls Tryd.prog 72 #[.agg (ndArr { x with a := a, b := b, c := c } vl), .slice A (ks.length - m) (ck - m)] w1 (PlPost (if many x = true then relab x.l (ks.drop m) else []) w1) := by
    intro m hm hmk a b c A w1 hb hA
    have := places_any x a b c vl (ks.drop m) A (ck - m) w1 ((hv.below hb).mono hb.size) hS.2.2.1 hS.2.2.2 (fun hp => by
      have : many x = true := hp
      rw [this, hm] at hlen
      simp at hlen ⊢; omega) (fun h0 => by
      simp at h0
      refine ⟨gk, m, hA (by omega), Nat.lt_of_lt_of_le hgk hb.size, fun j z hz => ?_⟩
      rw [List.getElem?_drop] at hz
      exact (hb.cell (p := ⟨gk, m + j, none⟩) hgk).trans (hr (m + j) z hz))
    rw [List.length_drop] at this
    exact this
  have hw : ∀ (a b c : Int), wk x ks = { x with a := a, b := b, c := c, l := if many x = true then relab x.l (ks.drop (ownN x.kind)) else [] } → ∀ e w', WPost (fun v => ndArr { x with a := a, b := b, c := c } v) (if many x = true then relab x.l (ks.drop (ownN x.kind)) else []) w e w' → WithPost (wk x ks) w e w' := by
    rintro a b c he e w' ⟨A, c', rfl, h2, h3⟩
    rw [he]
    exact ⟨A, c', rfl, h2, h3⟩
  have hwk : ∀ m, ownN x.kind = m → wk x ks = { x with a := if 0 < m then ks.getD 0 0 else 0, b := if 1 < m then ks.getD 1 0 else 0, c := if 2 < m then ks.getD 2 0 else 0, l := if many x = true then relab x.l (ks.drop (ownN x.kind)) else [] } := by
    intro m hm
    rw [wk, own_eq, hm]
  have hle := ownN_le x.kind
  obtain ⟨FA, fc, rfl, _⟩ := hv
  match hm : ownN x.kind, hle with
  | 0, _ =>
    have hl : 0 ≤ ks.length := by omega
    have h := wk_0 x.kind x.a x.b x.c x.n x.pos x.nm x.s FA x.l.length fc  ks.length gk ck (if many x = true then relab x.l (ks.drop 0) else []) (Lib.hid hm) hl hck ⟨hS.1, hS.2.1⟩ w hgk (Lib.hid (fun j z hz => by simp at hz)) (Lib.hid (fun A w1 hb hA => hH 0 hm hl 0 0 0 A w1 hb hA))
    refine h.mono fun e w' hp => hw 0 0 0 ?_ e w' (by rw [hm]; exact hp)
    rw [hwk 0 hm]
    simp
  | 1, _ =>
    have hl : 1 ≤ ks.length := by omega
    obtain ⟨k0, hk0⟩ : ∃ k, ks[0]? = some k := ⟨_, List.getElem?_eq_getElem (by omega)⟩
    have h := wk_1 x.kind x.a x.b x.c x.n x.pos x.nm x.s FA x.l.length fc k0 ks.length gk ck (if many x = true then relab x.l (ks.drop 1) else []) (Lib.hid hm) hl hck ⟨hS.1, hS.2.1⟩ w hgk (Lib.hid (fun j z hz => hr j z (by
      match j, hz with
      | 0, hz => rw [hk0]; exact hz
      | j + 1, hz => simp at hz))) (Lib.hid (fun A w1 hb hA => hH 1 hm hl k0 0 0 A w1 hb hA))
    refine h.mono fun e w' hp => hw k0 0 0 ?_ e w' (by rw [hm]; exact hp)
    rw [hwk 1 hm]
    simp [List.getD_eq_getElem?_getD, hk0]
  | 2, _ =>
    have hl : 2 ≤ ks.length := by omega
    obtain ⟨k0, hk0⟩ : ∃ k, ks[0]? = some k := ⟨_, List.getElem?_eq_getElem (by omega)⟩
    obtain ⟨k1, hk1⟩ : ∃ k, ks[1]? = some k := ⟨_, List.getElem?_eq_getElem (by omega)⟩
    have h := wk_2 x.kind x.a x.b x.c x.n x.pos x.nm x.s FA x.l.length fc k0 k1 ks.length gk ck (if many x = true then relab x.l (ks.drop 2) else []) (Lib.hid hm) hl hck ⟨hS.1, hS.2.1⟩ w hgk (Lib.hid (fun j z hz => hr j z (by
      match j, hz with
      | 0, hz => rw [hk0]; exact hz
      | 1, hz => rw [hk1]; exact hz
      | j + 2, hz => simp at hz))) (Lib.hid (fun A w1 hb hA => hH 2 hm hl k0 k1 0 A w1 hb hA))
    refine h.mono fun e w' hp => hw k0 k1 0 ?_ e w' (by rw [hm]; exact hp)
    rw [hwk 2 hm]
    simp [List.getD_eq_getElem?_getD, hk0, hk1]
  | 3, _ =>
    have hl : 3 ≤ ks.length := by omega
    obtain ⟨k0, hk0⟩ : ∃ k, ks[0]? = some k := ⟨_, List.getElem?_eq_getElem (by omega)⟩
    obtain ⟨k1, hk1⟩ : ∃ k, ks[1]? = some k := ⟨_, List.getElem?_eq_getElem (by omega)⟩
    obtain ⟨k2, hk2⟩ : ∃ k, ks[2]? = some k := ⟨_, List.getElem?_eq_getElem (by omega)⟩
    have h := wk_3 x.kind x.a x.b x.c x.n x.pos x.nm x.s FA x.l.length fc k0 k1 k2 ks.length gk ck (if many x = true then relab x.l (ks.drop 3) else []) (Lib.hid hm) hl hck ⟨hS.1, hS.2.1⟩ w hgk (Lib.hid (fun j z hz => hr j z (by
      match j, hz with
      | 0, hz => rw [hk0]; exact hz
      | 1, hz => rw [hk1]; exact hz
      | 2, hz => rw [hk2]; exact hz
      | j + 3, hz => simp at hz))) (Lib.hid (fun A w1 hb hA => hH 3 hm hl k0 k1 k2 A w1 hb hA))
    refine h.mono fun e w' hp => hw k0 k1 k2 ?_ e w' (by rw [hm]; exact hp)
    rw [hwk 3 hm]
    simp [List.getD_eq_getElem?_getD, hk0, hk1, hk2]
end Go.Proofs.YteikpeaakmbihaaDoor.T
/- SameInts, the document's. -/
namespace Go.Proofs.YteikpeaakmbihaaDoor.T
open Go.RowKit
set_option maxHeartbeats 2000000 in
theorem sameInts_len (A C : List Int) (ga gc ca cc : Nat) (w : World) (_hA : A.length ≤ 10000000) (_hC : C.length ≤ 10000000) (hn : ¬ A.length = C.length) :
    Calls Tryd.prog 15 #[.slice (some ⟨ga, 0, none⟩) A.length ca, .slice (some ⟨gc, 0, none⟩) C.length cc] w fun e w' => e = .returned (.bool (A == C)) ∧ Below w.heap.size w w' := by
  have hb : (A == C) = false := by
    rw [beq_eq_false_iff_ne]; intro h; exact hn (by rw [h])
  rw [hb]
  have hne : ((A.length : Int) != (C.length : Int)) = true := by simpa using (by omega : ¬ (A.length : Int) = (C.length : Int))
  clear hb
  go_enter Tryd.func15, Tryd.ntmps15
  go_wp2
  go_ret
  exact ⟨rfl, Below.refl _ _⟩
set_option maxHeartbeats 4000000 in
theorem sameInts_eq (A C : List Int) (L ga gc ca cc : Nat) (w : World) (HL : Hid (A.length = L)) (HM : Hid (C.length = L)) (hA : L ≤ 10000000) (HA : Hid (Row0 w ga A)) (HC : Hid (Row0 w gc C)) :
    Calls Tryd.prog 15 #[.slice (some ⟨ga, 0, none⟩) L ca, .slice (some ⟨gc, 0, none⟩) L cc] w fun e w' => e = .returned (.bool (A == C)) ∧ Below w.heap.size w w' := by
  go_enter Tryd.func15, Tryd.ntmps15
  go_wp2
  go_loopw [5] (fun i wr => ∃ q : Nat, i = .int .i64 (q : Int) ∧ q ≤ L ∧ Hid (A.take q = C.take q) ∧ Hid (Below w.heap.size w wr ∧ wr.heap = w.heap)) (fun i _ => L - (intOf i).toNat)
  case atStart => exact ⟨0, rfl, Nat.zero_le _, Lib.hid (by simp), Lib.hid ⟨Below.refl _ _, rfl⟩⟩
  case round =>
    obtain ⟨q, rfl, hq, HT, HB⟩ := hrel
    by_cases hlt : q < L
    · obtain ⟨f, hf⟩ : ∃ f, A[q]? = some f := ⟨_, List.getElem?_eq_getElem (by rw [HL.out]; exact hlt)⟩
      obtain ⟨g, hg⟩ : ∃ g, C[q]? = some g := ⟨_, List.getElem?_eq_getElem (by rw [HM.out]; exact hlt)⟩
      have hcell : ∀ b k, wr.cell? ⟨b, k, none⟩ = w.cell? ⟨b, k, none⟩ := fun b k => by simp only [World.cell?, HB.out.2]
      have z0 := HA.out q f hf
      have y0 := HC.out q g hg
      rw [← hcell] at z0 y0
      have HX := Lib.hid hf
      have HY := Lib.hid hg
      clear hcell hf hg
      by_cases he : f = g
      · subst he
        have HN : Hid (A.take (q + 1) = C.take (q + 1)) := Lib.hid (by rw [take_snoc A q _ HX.out, take_snoc C q _ HY.out, HT.out])
        have hne : (f != f) = false := by simp
        go_wp2_with fail
        go_region
        all_goals
          go_wp2
          go_roundw
          case rel => exact ⟨q + 1, by go_num, by omega, HN, Lib.hid ⟨HB.out.1.drew, HB.out.2⟩⟩
          case measure => simp [intOf]; omega
      · have HN : Hid ((A == C) = false) := Lib.hid (by
          rw [beq_eq_false_iff_ne]; intro h
          have h1 := HX.out; rw [h, HY.out] at h1
          injection h1 with h1; exact he h1.symm)
        have hne : (f != g) = true := by simpa using he
        clear he
        go_wp2_with fail
        go_region
        all_goals
          go_wp2
          go_ret
          exact ⟨ret_b HN.out.symm, HB.out.1.drew⟩
    · obtain rfl : q = L := by omega
      have HR : Hid ((A == C) = true) := Lib.hid (by
        have h1 : A = C := by
          have := HT.out
          rwa [List.take_of_length_le (by rw [HL.out]; exact Nat.le_refl _), List.take_of_length_le (by rw [HM.out]; exact Nat.le_refl _)] at this
        rw [h1]; simp)
      go_wp2
      go_ret
      exact ⟨ret_b HR.out.symm, HB.out.1⟩
/-- Are two rows of whole numbers the same? -/
theorem sameInts_any (A C : List Int) (ga gc ca cc : Nat) (w : World) (hA : A.length ≤ 10000000) (hC : C.length ≤ 10000000) (HA : Hid (Row0 w ga A)) (HC : Hid (Row0 w gc C)) :
    Calls Tryd.prog 15 #[.slice (some ⟨ga, 0, none⟩) A.length ca, .slice (some ⟨gc, 0, none⟩) C.length cc] w fun e w' => e = .returned (.bool (A == C)) ∧ Below w.heap.size w w' := by
  by_cases h : A.length = C.length
  · rw [← h]; exact sameInts_eq A C _ ga gc ca cc w (Lib.hid rfl) (Lib.hid h.symm) hA HA HC
  · exact sameInts_len A C ga gc ca cc w hA hC h
end Go.Proofs.YteikpeaakmbihaaDoor.T
