/- Joined by program: PWithAny. -/
import Derived.Test.YteikpeaakmbihaaDoorG22
import Derived.Test.YteikpeaakmbihaaDoorG23
/- withKids, the program's, of whatever node. -/
namespace Go.Proofs.YteikpeaakmbihaaDoor.T
open Go.RowKit
def WithPost (y : Nd) (w : World) (e : Ending) (w' : World) : Prop := ∃ A c, e = .returned (.agg (ndArr y (.slice A y.l.length c))) ∧ OwnF w.heap.size w' (.slice A y.l.length c) y.l ∧ Below w.heap.size w w'
theorem own_eq (x : Nd) : own x = ownN x.kind := by
  have := ownN_le x.kind
  rw [own, kids_own, List.length_take]; simp; omega
/-- Texts that can be cloned. -/
def Clonable (x : Nd) : Prop := x.nm.size ≤ 281474976710656 ∧ x.s.size ≤ 281474976710656 ∧ x.l.length ≤ 1000000 ∧ ∀ f ∈ x.l, f.nm.size ≤ 281474976710656 ∧ f.vr.size ≤ 281474976710656
set_option maxHeartbeats 1000000 in
theorem with_any (x : Nd) (vl : Value) (ks : List Int) (gk ck : Nat) (w : World) (hv : Flds w.heap.size w vl x.l) (hks : ks.length = (kids x).length) (hr : Row0 w gk ks) (hgk : gk < w.heap.size) (hck : ks.length ≤ ck) (hS : Clonable x) :
    Calls Tryd.prog 47 #[.agg (ndArr x vl), .slice (some ⟨gk, 0, none⟩) ks.length ck] w (WithPost (wk x ks) w) := by
  have hlen : ks.length = ownN x.kind + (if many x = true then x.l.length else 0) := by
    rw [hks, kids, List.length_append]
    have h1 : (kids0 x).length = ownN x.kind := own_eq x
    rw [h1]
    split <;> simp
  have hH : ∀ (m : Nat), ownN x.kind = m → m ≤ ks.length → ∀ (a b c : Int) (A : Option Addr) (w1 : World), Below w.heap.size w w1 → (m < ck → A = some ⟨gk, m, none⟩) →
      Calls Tryd.prog 72 #[.agg (ndArr { x with a := a, b := b, c := c } vl), .slice A (ks.length - m) (ck - m)] w1 (PlPost (if many x = true then relab x.l (ks.drop m) else []) w1) := by
    intro m hm hmk a b c A w1 hb hA
    have := places_any x a b c vl (ks.drop m) A (ck - m) w1 ((hv.below hb).mono hb.size) hS.2.2.1 hS.2.2.2 (fun hp => by
      have : many x = true := hp
      rw [this, hm] at hlen
      simp at hlen ⊢; omega) (fun h0 => by
      simp at h0
      refine ⟨gk, m, hA (by omega), Nat.lt_of_lt_of_le hgk hb.size, fun j z hz => ?_⟩
      rw [List.getElem?_drop] at hz
      exact (hb.cell (p := ⟨gk, m + j, none⟩) hgk).trans (hr (m + j) z hz))
    rw [List.length_drop] at this
    exact this
  have hw : ∀ (a b c : Int), wk x ks = { x with a := a, b := b, c := c, l := if many x = true then relab x.l (ks.drop (ownN x.kind)) else [] } → ∀ e w', WPost (fun v => ndArr { x with a := a, b := b, c := c } v) (if many x = true then relab x.l (ks.drop (ownN x.kind)) else []) w e w' → WithPost (wk x ks) w e w' := by
    rintro a b c he e w' ⟨A, c', rfl, h2, h3⟩
    rw [he]
    exact ⟨A, c', rfl, h2, h3⟩
  have hwk : ∀ m, ownN x.kind = m → wk x ks = { x with a := if 0 < m then ks.getD 0 0 else 0, b := if 1 < m then ks.getD 1 0 else 0, c := if 2 < m then ks.getD 2 0 else 0, l := if many x = true then relab x.l (ks.drop (ownN x.kind)) else [] } := by
    intro m hm
    rw [wk, own_eq, hm]
  have hle := ownN_le x.kind
  obtain ⟨FA, fc, rfl, _⟩ := hv
  match hm : ownN x.kind, hle with
  | 0, _ =>
    have hl : 0 ≤ ks.length := by omega
    have h := wk_0 x.kind x.a x.b x.c x.n x.pos x.nm x.s FA x.l.length fc  ks.length gk ck (if many x = true then relab x.l (ks.drop 0) else []) (Lib.hid hm) hl hck ⟨hS.1, hS.2.1⟩ w hgk (Lib.hid (fun j z hz => by simp at hz)) (Lib.hid (fun A w1 hb hA => hH 0 hm hl 0 0 0 A w1 hb hA))
    refine h.mono fun e w' hp => hw 0 0 0 ?_ e w' (by rw [hm]; exact hp)
    rw [hwk 0 hm]
    simp
  | 1, _ =>
    have hl : 1 ≤ ks.length := by omega
    obtain ⟨k0, hk0⟩ : ∃ k, ks[0]? = some k := ⟨_, List.getElem?_eq_getElem (by omega)⟩
    have h := wk_1 x.kind x.a x.b x.c x.n x.pos x.nm x.s FA x.l.length fc k0 ks.length gk ck (if many x = true then relab x.l (ks.drop 1) else []) (Lib.hid hm) hl hck ⟨hS.1, hS.2.1⟩ w hgk (Lib.hid (fun j z hz => hr j z (by
      match j, hz with
      | 0, hz => rw [hk0]; exact hz
      | j + 1, hz => simp at hz))) (Lib.hid (fun A w1 hb hA => hH 1 hm hl k0 0 0 A w1 hb hA))
    refine h.mono fun e w' hp => hw k0 0 0 ?_ e w' (by rw [hm]; exact hp)
    rw [hwk 1 hm]
    simp [List.getD_eq_getElem?_getD, hk0]
  | 2, _ =>
    have hl : 2 ≤ ks.length := by omega
    obtain ⟨k0, hk0⟩ : ∃ k, ks[0]? = some k := ⟨_, List.getElem?_eq_getElem (by omega)⟩
    obtain ⟨k1, hk1⟩ : ∃ k, ks[1]? = some k := ⟨_, List.getElem?_eq_getElem (by omega)⟩
    have h := wk_2 x.kind x.a x.b x.c x.n x.pos x.nm x.s FA x.l.length fc k0 k1 ks.length gk ck (if many x = true then relab x.l (ks.drop 2) else []) (Lib.hid hm) hl hck ⟨hS.1, hS.2.1⟩ w hgk (Lib.hid (fun j z hz => hr j z (by
      match j, hz with
      | 0, hz => rw [hk0]; exact hz
      | 1, hz => rw [hk1]; exact hz
      | j + 2, hz => simp at hz))) (Lib.hid (fun A w1 hb hA => hH 2 hm hl k0 k1 0 A w1 hb hA))
    refine h.mono fun e w' hp => hw k0 k1 0 ?_ e w' (by rw [hm]; exact hp)
    rw [hwk 2 hm]
    simp [List.getD_eq_getElem?_getD, hk0, hk1]
  | 3, _ =>
    have hl : 3 ≤ ks.length := by omega
    obtain ⟨k0, hk0⟩ : ∃ k, ks[0]? = some k := ⟨_, List.getElem?_eq_getElem (by omega)⟩
    obtain ⟨k1, hk1⟩ : ∃ k, ks[1]? = some k := ⟨_, List.getElem?_eq_getElem (by omega)⟩
    obtain ⟨k2, hk2⟩ : ∃ k, ks[2]? = some k := ⟨_, List.getElem?_eq_getElem (by omega)⟩
    have h := wk_3 x.kind x.a x.b x.c x.n x.pos x.nm x.s FA x.l.length fc k0 k1 k2 ks.length gk ck (if many x = true then relab x.l (ks.drop 3) else []) (Lib.hid hm) hl hck ⟨hS.1, hS.2.1⟩ w hgk (Lib.hid (fun j z hz => hr j z (by
      match j, hz with
      | 0, hz => rw [hk0]; exact hz
      | 1, hz => rw [hk1]; exact hz
      | 2, hz => rw [hk2]; exact hz
      | j + 3, hz => simp at hz))) (Lib.hid (fun A w1 hb hA => hH 3 hm hl k0 k1 k2 A w1 hb hA))
    refine h.mono fun e w' hp => hw k0 k1 k2 ?_ e w' (by rw [hm]; exact hp)
    rw [hwk 3 hm]
    simp [List.getD_eq_getElem?_getD, hk0, hk1, hk2]
end Go.Proofs.YteikpeaakmbihaaDoor.T
