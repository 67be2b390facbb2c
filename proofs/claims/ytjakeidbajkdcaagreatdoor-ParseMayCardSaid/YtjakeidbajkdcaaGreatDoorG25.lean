/- Joined by program: KPlace, KSize, KText, KLay, KNeat, APure, AState, RNorm, RJoin. -/
import Derived.Test.YtjakeidbajkdcaaGreatDoorG24
import Derived.Test.YtjakeidbajkdcaaGreatDoorG23
import Derived.Test.YtjakeidbajkdcaaGreatDoorG22
/- What the language leaves is a tail of what there was; an error's place is that of a token, or the end. -/
namespace Go.Proofs.YtjakeidbajkdcaaGreatDoor.T
/-- A place: that of a token, or the end. -/
def Pl (E : Int) (l : List Tk) (p : Int) : Prop := p = E ∨ ∃ t ∈ l, p = t.p
theorem Pl.suf {E : Int} {l r : List Tk} {p : Int} (h : Pl E r p) (hs : r <:+ l) : Pl E l p := h.imp id fun ⟨t, ht, e⟩ => ⟨t, hs.subset ht, e⟩
theorem plc_Pl (E : Int) (l : List Tk) : Pl E l (plc E l) := by
  cases l with
  | nil => exact .inl rfl
  | cons t r => exact .inr ⟨t, by simp, rfl⟩
def cX : Pr → Nat
  | .expr => 7 | .cmp => 6 | .sum => 5 | .prod => 4 | .app => 3 | .post => 2 | .atom => 1
  | .appL _ => 3
  | _ => 1
/-- How much fuel is enough. -/
def need (X : Pr) (m : Nat) : Nat := 8 * m + cX X
theorem text_suf {E k : Int} {l r : List Tk} {f : ByteArray → List Tk → Rs} {t : List Nd} (h : textT E k l f = .ok t r) : ∃ x m, m.length + 1 = l.length ∧ m <:+ l ∧ f x m = .ok t r := by
  cases l with
  | nil => cases h
  | cons y m =>
    simp only [textT] at h
    split at h
    · exact ⟨y.s, m, rfl, List.suffix_cons _ _, h⟩
    · cases h
theorem label_suf {E k : Int} {fs : List Fld} {l r : List Tk} {f : ByteArray → List Tk → Rs} {t : List Nd} (h : labelT E k fs l f = .ok t r) : ∃ x m, m.length + 1 = l.length ∧ m <:+ l ∧ f x m = .ok t r := by
  obtain ⟨x, m, hm, hs, h⟩ := text_suf h
  split at h
  · cases h
  · split at h
    · cases h
    · exact ⟨x, m, hm, hs, h⟩
theorem go_bad {r : Rs} {f : List Nd → List Tk → Rs} {e p : Int} (h : r.go f = .bad e p) : r = .bad e p ∨ ∃ a m, r = .ok a m ∧ f a m = .bad e p := by
  cases r with
  | ok a m => exact .inr ⟨a, m, rfl, h⟩
  | bad e p => exact .inl h
theorem must_bad {E k : Int} {s : List UInt8} {l : List Tk} {f : List Tk → Rs} {e p : Int} (h : must E k s l f = .bad e p) : (e ≠ 0 ∧ Pl E l p) ∨ (l.tail.length + 1 = l.length ∧ f l.tail = .bad e p) := by
  unfold must at h
  split at h
  · exact .inr ⟨isT_len (by assumption), h⟩
  · cases h; exact .inl ⟨by decide, plc_Pl E l⟩
theorem text_bad {E k : Int} {l : List Tk} {f : ByteArray → List Tk → Rs} {e p : Int} (h : textT E k l f = .bad e p) : (e ≠ 0 ∧ Pl E l p) ∨ ∃ x m, m.length + 1 = l.length ∧ m <:+ l ∧ f x m = .bad e p := by
  cases l with
  | nil => cases h; exact .inl ⟨by decide, .inl rfl⟩
  | cons y m =>
    simp only [textT] at h
    split at h
    · exact .inr ⟨y.s, m, rfl, List.suffix_cons _ _, h⟩
    · cases h; exact .inl ⟨by decide, .inr ⟨y, by simp, rfl⟩⟩
theorem label_bad {E k : Int} {fs : List Fld} {l : List Tk} {f : ByteArray → List Tk → Rs} {e p : Int} (h : labelT E k fs l f = .bad e p) : (e ≠ 0 ∧ Pl E l p) ∨ ∃ x m, m.length + 1 = l.length ∧ m <:+ l ∧ f x m = .bad e p := by
  rcases text_bad h with h | ⟨x, m, hm, hs, h⟩
  · exact .inl h
  · split at h
    · cases h; exact .inl ⟨by decide, plc_Pl E l⟩
    · split at h
      · cases h; exact .inl ⟨by decide, plc_Pl E l⟩
      · exact .inr ⟨x, m, hm, hs, h⟩
/-- What is left is a tail, and shorter where a token must go by. -/
theorem G_suf (E : Int) : ∀ (f : Nat) (X : Pr) (d : Nat) (l : List Tk) (t : List Nd) (r : List Tk), G E f X d l = .ok t r → r <:+ l ∧ r.length + eats X ≤ l.length := by
  intro f
  induction f with
  | zero => intro X d l t r h; cases h
  | succ f ih =>
    intro X d l t r h
    cases X with
    | expr =>
      rw [G] at h
      split at h
      · cases h
      split at h
      · rename_i _ hw
        have h0 := isT_len hw
        have s0 := List.tail_suffix (l)
        obtain ⟨x1, l1, h1, s1, h⟩ := text_suf h
        obtain ⟨h2, h⟩ := must_ok h
        have s2 := List.tail_suffix (l1)
        obtain ⟨a3, l3, g3, h⟩ := go_ok h
        obtain ⟨s3, h3⟩ := ih (.expr) _ _ _ _ g3
        cases h
        simp only [eats] at h3 ⊢
        exact ⟨(s3).trans ((s2).trans ((s1).trans (s0))), by omega⟩
      split at h
      · rename_i _ _ hw
        split at h
        · rename_i hr
          have h0 := isT_len hw
          have s0 := List.tail_suffix (l)
          have h1 := isT_len hr
          have s1 := List.tail_suffix ((l).tail)
          obtain ⟨x2, l2, h2, s2, h⟩ := text_suf h
          obtain ⟨h3, h⟩ := must_ok h
          have s3 := List.tail_suffix (l2)
          obtain ⟨a4, l4, g4, h⟩ := go_ok h
          obtain ⟨s4, h4⟩ := ih (.expr) _ _ _ _ g4
          split at h
          · obtain ⟨h5, h⟩ := must_ok h
            have s5 := List.tail_suffix (l4)
            obtain ⟨a6, l6, g6, h⟩ := go_ok h
            obtain ⟨s6, h6⟩ := ih (.expr) _ _ _ _ g6
            cases h
            simp only [eats] at h4 h6 ⊢
            exact ⟨(s6).trans ((s5).trans ((s4).trans ((s3).trans ((s2).trans ((s1).trans (s0)))))), by omega⟩
          · cases h
        · have h0 := isT_len hw
          have s0 := List.tail_suffix (l)
          obtain ⟨x1, l1, h1, s1, h⟩ := text_suf h
          obtain ⟨h2, h⟩ := must_ok h
          have s2 := List.tail_suffix (l1)
          obtain ⟨a3, l3, g3, h⟩ := go_ok h
          obtain ⟨s3, h3⟩ := ih (.expr) _ _ _ _ g3
          obtain ⟨h4, h⟩ := must_ok h
          have s4 := List.tail_suffix (l3)
          obtain ⟨a5, l5, g5, h⟩ := go_ok h
          obtain ⟨s5, h5⟩ := ih (.expr) _ _ _ _ g5
          cases h
          simp only [eats] at h3 h5 ⊢
          exact ⟨(s5).trans ((s4).trans ((s3).trans ((s2).trans ((s1).trans (s0))))), by omega⟩
      split at h
      · rename_i _ _ _ hw
        have h0 := isT_len hw
        have s0 := List.tail_suffix (l)
        obtain ⟨a1, l1, g1, h⟩ := go_ok h
        obtain ⟨s1, h1⟩ := ih (.expr) _ _ _ _ g1
        obtain ⟨h2, h⟩ := must_ok h
        have s2 := List.tail_suffix (l1)
        obtain ⟨a3, l3, g3, h⟩ := go_ok h
        obtain ⟨s3, h3⟩ := ih (.expr) _ _ _ _ g3
        obtain ⟨h4, h⟩ := must_ok h
        have s4 := List.tail_suffix (l3)
        obtain ⟨a5, l5, g5, h⟩ := go_ok h
        obtain ⟨s5, h5⟩ := ih (.expr) _ _ _ _ g5
        cases h
        simp only [eats] at h1 h3 h5 ⊢
        exact ⟨(s5).trans ((s4).trans ((s3).trans ((s2).trans ((s1).trans (s0))))), by omega⟩
      · exact ih .cmp _ _ _ _ h
    | cmp =>
      rw [G] at h
      obtain ⟨a0, l0, g0, h⟩ := go_ok h
      obtain ⟨s0, h0⟩ := ih (.sum) _ _ _ _ g0
      split at h
      · cases h; simp only [eats] at h0 ⊢; exact ⟨s0, h0⟩
      · rename_i n hop
        have h1 := op_len hop
        have s1 := List.tail_suffix (l0)
        obtain ⟨a2, l2, g2, h⟩ := go_ok h
        obtain ⟨s2, h2⟩ := ih (.sum) _ _ _ _ g2
        cases h
        simp only [eats] at h0 h2 ⊢
        exact ⟨(s2).trans ((s1).trans (s0)), by omega⟩
    | sum =>
      rw [G] at h
      obtain ⟨a0, l0, g0, h⟩ := go_ok h
      obtain ⟨s0, h0⟩ := ih (.prod) _ _ _ _ g0
      obtain ⟨s1, h1⟩ := ih (.sumL _) _ _ _ _ h
      simp only [eats] at h0 h1 ⊢
      exact ⟨(s1).trans (s0), by omega⟩
    | prod =>
      rw [G] at h
      obtain ⟨a0, l0, g0, h⟩ := go_ok h
      obtain ⟨s0, h0⟩ := ih (.app) _ _ _ _ g0
      obtain ⟨s1, h1⟩ := ih (.prodL _) _ _ _ _ h
      simp only [eats] at h0 h1 ⊢
      exact ⟨(s1).trans (s0), by omega⟩
    | post =>
      rw [G] at h
      obtain ⟨a0, l0, g0, h⟩ := go_ok h
      obtain ⟨s0, h0⟩ := ih (.atom) _ _ _ _ g0
      obtain ⟨s1, h1⟩ := ih (.postL _) _ _ _ _ h
      simp only [eats] at h0 h1 ⊢
      exact ⟨(s1).trans (s0), by omega⟩
    | sumL a =>
      rw [G] at h
      split at h
      · cases h; exact ⟨List.suffix_refl _, Nat.le_refl _⟩
      · rename_i n hop
        have h0 := op_len hop
        have s0 := List.tail_suffix (l)
        obtain ⟨a1, l1, g1, h⟩ := go_ok h
        obtain ⟨s1, h1⟩ := ih (.prod) _ _ _ _ g1
        obtain ⟨s2, h2⟩ := ih (.sumL _) _ _ _ _ h
        simp only [eats] at h1 h2 ⊢
        exact ⟨(s2).trans ((s1).trans (s0)), by omega⟩
    | prodL a =>
      rw [G] at h
      split at h
      · cases h; exact ⟨List.suffix_refl _, Nat.le_refl _⟩
      · rename_i n hop
        have h0 := op_len hop
        have s0 := List.tail_suffix (l)
        obtain ⟨a1, l1, g1, h⟩ := go_ok h
        obtain ⟨s1, h1⟩ := ih (.app) _ _ _ _ g1
        obtain ⟨s2, h2⟩ := ih (.prodL _) _ _ _ _ h
        simp only [eats] at h1 h2 ⊢
        exact ⟨(s2).trans ((s1).trans (s0)), by omega⟩
    | app =>
      rw [G] at h
      split at h
      · obtain ⟨x0, l0, h0, s0, h⟩ := text_suf h
        obtain ⟨a1, l1, g1, h⟩ := go_ok h
        obtain ⟨s1, h1⟩ := ih (.post) _ _ _ _ g1
        cases h
        simp only [eats] at h1 ⊢
        exact ⟨(s1).trans (s0), by omega⟩
      · obtain ⟨a0, l0, g0, h⟩ := go_ok h
        obtain ⟨s0, h0⟩ := ih (.post) _ _ _ _ g0
        obtain ⟨s1, h1⟩ := ih (.appL _) _ _ _ _ h
        simp only [eats] at h0 h1 ⊢
        exact ⟨(s1).trans (s0), by omega⟩
    | appL a =>
      rw [G] at h
      split at h
      · obtain ⟨a0, l0, g0, h⟩ := go_ok h
        obtain ⟨s0, h0⟩ := ih (.post) _ _ _ _ g0
        obtain ⟨s1, h1⟩ := ih (.appL _) _ _ _ _ h
        simp only [eats] at h0 h1 ⊢
        exact ⟨(s1).trans (s0), by omega⟩
      · cases h; exact ⟨List.suffix_refl _, Nat.le_refl _⟩
    | postL a =>
      rw [G] at h
      split at h
      · rename_i hw
        have h0 := isT_len hw
        have s0 := List.tail_suffix (l)
        obtain ⟨x1, l1, h1, s1, h⟩ := text_suf h
        obtain ⟨s2, h2⟩ := ih (.postL _) _ _ _ _ h
        simp only [eats] at h2 ⊢
        exact ⟨(s2).trans ((s1).trans (s0)), by omega⟩
      · cases h; exact ⟨List.suffix_refl _, Nat.le_refl _⟩
    | atom =>
      cases l with
      | nil => rw [G] at h; cases h
      | cons y m =>
        rw [G] at h
        have s9 := List.suffix_cons y m
        simp only [eats, List.length_cons]
        split at h
        · cases h; exact ⟨s9, Nat.le_refl _⟩
        split at h
        · cases h; exact ⟨s9, Nat.le_refl _⟩
        split at h
        · cases h; exact ⟨s9, Nat.le_refl _⟩
        split at h
        · cases h; exact ⟨s9, Nat.le_refl _⟩
        split at h
        · cases h; exact ⟨s9, Nat.le_refl _⟩
        split at h
        · obtain ⟨a0, l0, g0, h⟩ := go_ok h
          obtain ⟨s0, h0⟩ := ih (.expr) _ _ _ _ g0
          obtain ⟨h1, h⟩ := must_ok h
          have s1 := List.tail_suffix (l0)
          cases h
          simp only [eats] at h0
          exact ⟨((s1).trans (s0)).trans s9, by omega⟩
        split at h
        · split at h
          · rename_i hr
            have h0 := isT_len hr
            have s0 := List.tail_suffix m
            cases h
            exact ⟨(s0).trans s9, by omega⟩
          · obtain ⟨s0, h0⟩ := ih (.recL _ _ _) _ _ _ _ h
            simp only [eats] at h0
            exact ⟨(s0).trans s9, by omega⟩
        split at h
        · obtain ⟨a0, l0, g0, h⟩ := go_ok h
          obtain ⟨s0, h0⟩ := ih (.expr) _ _ _ _ g0
          obtain ⟨h1, h⟩ := must_ok h
          have s1 := List.tail_suffix (l0)
          obtain ⟨s2, h2⟩ := ih (.casL _ _ _) _ _ _ _ h
          simp only [eats] at h0 h2
          exact ⟨((s2).trans ((s1).trans (s0))).trans s9, by omega⟩
        · cases h
    | recL p fs ts =>
      rw [G] at h
      obtain ⟨x0, l0, h0, s0, h⟩ := label_suf h
      obtain ⟨h1, h⟩ := must_ok h
      have s1 := List.tail_suffix (l0)
      obtain ⟨a2, l2, g2, h⟩ := go_ok h
      obtain ⟨s2, h2⟩ := ih (.expr) _ _ _ _ g2
      split at h
      · rename_i hw
        have h3 := isT_len hw
        have s3 := List.tail_suffix (l2)
        obtain ⟨s4, h4⟩ := ih (.recL _ _ _) _ _ _ _ h
        simp only [eats] at h2 h4 ⊢
        exact ⟨(s4).trans ((s3).trans ((s2).trans ((s1).trans (s0)))), by omega⟩
      · obtain ⟨h3, h⟩ := must_ok h
        have s3 := List.tail_suffix (l2)
        cases h
        simp only [eats] at h2 ⊢
        exact ⟨(s3).trans ((s2).trans ((s1).trans (s0))), by omega⟩
    | casL p fs ts =>
      rw [G] at h
      obtain ⟨x0, l0, h0, s0, h⟩ := label_suf h
      obtain ⟨x1, l1, h1, s1, h⟩ := text_suf h
      obtain ⟨h2, h⟩ := must_ok h
      have s2 := List.tail_suffix (l1)
      obtain ⟨a3, l3, g3, h⟩ := go_ok h
      obtain ⟨s3, h3⟩ := ih (.expr) _ _ _ _ g3
      split at h
      · rename_i hw
        have h4 := isT_len hw
        have s4 := List.tail_suffix (l3)
        obtain ⟨s5, h5⟩ := ih (.casL _ _ _) _ _ _ _ h
        simp only [eats] at h3 h5 ⊢
        exact ⟨(s5).trans ((s4).trans ((s3).trans ((s2).trans ((s1).trans (s0))))), by omega⟩
      · obtain ⟨h4, h⟩ := must_ok h
        have s4 := List.tail_suffix (l3)
        cases h
        simp only [eats] at h3 ⊢
        exact ⟨(s4).trans ((s3).trans ((s2).trans ((s1).trans (s0)))), by omega⟩
/-- With fuel enough: an error is one, and its place is that of a token, or the end. -/
theorem G_bad (E : Int) : ∀ (f : Nat) (X : Pr) (d : Nat) (l : List Tk) (e p : Int), need X l.length ≤ f → G E f X d l = .bad e p → e ≠ 0 ∧ Pl E l p := by
  intro f
  induction f with
  | zero => intro X d l e p hn h; cases X <;> simp [need, cX] at hn
  | succ f ih =>
    intro X d l e p hn h
    cases X with
    | expr =>
      rw [G] at h
      split at h
      · cases h; exact ⟨by decide, plc_Pl E l⟩
      split at h
      · rename_i _ hw
        have h0 := isT_len hw
        have s0 := List.tail_suffix (l)
        rcases text_bad h with h | ⟨x1, l1, h1, s1, h⟩
        · exact ⟨h.1, h.2.suf (s0)⟩
        rcases must_bad h with h | ⟨h2, h⟩
        · exact ⟨h.1, h.2.suf ((s1).trans (s0))⟩
        have s2 := List.tail_suffix (l1)
        rcases go_bad h with h | ⟨a3, l3, g3, h⟩
        · obtain ⟨he, hp⟩ := ih (.expr) _ _ _ _ (by simp only [need, cX] at hn ⊢; omega) h
          exact ⟨he, hp.suf ((s2).trans ((s1).trans (s0)))⟩
        obtain ⟨s3, h3⟩ := G_suf E f (.expr) _ _ _ _ g3
        simp only [eats] at h3
        cases h
      split at h
      · rename_i _ _ hw
        split at h
        · rename_i hr
          have h0 := isT_len hw
          have s0 := List.tail_suffix (l)
          have h1 := isT_len hr
          have s1 := List.tail_suffix ((l).tail)
          rcases text_bad h with h | ⟨x2, l2, h2, s2, h⟩
          · exact ⟨h.1, h.2.suf ((s1).trans (s0))⟩
          rcases must_bad h with h | ⟨h3, h⟩
          · exact ⟨h.1, h.2.suf ((s2).trans ((s1).trans (s0)))⟩
          have s3 := List.tail_suffix (l2)
          rcases go_bad h with h | ⟨a4, l4, g4, h⟩
          · obtain ⟨he, hp⟩ := ih (.expr) _ _ _ _ (by simp only [need, cX] at hn ⊢; omega) h
            exact ⟨he, hp.suf ((s3).trans ((s2).trans ((s1).trans (s0))))⟩
          obtain ⟨s4, h4⟩ := G_suf E f (.expr) _ _ _ _ g4
          simp only [eats] at h4
          split at h
          · rcases must_bad h with h | ⟨h5, h⟩
            · exact ⟨h.1, h.2.suf ((s4).trans ((s3).trans ((s2).trans ((s1).trans (s0)))))⟩
            have s5 := List.tail_suffix (l4)
            rcases go_bad h with h | ⟨a6, l6, g6, h⟩
            · obtain ⟨he, hp⟩ := ih (.expr) _ _ _ _ (by simp only [need, cX] at hn ⊢; omega) h
              exact ⟨he, hp.suf ((s5).trans ((s4).trans ((s3).trans ((s2).trans ((s1).trans (s0))))))⟩
            obtain ⟨s6, h6⟩ := G_suf E f (.expr) _ _ _ _ g6
            simp only [eats] at h6
            cases h
          · cases h; exact ⟨by decide, (plc_Pl E _).suf ((s3).trans ((s2).trans ((s1).trans (s0))))⟩
        · have h0 := isT_len hw
          have s0 := List.tail_suffix (l)
          rcases text_bad h with h | ⟨x1, l1, h1, s1, h⟩
          · exact ⟨h.1, h.2.suf (s0)⟩
          rcases must_bad h with h | ⟨h2, h⟩
          · exact ⟨h.1, h.2.suf ((s1).trans (s0))⟩
          have s2 := List.tail_suffix (l1)
          rcases go_bad h with h | ⟨a3, l3, g3, h⟩
          · obtain ⟨he, hp⟩ := ih (.expr) _ _ _ _ (by simp only [need, cX] at hn ⊢; omega) h
            exact ⟨he, hp.suf ((s2).trans ((s1).trans (s0)))⟩
          obtain ⟨s3, h3⟩ := G_suf E f (.expr) _ _ _ _ g3
          simp only [eats] at h3
          rcases must_bad h with h | ⟨h4, h⟩
          · exact ⟨h.1, h.2.suf ((s3).trans ((s2).trans ((s1).trans (s0))))⟩
          have s4 := List.tail_suffix (l3)
          rcases go_bad h with h | ⟨a5, l5, g5, h⟩
          · obtain ⟨he, hp⟩ := ih (.expr) _ _ _ _ (by simp only [need, cX] at hn ⊢; omega) h
            exact ⟨he, hp.suf ((s4).trans ((s3).trans ((s2).trans ((s1).trans (s0)))))⟩
          obtain ⟨s5, h5⟩ := G_suf E f (.expr) _ _ _ _ g5
          simp only [eats] at h5
          cases h
      split at h
      · rename_i _ _ _ hw
        have h0 := isT_len hw
        have s0 := List.tail_suffix (l)
        rcases go_bad h with h | ⟨a1, l1, g1, h⟩
        · obtain ⟨he, hp⟩ := ih (.expr) _ _ _ _ (by simp only [need, cX] at hn ⊢; omega) h
          exact ⟨he, hp.suf (s0)⟩
        obtain ⟨s1, h1⟩ := G_suf E f (.expr) _ _ _ _ g1
        simp only [eats] at h1
        rcases must_bad h with h | ⟨h2, h⟩
        · exact ⟨h.1, h.2.suf ((s1).trans (s0))⟩
        have s2 := List.tail_suffix (l1)
        rcases go_bad h with h | ⟨a3, l3, g3, h⟩
        · obtain ⟨he, hp⟩ := ih (.expr) _ _ _ _ (by simp only [need, cX] at hn ⊢; omega) h
          exact ⟨he, hp.suf ((s2).trans ((s1).trans (s0)))⟩
        obtain ⟨s3, h3⟩ := G_suf E f (.expr) _ _ _ _ g3
        simp only [eats] at h3
        rcases must_bad h with h | ⟨h4, h⟩
        · exact ⟨h.1, h.2.suf ((s3).trans ((s2).trans ((s1).trans (s0))))⟩
        have s4 := List.tail_suffix (l3)
        rcases go_bad h with h | ⟨a5, l5, g5, h⟩
        · obtain ⟨he, hp⟩ := ih (.expr) _ _ _ _ (by simp only [need, cX] at hn ⊢; omega) h
          exact ⟨he, hp.suf ((s4).trans ((s3).trans ((s2).trans ((s1).trans (s0)))))⟩
        obtain ⟨s5, h5⟩ := G_suf E f (.expr) _ _ _ _ g5
        simp only [eats] at h5
        cases h
      · obtain ⟨he, hp⟩ := ih .cmp _ _ _ _ (by simp only [need, cX] at hn ⊢; omega) h
        exact ⟨he, hp.suf (List.suffix_refl _)⟩
    | cmp =>
      rw [G] at h
      rcases go_bad h with h | ⟨a0, l0, g0, h⟩
      · obtain ⟨he, hp⟩ := ih (.sum) _ _ _ _ (by simp only [need, cX] at hn ⊢; omega) h
        exact ⟨he, hp.suf (List.suffix_refl _)⟩
      obtain ⟨s0, h0⟩ := G_suf E f (.sum) _ _ _ _ g0
      simp only [eats] at h0
      split at h
      · cases h
      · rename_i n hop
        have h1 := op_len hop
        have s1 := List.tail_suffix (l0)
        rcases go_bad h with h | ⟨a2, l2, g2, h⟩
        · obtain ⟨he, hp⟩ := ih (.sum) _ _ _ _ (by simp only [need, cX] at hn ⊢; omega) h
          exact ⟨he, hp.suf ((s1).trans (s0))⟩
        obtain ⟨s2, h2⟩ := G_suf E f (.sum) _ _ _ _ g2
        simp only [eats] at h2
        cases h
    | sum =>
      rw [G] at h
      rcases go_bad h with h | ⟨a0, l0, g0, h⟩
      · obtain ⟨he, hp⟩ := ih (.prod) _ _ _ _ (by simp only [need, cX] at hn ⊢; omega) h
        exact ⟨he, hp.suf (List.suffix_refl _)⟩
      obtain ⟨s0, h0⟩ := G_suf E f (.prod) _ _ _ _ g0
      simp only [eats] at h0
      obtain ⟨he, hp⟩ := ih (.sumL _) _ _ _ _ (by simp only [need, cX] at hn ⊢; omega) h
      exact ⟨he, hp.suf (s0)⟩
    | prod =>
      rw [G] at h
      rcases go_bad h with h | ⟨a0, l0, g0, h⟩
      · obtain ⟨he, hp⟩ := ih (.app) _ _ _ _ (by simp only [need, cX] at hn ⊢; omega) h
        exact ⟨he, hp.suf (List.suffix_refl _)⟩
      obtain ⟨s0, h0⟩ := G_suf E f (.app) _ _ _ _ g0
      simp only [eats] at h0
      obtain ⟨he, hp⟩ := ih (.prodL _) _ _ _ _ (by simp only [need, cX] at hn ⊢; omega) h
      exact ⟨he, hp.suf (s0)⟩
    | post =>
      rw [G] at h
      rcases go_bad h with h | ⟨a0, l0, g0, h⟩
      · obtain ⟨he, hp⟩ := ih (.atom) _ _ _ _ (by simp only [need, cX] at hn ⊢; omega) h
        exact ⟨he, hp.suf (List.suffix_refl _)⟩
      obtain ⟨s0, h0⟩ := G_suf E f (.atom) _ _ _ _ g0
      simp only [eats] at h0
      obtain ⟨he, hp⟩ := ih (.postL _) _ _ _ _ (by simp only [need, cX] at hn ⊢; omega) h
      exact ⟨he, hp.suf (s0)⟩
    | sumL a =>
      rw [G] at h
      split at h
      · cases h
      · rename_i n hop
        have h0 := op_len hop
        have s0 := List.tail_suffix (l)
        rcases go_bad h with h | ⟨a1, l1, g1, h⟩
        · obtain ⟨he, hp⟩ := ih (.prod) _ _ _ _ (by simp only [need, cX] at hn ⊢; omega) h
          exact ⟨he, hp.suf (s0)⟩
        obtain ⟨s1, h1⟩ := G_suf E f (.prod) _ _ _ _ g1
        simp only [eats] at h1
        obtain ⟨he, hp⟩ := ih (.sumL _) _ _ _ _ (by simp only [need, cX] at hn ⊢; omega) h
        exact ⟨he, hp.suf ((s1).trans (s0))⟩
    | prodL a =>
      rw [G] at h
      split at h
      · cases h
      · rename_i n hop
        have h0 := op_len hop
        have s0 := List.tail_suffix (l)
        rcases go_bad h with h | ⟨a1, l1, g1, h⟩
        · obtain ⟨he, hp⟩ := ih (.app) _ _ _ _ (by simp only [need, cX] at hn ⊢; omega) h
          exact ⟨he, hp.suf (s0)⟩
        obtain ⟨s1, h1⟩ := G_suf E f (.app) _ _ _ _ g1
        simp only [eats] at h1
        obtain ⟨he, hp⟩ := ih (.prodL _) _ _ _ _ (by simp only [need, cX] at hn ⊢; omega) h
        exact ⟨he, hp.suf ((s1).trans (s0))⟩
    | app =>
      rw [G] at h
      split at h
      · rcases text_bad h with h | ⟨x0, l0, h0, s0, h⟩
        · exact ⟨h.1, h.2.suf (List.suffix_refl _)⟩
        rcases go_bad h with h | ⟨a1, l1, g1, h⟩
        · obtain ⟨he, hp⟩ := ih (.post) _ _ _ _ (by simp only [need, cX] at hn ⊢; omega) h
          exact ⟨he, hp.suf (s0)⟩
        obtain ⟨s1, h1⟩ := G_suf E f (.post) _ _ _ _ g1
        simp only [eats] at h1
        cases h
      · rcases go_bad h with h | ⟨a0, l0, g0, h⟩
        · obtain ⟨he, hp⟩ := ih (.post) _ _ _ _ (by simp only [need, cX] at hn ⊢; omega) h
          exact ⟨he, hp.suf (List.suffix_refl _)⟩
        obtain ⟨s0, h0⟩ := G_suf E f (.post) _ _ _ _ g0
        simp only [eats] at h0
        obtain ⟨he, hp⟩ := ih (.appL _) _ _ _ _ (by simp only [need, cX] at hn ⊢; omega) h
        exact ⟨he, hp.suf (s0)⟩
    | appL a =>
      rw [G] at h
      split at h
      · rcases go_bad h with h | ⟨a0, l0, g0, h⟩
        · obtain ⟨he, hp⟩ := ih (.post) _ _ _ _ (by simp only [need, cX] at hn ⊢; omega) h
          exact ⟨he, hp.suf (List.suffix_refl _)⟩
        obtain ⟨s0, h0⟩ := G_suf E f (.post) _ _ _ _ g0
        simp only [eats] at h0
        obtain ⟨he, hp⟩ := ih (.appL _) _ _ _ _ (by simp only [need, cX] at hn ⊢; omega) h
        exact ⟨he, hp.suf (s0)⟩
      · cases h
    | postL a =>
      rw [G] at h
      split at h
      · rename_i hw
        have h0 := isT_len hw
        have s0 := List.tail_suffix (l)
        rcases text_bad h with h | ⟨x1, l1, h1, s1, h⟩
        · exact ⟨h.1, h.2.suf (s0)⟩
        obtain ⟨he, hp⟩ := ih (.postL _) _ _ _ _ (by simp only [need, cX] at hn ⊢; omega) h
        exact ⟨he, hp.suf ((s1).trans (s0))⟩
      · cases h
    | atom =>
      cases l with
      | nil => rw [G] at h; cases h; exact ⟨by decide, .inl rfl⟩
      | cons y m =>
        rw [G] at h
        have s9 := List.suffix_cons y m
        simp only [List.length_cons] at hn
        split at h
        · cases h
        split at h
        · cases h
        split at h
        · cases h
        split at h
        · cases h
        split at h
        · cases h
        split at h
        · rcases go_bad h with h | ⟨a0, l0, g0, h⟩
          · obtain ⟨he, hp⟩ := ih (.expr) _ _ _ _ (by simp only [need, cX] at hn ⊢; omega) h
            exact ⟨he, hp.suf s9⟩
          obtain ⟨s0, h0⟩ := G_suf E f (.expr) _ _ _ _ g0
          simp only [eats] at h0
          rcases must_bad h with h | ⟨h1, h⟩
          · exact ⟨h.1, h.2.suf ((s0).trans s9)⟩
          have s1 := List.tail_suffix (l0)
          cases h
        split at h
        · split at h
          · rename_i hr
            have h0 := isT_len hr
            have s0 := List.tail_suffix m
            cases h
          · obtain ⟨he, hp⟩ := ih (.recL _ _ _) _ _ _ _ (by simp only [need, cX] at hn ⊢; omega) h
            exact ⟨he, hp.suf s9⟩
        split at h
        · rcases go_bad h with h | ⟨a0, l0, g0, h⟩
          · obtain ⟨he, hp⟩ := ih (.expr) _ _ _ _ (by simp only [need, cX] at hn ⊢; omega) h
            exact ⟨he, hp.suf s9⟩
          obtain ⟨s0, h0⟩ := G_suf E f (.expr) _ _ _ _ g0
          simp only [eats] at h0
          rcases must_bad h with h | ⟨h1, h⟩
          · exact ⟨h.1, h.2.suf ((s0).trans s9)⟩
          have s1 := List.tail_suffix (l0)
          obtain ⟨he, hp⟩ := ih (.casL _ _ _) _ _ _ _ (by simp only [need, cX] at hn ⊢; omega) h
          exact ⟨he, hp.suf (((s1).trans (s0)).trans s9)⟩
        · cases h; exact ⟨by decide, .inr ⟨y, by simp, rfl⟩⟩
    | recL p fs ts =>
      rw [G] at h
      rcases label_bad h with h | ⟨x0, l0, h0, s0, h⟩
      · exact ⟨h.1, h.2.suf (List.suffix_refl _)⟩
      rcases must_bad h with h | ⟨h1, h⟩
      · exact ⟨h.1, h.2.suf (s0)⟩
      have s1 := List.tail_suffix (l0)
      rcases go_bad h with h | ⟨a2, l2, g2, h⟩
      · obtain ⟨he, hp⟩ := ih (.expr) _ _ _ _ (by simp only [need, cX] at hn ⊢; omega) h
        exact ⟨he, hp.suf ((s1).trans (s0))⟩
      obtain ⟨s2, h2⟩ := G_suf E f (.expr) _ _ _ _ g2
      simp only [eats] at h2
      split at h
      · rename_i hw
        have h3 := isT_len hw
        have s3 := List.tail_suffix (l2)
        obtain ⟨he, hp⟩ := ih (.recL _ _ _) _ _ _ _ (by simp only [need, cX] at hn ⊢; omega) h
        exact ⟨he, hp.suf ((s3).trans ((s2).trans ((s1).trans (s0))))⟩
      · rcases must_bad h with h | ⟨h3, h⟩
        · exact ⟨h.1, h.2.suf ((s2).trans ((s1).trans (s0)))⟩
        have s3 := List.tail_suffix (l2)
        cases h
    | casL p fs ts =>
      rw [G] at h
      rcases label_bad h with h | ⟨x0, l0, h0, s0, h⟩
      · exact ⟨h.1, h.2.suf (List.suffix_refl _)⟩
      rcases text_bad h with h | ⟨x1, l1, h1, s1, h⟩
      · exact ⟨h.1, h.2.suf (s0)⟩
      rcases must_bad h with h | ⟨h2, h⟩
      · exact ⟨h.1, h.2.suf ((s1).trans (s0))⟩
      have s2 := List.tail_suffix (l1)
      rcases go_bad h with h | ⟨a3, l3, g3, h⟩
      · obtain ⟨he, hp⟩ := ih (.expr) _ _ _ _ (by simp only [need, cX] at hn ⊢; omega) h
        exact ⟨he, hp.suf ((s2).trans ((s1).trans (s0)))⟩
      obtain ⟨s3, h3⟩ := G_suf E f (.expr) _ _ _ _ g3
      simp only [eats] at h3
      split at h
      · rename_i hw
        have h4 := isT_len hw
        have s4 := List.tail_suffix (l3)
        obtain ⟨he, hp⟩ := ih (.casL _ _ _) _ _ _ _ (by simp only [need, cX] at hn ⊢; omega) h
        exact ⟨he, hp.suf ((s4).trans ((s3).trans ((s2).trans ((s1).trans (s0)))))⟩
      · rcases must_bad h with h | ⟨h4, h⟩
        · exact ⟨h.1, h.2.suf ((s3).trans ((s2).trans ((s1).trans (s0))))⟩
        have s4 := List.tail_suffix (l3)
        cases h
end Go.Proofs.YtjakeidbajkdcaaGreatDoor.T
/- How long a tree is that is read, and how wide its nodes are. -/
namespace Go.Proofs.YtjakeidbajkdcaaGreatDoor.T
/-- No node has more than 30 parts. -/
def slim (t : List Nd) : Prop := ∀ x ∈ t, x.l.length ≤ 30
theorem relab_le : ∀ (l : List Fld) (ks : List Int), (relab l ks).length ≤ l.length := fun l ks => by rw [relab, List.length_zipWith]; omega
theorem wk_slim (x : Nd) (ks : List Int) : (wk x ks).l.length ≤ x.l.length := by
  unfold wk
  simp only
  split
  · exact relab_le _ _
  · exact Nat.zero_le _
theorem jn_slim : ∀ ll : List (List Nd), (∀ e ∈ ll, slim e) → slim (jn ll).1 := by
  intro ll
  induction ll using snocInd with
  | h0 => intro _ x hx; simp [jn] at hx
  | h1 ll e ih =>
    intro h x hx
    rw [jn_snoc, jstep, List.mem_append] at hx
    rcases hx with hx | hx
    · exact ih (fun y hy => h y (by simp [hy])) x hx
    · obtain ⟨y, hy, rfl⟩ := List.mem_map.1 hx
      exact Nat.le_trans (wk_slim _ _) (h e (by simp) y hy)
theorem slimN {x : Nd} {ll : List (List Nd)} (h : ∀ e ∈ ll, slim e) (hx : x.l.length ≤ 30) : slim (joinN x ll) := fun y hy => by
  rw [joinN, List.mem_append, List.mem_singleton] at hy
  rcases hy with hy | rfl
  · exact jn_slim ll h y hy
  · exact Nat.le_trans (wk_slim _ _) hx
theorem slim0 {x : Nd} (hx : x.l.length ≤ 30) : slim (joinN x []) := slimN (by simp) hx
theorem slim1 {x : Nd} {a : List Nd} (hx : x.l.length ≤ 30) (ha : slim a) : slim (joinN x [a]) := slimN (by simpa using ha) hx
theorem slim2 {x : Nd} {a b : List Nd} (hx : x.l.length ≤ 30) (ha : slim a) (hb : slim b) : slim (joinN x [a, b]) := slimN (by simp [ha, hb]) hx
theorem slim3 {x : Nd} {a b c : List Nd} (hx : x.l.length ≤ 30) (ha : slim a) (hb : slim b) (hc : slim c) : slim (joinN x [a, b, c]) := slimN (by simp [ha, hb, hc]) hx
theorem jlN (x : Nd) (ll : List (List Nd)) : (joinN x ll).length = (ll.map List.length).sum + 1 := by rw [joinN, List.length_append, (jn_len ll).1]; rfl
theorem jl0 (x : Nd) : (joinN x []).length = 1 := jlN x []
theorem jl1 (x : Nd) (a : List Nd) : (joinN x [a]).length = a.length + 1 := by rw [jlN]; simp
theorem jl2 (x : Nd) (a b : List Nd) : (joinN x [a, b]).length = a.length + b.length + 1 := by rw [jlN]; simp
theorem jl3 (x : Nd) (a b c : List Nd) : (joinN x [a, b, c]).length = a.length + b.length + c.length + 1 := by rw [jlN]; simp; omega
def fitS : Pr → Prop
  | .sumL a => slim a
  | .prodL a => slim a
  | .appL a => slim a
  | .postL a => slim a
  | .recL _ _ ts => ∀ e ∈ ts, slim e
  | .casL _ _ ts => ∀ e ∈ ts, slim e
  | _ => True
def base : Pr → Nat
  | .sumL a => a.length
  | .prodL a => a.length
  | .appL a => a.length
  | .postL a => a.length
  | .recL _ _ ts => (ts.map List.length).sum
  | .casL _ _ ts => (ts.map List.length).sum
  | _ => 0
theorem label_slim {E k : Int} {fs : List Fld} {l r : List Tk} {f : ByteArray → List Tk → Rs} {t : List Nd} (h : labelT E k fs l f = .ok t r) : ∃ x m, m.length + 1 = l.length ∧ fs.length < 30 ∧ f x m = .ok t r := by
  obtain ⟨x, m, hm, h⟩ := text_ok h
  split at h
  · cases h
  · split at h
    · cases h
    · exact ⟨x, m, hm, by omega, h⟩
/-- What is read is no longer than twice its tokens, and each node has at most MaxWide parts. -/
theorem G_size (E : Int) : ∀ (f : Nat) (X : Pr) (d : Nat) (l : List Tk) (t : List Nd) (r : List Tk), fitS X → G E f X d l = .ok t r → slim t ∧ t.length + eats X + 2 * r.length ≤ base X + 2 * l.length := by
  intro f
  induction f with
  | zero => intro X d l t r _ h; cases h
  | succ f ih =>
    intro X d l t r hX h
    cases X with
    | expr =>
      rw [G] at h
      split at h
      · cases h
      split at h
      · rename_i _ hw
        have h0 := isT_len hw
        obtain ⟨x, l1, h1, h⟩ := text_ok h
        obtain ⟨h2, h⟩ := must_ok h
        obtain ⟨a, l3, ha, h⟩ := go_ok h
        obtain ⟨oa, h3⟩ := ih .expr _ _ _ _ trivial ha
        cases h
        simp only [eats, base, jl1, Nat.zero_add] at h3 ⊢
        exact ⟨slim1 (Nat.zero_le _) oa, by omega⟩
      split at h
      · rename_i _ _ hw
        have h0 := isT_len hw
        split at h
        · rename_i hr
          have h0' := isT_len hr
          obtain ⟨x, l1, h1, h⟩ := text_ok h
          obtain ⟨h2, h⟩ := must_ok h
          obtain ⟨a, l3, ha, h⟩ := go_ok h
          obtain ⟨oa, h3⟩ := ih .expr _ _ _ _ trivial ha
          split at h
          · obtain ⟨h4, h⟩ := must_ok h
            obtain ⟨b, l5, hb, h⟩ := go_ok h
            obtain ⟨ob, h5⟩ := ih .expr _ _ _ _ trivial hb
            cases h
            simp only [eats, base, jl2, Nat.zero_add] at h3 h5 ⊢
            exact ⟨slim2 (Nat.zero_le _) oa ob, by omega⟩
          · cases h
        · obtain ⟨x, l1, h1, h⟩ := text_ok h
          obtain ⟨h2, h⟩ := must_ok h
          obtain ⟨a, l3, ha, h⟩ := go_ok h
          obtain ⟨oa, h3⟩ := ih .expr _ _ _ _ trivial ha
          obtain ⟨h4, h⟩ := must_ok h
          obtain ⟨b, l5, hb, h⟩ := go_ok h
          obtain ⟨ob, h5⟩ := ih .expr _ _ _ _ trivial hb
          cases h
          simp only [eats, base, jl2, Nat.zero_add] at h3 h5 ⊢
          exact ⟨slim2 (Nat.zero_le _) oa ob, by omega⟩
      split at h
      · rename_i _ _ _ hw
        have h0 := isT_len hw
        obtain ⟨a, l1, ha, h⟩ := go_ok h
        obtain ⟨oa, h1⟩ := ih .expr _ _ _ _ trivial ha
        obtain ⟨h2, h⟩ := must_ok h
        obtain ⟨b, l3, hb, h⟩ := go_ok h
        obtain ⟨ob, h3⟩ := ih .expr _ _ _ _ trivial hb
        obtain ⟨h4, h⟩ := must_ok h
        obtain ⟨c, l5, hc, h⟩ := go_ok h
        obtain ⟨oc, h5⟩ := ih .expr _ _ _ _ trivial hc
        cases h
        simp only [eats, base, jl3, Nat.zero_add] at h1 h3 h5 ⊢
        exact ⟨slim3 (Nat.zero_le _) oa ob oc, by omega⟩
      · exact ih .cmp _ _ _ _ trivial h
    | cmp =>
      rw [G] at h
      obtain ⟨a, l1, ha, h⟩ := go_ok h
      obtain ⟨oa, h1⟩ := ih .sum _ _ _ _ trivial ha
      simp only [eats, base, Nat.zero_add] at h1 ⊢
      split at h
      · cases h; exact ⟨oa, h1⟩
      · rename_i n hn
        have h0 := op_len hn
        obtain ⟨b, l2, hb, h⟩ := go_ok h
        obtain ⟨ob, h2⟩ := ih .sum _ _ _ _ trivial hb
        cases h
        simp only [eats, base, jl2, Nat.zero_add] at h2 ⊢
        exact ⟨slim2 (Nat.zero_le _) oa ob, by omega⟩
    | sum =>
      rw [G] at h
      obtain ⟨a, l1, ha, h⟩ := go_ok h
      obtain ⟨oa, h1⟩ := ih .prod _ _ _ _ trivial ha
      obtain ⟨ot, h2⟩ := ih (.sumL a) _ _ _ _ oa h
      simp only [eats, base, Nat.add_zero, Nat.zero_add] at h1 h2 ⊢
      exact ⟨ot, by omega⟩
    | sumL a =>
      rw [G] at h
      have oa : slim a := hX
      split at h
      · cases h; exact ⟨oa, Nat.le_refl _⟩
      · rename_i n hn
        have h0 := op_len hn
        obtain ⟨b, l2, hb, h⟩ := go_ok h
        obtain ⟨ob, h2⟩ := ih .prod _ _ _ _ trivial hb
        obtain ⟨ot, h3⟩ := ih (.sumL _) _ _ _ _ (slim2 (x := { mk 10 (plc E l) with n := n }) (Nat.zero_le _) oa ob) h
        simp only [eats, base, jl2, Nat.add_zero, Nat.zero_add] at h2 h3 ⊢
        exact ⟨ot, by omega⟩
    | prod =>
      rw [G] at h
      obtain ⟨a, l1, ha, h⟩ := go_ok h
      obtain ⟨oa, h1⟩ := ih .app _ _ _ _ trivial ha
      obtain ⟨ot, h2⟩ := ih (.prodL a) _ _ _ _ oa h
      simp only [eats, base, Nat.add_zero, Nat.zero_add] at h1 h2 ⊢
      exact ⟨ot, by omega⟩
    | prodL a =>
      rw [G] at h
      have oa : slim a := hX
      split at h
      · cases h; exact ⟨oa, Nat.le_refl _⟩
      · rename_i n hn
        have h0 := op_len hn
        obtain ⟨b, l2, hb, h⟩ := go_ok h
        obtain ⟨ob, h2⟩ := ih .app _ _ _ _ trivial hb
        obtain ⟨ot, h3⟩ := ih (.prodL _) _ _ _ _ (slim2 (x := { mk 10 (plc E l) with n := n }) (Nat.zero_le _) oa ob) h
        simp only [eats, base, jl2, Nat.add_zero, Nat.zero_add] at h2 h3 ⊢
        exact ⟨ot, by omega⟩
    | app =>
      rw [G] at h
      split at h
      · obtain ⟨x, l1, h1, h⟩ := text_ok h
        obtain ⟨a, l2, ha, h⟩ := go_ok h
        obtain ⟨oa, h2⟩ := ih .post _ _ _ _ trivial ha
        cases h
        simp only [eats, base, jl1, Nat.zero_add] at h2 ⊢
        exact ⟨slim1 (Nat.zero_le _) oa, by omega⟩
      · obtain ⟨a, l1, ha, h⟩ := go_ok h
        obtain ⟨oa, h1⟩ := ih .post _ _ _ _ trivial ha
        obtain ⟨ot, h2⟩ := ih (.appL a) _ _ _ _ oa h
        simp only [eats, base, Nat.add_zero, Nat.zero_add] at h1 h2 ⊢
        exact ⟨ot, by omega⟩
    | appL a =>
      rw [G] at h
      have oa : slim a := hX
      split at h
      · obtain ⟨b, l1, hb, h⟩ := go_ok h
        obtain ⟨ob, h1⟩ := ih .post _ _ _ _ trivial hb
        obtain ⟨ot, h2⟩ := ih (.appL _) _ _ _ _ (slim2 (x := mk 6 (lastP a)) (Nat.zero_le _) oa ob) h
        simp only [eats, base, jl2, Nat.add_zero, Nat.zero_add] at h1 h2 ⊢
        exact ⟨ot, by omega⟩
      · cases h; exact ⟨oa, Nat.le_refl _⟩
    | post =>
      rw [G] at h
      obtain ⟨a, l1, ha, h⟩ := go_ok h
      obtain ⟨oa, h1⟩ := ih .atom _ _ _ _ trivial ha
      obtain ⟨ot, h2⟩ := ih (.postL a) _ _ _ _ oa h
      simp only [eats, base, Nat.add_zero, Nat.zero_add] at h1 h2 ⊢
      exact ⟨ot, by omega⟩
    | postL a =>
      rw [G] at h
      have oa : slim a := hX
      split at h
      · rename_i hw
        have h0 := isT_len hw
        obtain ⟨x, l1, h1, h⟩ := text_ok h
        obtain ⟨ot, h2⟩ := ih (.postL _) _ _ _ _ (slim1 (x := { mk 12 (plc E l) with nm := x }) (Nat.zero_le _) oa) h
        simp only [eats, base, jl1, Nat.add_zero] at h2 ⊢
        exact ⟨ot, by omega⟩
      · cases h; exact ⟨oa, Nat.le_refl _⟩
    | atom =>
      cases l with
      | nil => rw [G] at h; cases h
      | cons y m =>
        rw [G] at h
        simp only [eats, base, List.length_cons, Nat.zero_add]
        split at h
        · cases h; exact ⟨slim0 (Nat.zero_le _), by rw [jl0]; omega⟩
        split at h
        · cases h; exact ⟨slim0 (Nat.zero_le _), by rw [jl0]; omega⟩
        split at h
        · cases h; exact ⟨slim0 (Nat.zero_le _), by rw [jl0]; omega⟩
        split at h
        · cases h; exact ⟨slim0 (Nat.zero_le _), by rw [jl0]; omega⟩
        split at h
        · cases h; exact ⟨slim0 (Nat.zero_le _), by rw [jl0]; omega⟩
        split at h
        · obtain ⟨a, l1, ha, h⟩ := go_ok h
          obtain ⟨oa, h1⟩ := ih .expr _ _ _ _ trivial ha
          obtain ⟨h2, h⟩ := must_ok h
          cases h
          simp only [eats, base, Nat.zero_add] at h1
          exact ⟨oa, by omega⟩
        split at h
        · split at h
          · rename_i hr
            have h0 := isT_len hr
            cases h
            exact ⟨slim0 (Nat.zero_le _), by rw [jl0]; omega⟩
          · obtain ⟨ot, h1⟩ := ih (.recL _ _ _) _ _ _ _ (by intro e he; cases he) h
            simp only [eats, base, List.map_nil, List.sum_nil, Nat.zero_add] at h1
            exact ⟨ot, by omega⟩
        split at h
        · obtain ⟨a, l1, ha, h⟩ := go_ok h
          obtain ⟨oa, h1⟩ := ih .expr _ _ _ _ trivial ha
          obtain ⟨h2, h⟩ := must_ok h
          obtain ⟨ot, h3⟩ := ih (.casL _ _ _) _ _ _ _ (by intro e he; rw [List.mem_singleton] at he; exact he ▸ oa) h
          simp only [eats, base, List.map_cons, List.map_nil, List.sum_cons, List.sum_nil, Nat.add_zero, Nat.zero_add] at h1 h3
          exact ⟨ot, by omega⟩
        · cases h
    | recL p fs ts =>
      rw [G] at h
      have ho : ∀ e ∈ ts, slim e := hX
      obtain ⟨x, l1, h1, hf, h⟩ := label_slim h
      obtain ⟨h2, h⟩ := must_ok h
      obtain ⟨a, l3, ha, h⟩ := go_ok h
      obtain ⟨oa, h3⟩ := ih .expr _ _ _ _ trivial ha
      have ho' : ∀ e ∈ ts ++ [a], slim e := fun e he => by
        rw [List.mem_append, List.mem_singleton] at he
        rcases he with he | rfl
        · exact ho e he
        · exact oa
      split at h
      · rename_i hw
        have h0 := isT_len hw
        obtain ⟨ot, h4⟩ := ih (.recL _ _ _) _ _ _ _ ho' h
        simp only [eats, base, List.map_append, List.sum_append, List.map_cons, List.map_nil, List.sum_cons, List.sum_nil, Nat.add_zero, Nat.zero_add] at h3 h4 ⊢
        exact ⟨ot, by omega⟩
      · obtain ⟨h4, h⟩ := must_ok h
        cases h
        simp only [eats, base, Nat.zero_add] at h3 ⊢
        exact ⟨slimN ho' (by simp only [List.length_append, List.length_singleton]; omega), by simp only [jlN, List.map_append, List.sum_append, List.map_cons, List.map_nil, List.sum_cons, List.sum_nil]; omega⟩
    | casL p fs ts =>
      rw [G] at h
      have ho : ∀ e ∈ ts, slim e := hX
      obtain ⟨x, l1, h1, hf, h⟩ := label_slim h
      obtain ⟨v, l2, h1', h⟩ := text_ok h
      obtain ⟨h2, h⟩ := must_ok h
      obtain ⟨a, l3, ha, h⟩ := go_ok h
      obtain ⟨oa, h3⟩ := ih .expr _ _ _ _ trivial ha
      have ho' : ∀ e ∈ ts ++ [a], slim e := fun e he => by
        rw [List.mem_append, List.mem_singleton] at he
        rcases he with he | rfl
        · exact ho e he
        · exact oa
      split at h
      · rename_i hw
        have h0 := isT_len hw
        obtain ⟨ot, h4⟩ := ih (.casL _ _ _) _ _ _ _ ho' h
        simp only [eats, base, List.map_append, List.sum_append, List.map_cons, List.map_nil, List.sum_cons, List.sum_nil, Nat.add_zero, Nat.zero_add] at h3 h4 ⊢
        exact ⟨ot, by omega⟩
      · obtain ⟨h4, h⟩ := must_ok h
        cases h
        simp only [eats, base, Nat.zero_add] at h3 ⊢
        exact ⟨slimN ho' (by simp only [List.length_append, List.length_singleton]; omega), by simp only [jlN, List.map_append, List.sum_append, List.map_cons, List.map_nil, List.sum_cons, List.sum_nil]; omega⟩
end Go.Proofs.YtjakeidbajkdcaaGreatDoor.T
/- What a whole text is read as: the tree, or the first error and its place. -/
namespace Go.Proofs.YtjakeidbajkdcaaGreatDoor.T
/-- The expr with which the tokens begin. -/
def ex (E : Int) (l : List Tk) : Rs := G E (need .expr l.length) .expr 0 l
/-- The expr of all tokens. -/
def whole (E : Int) (l : List Tk) : Rs := match ex E l with | .bad e p => .bad e p | .ok t [] => .ok t [] | .ok _ (y :: _) => .bad 5 y.p
def far (t : List Nd) : Bool := t.any fun x => decide (1048576 < x.pos)
/-- The tree, the place, the error. -/
noncomputable def told (r : Rs) : List Nd × Int × Int := match r with
  | .bad e p => ([], p, e)
  | .ok t _ => if far t = true then ([], 0, 7) else if may t = 0 then (t, 0, 0) else ([], 0, may t)
theorem ex_ok {E : Int} {l : List Tk} {t : List Nd} {r : List Tk} (h : ex E l = .ok t r) : inOrd t ∧ slim t ∧ t.length ≤ 2 * l.length ∧ r <:+ l ∧ r.length < l.length := by
  obtain ⟨h1, h2⟩ := G_ok E _ .expr _ _ _ _ trivial h
  obtain ⟨h3, h4⟩ := G_size E _ .expr _ _ _ _ trivial h
  obtain ⟨h5, _⟩ := G_suf E _ .expr _ _ _ _ h
  simp only [eats, base] at h2 h4
  exact ⟨h1, h3, by omega, h5, by omega⟩
theorem ex_bad {E : Int} {l : List Tk} {e p : Int} (h : ex E l = .bad e p) : e ≠ 0 ∧ Pl E l p := G_bad E _ .expr _ _ _ _ (Nat.le_refl _) h
theorem whole_ok {E : Int} {l r : List Tk} {t : List Nd} (h : whole E l = .ok t r) : ex E l = .ok t [] := by
  unfold whole at h
  split at h
  · cases h
  · rename_i h1; cases h; exact h1
  · cases h
theorem whole_bad {E : Int} {l : List Tk} {e p : Int} (h : whole E l = .bad e p) : e ≠ 0 ∧ Pl E l p := by
  unfold whole at h
  split at h
  · rename_i h1; cases h; exact ex_bad h1
  · cases h
  · rename_i t y r h1
    cases h
    exact ⟨by decide, .inr ⟨y, (ex_ok h1).2.2.2.1.subset (by simp), rfl⟩⟩
/-- What is read may be, and is in order; an error's place is that of a token, the end, or 0, and it has no tree. -/
theorem told_any (E : Int) (l : List Tk) : (∃ t, told (whole E l) = (t, 0, 0) ∧ may t = 0 ∧ nrm t = t ∧ t.length ≤ 2 * l.length ∧ slim t) ∨ ∃ p e, told (whole E l) = ([], p, e) ∧ e ≠ 0 ∧ (p = 0 ∨ Pl E l p) := by
  cases hw : whole E l with
  | bad e p =>
    obtain ⟨h1, h2⟩ := whole_bad hw
    exact .inr ⟨p, e, rfl, h1, .inr h2⟩
  | ok t r =>
    obtain ⟨h1, h2, h3, _⟩ := ex_ok (whole_ok hw)
    unfold told
    simp only
    by_cases hf : far t = true
    · rw [if_pos hf]; exact .inr ⟨0, 7, rfl, by decide, .inl rfl⟩
    rw [if_neg hf]
    by_cases hm : may t = 0
    · rw [if_pos hm]; exact .inl ⟨t, rfl, hm, ord_nrm h1 hm, h3, h2⟩
    · rw [if_neg hm]; exact .inr ⟨0, may t, rfl, hm, .inl rfl⟩
end Go.Proofs.YtjakeidbajkdcaaGreatDoor.T
/- A joined tree laid behind other nodes: its children behind one another, each laid behind what is there, and the node with their places. -/
namespace Go.Proofs.YtjakeidbajkdcaaGreatDoor.T
/-- A tree laid behind others. -/
def lay (N e : List Nd) : List Nd := N ++ e.map (sh N.length)
theorem lay_len (N e : List Nd) : (lay N e).length = N.length + e.length := by simp [lay]
theorem jn_from (N : List Nd) : ∀ ll : List (List Nd), ll.foldl jstep (N, []) = (N ++ (jn ll).1.map (sh N.length), (jn ll).2.map (· + (N.length : Int))) := by
  intro ll
  induction ll using snocInd with
  | h0 => simp [jn]
  | h1 ll e ih =>
    rw [List.foldl_append, ih, jn_snoc]
    simp only [List.foldl_cons, List.foldl_nil, jstep, List.map_append, List.map_cons, List.map_nil, List.length_append, List.length_map, List.map_map, List.append_assoc]
    refine Prod.ext ?_ ?_
    · simp only
      congr 2
      apply List.map_congr_left
      intro m _
      simp only [Function.comp]
      rw [sh_sh, Nat.add_comm]
    · simp only
      congr 2
      omega
theorem lay_join (N : List Nd) (x : Nd) (ll : List (List Nd)) (hl : ll.length = (kids x).length) : lay N (joinN x ll) = (ll.foldl jstep (N, [])).1 ++ [wk x (ll.foldl jstep (N, [])).2] := by
  have hJ : (jn ll).2.length = (kids x).length := (jn_len ll).2.trans hl
  rw [jn_from, lay, joinN, List.map_append, List.map_cons, List.map_nil, ← List.append_assoc]
  congr 2
  unfold sh
  rw [kids_wk hJ, wk_two hJ]
theorem lay0 (N : List Nd) (x : Nd) (hl : (kids x).length = 0) : lay N (joinN x []) = N ++ [wk x []] := lay_join N x [] hl.symm
theorem lay1 (N a : List Nd) (x : Nd) (hl : (kids x).length = 1) : lay N (joinN x [a]) = lay N a ++ [wk x [((lay N a).length : Int) - 1]] := by
  rw [lay_join N x [a] hl.symm, lay_len]; rfl
theorem lay2 (N a b : List Nd) (x : Nd) (hl : (kids x).length = 2) : lay N (joinN x [a, b]) = lay (lay N a) b ++ [wk x [((lay N a).length : Int) - 1, ((lay (lay N a) b).length : Int) - 1]] := by
  rw [lay_join N x [a, b] hl.symm, lay_len, lay_len, lay_len]
  simp only [List.foldl_cons, List.foldl_nil, jstep, List.nil_append, List.length_append, List.length_map, lay, List.cons_append]
theorem lay3 (N a b c : List Nd) (x : Nd) (hl : (kids x).length = 3) : lay N (joinN x [a, b, c]) = lay (lay (lay N a) b) c ++ [wk x [((lay N a).length : Int) - 1, ((lay (lay N a) b).length : Int) - 1, ((lay (lay (lay N a) b) c).length : Int) - 1]] := by
  rw [lay_join N x [a, b, c] hl.symm, lay_len, lay_len, lay_len, lay_len, lay_len, lay_len]
  simp only [List.foldl_cons, List.foldl_nil, jstep, List.nil_append, List.length_append, List.length_map, lay, List.cons_append]
/-- Several trees behind others. -/
def lays (N : List Nd) (ll : List (List Nd)) : List Nd × List Int := ll.foldl jstep (N, [])
theorem lays_snoc (N : List Nd) (ll : List (List Nd)) (e : List Nd) : lays N (ll ++ [e]) = (lay (lays N ll).1 e, (lays N ll).2 ++ [((lay (lays N ll).1 e).length : Int) - 1]) := by
  unfold lays
  rw [List.foldl_append, lay_len]
  rfl
theorem lays_len (N : List Nd) (ll : List (List Nd)) : (lays N ll).2.length = ll.length := by
  unfold lays
  rw [jn_from]
  simp only [List.length_map]
  exact (jn_len ll).2
theorem layN (N : List Nd) (x : Nd) (ll : List (List Nd)) (hl : ll.length = (kids x).length) : lay N (joinN x ll) = (lays N ll).1 ++ [wk x (lays N ll).2] := lay_join N x ll hl
/-- A tree at the beginning lies as it is. -/
theorem sh_zero {x : Nd} (h : wk x (kids x) = x) : sh 0 x = x := by
  unfold sh
  have : (kids x).map (· + ((0 : Nat) : Int)) = kids x := by
    conv => rhs; rw [← List.map_id (kids x)]
    apply List.map_congr_left
    intro k _
    simp
  rw [this, h]
end Go.Proofs.YtjakeidbajkdcaaGreatDoor.T
/- In a tree in order what does not count is zero; so laid at the beginning it is the list itself. -/
namespace Go.Proofs.YtjakeidbajkdcaaGreatDoor.T
/-- What does not count of a node is zero. -/
def neat (x : Nd) : Prop := wk x (kids x) = x
theorem wk_neat {x : Nd} {ks : List Int} (h : ks.length = (kids x).length) : neat (wk x ks) := by unfold neat; rw [kids_wk h, wk_two h]
theorem cp_neat {l : List Nd} (hk : kidsOk l) : ∀ i, i < l.length → ∀ out : List Nd, (∀ x ∈ out, neat x) → ∀ x ∈ cp l i out, neat x := by
  intro i
  induction i using Nat.strongRecOn with
  | ind i ih =>
    intro hi out ho
    have hx : l[i]? = some (l[i]'hi) := List.getElem?_eq_getElem hi
    obtain ⟨x, hx'⟩ : ∃ x, l[i]'hi = x := ⟨_, rfl⟩
    rw [hx'] at hx
    have ha : ahead i x := fun k hk' => hk i x hx k hk'
    have key : ∀ ks : List Int, (∀ k ∈ ks, 0 ≤ k ∧ k < (i : Int)) → ∀ y ∈ (cps l (out, []) ks).1, neat y := by
      intro ks
      induction ks using snocInd with
      | h0 => intro _; exact ho
      | h1 ks k ih2 =>
        intro hks
        have hkk := hks k (by simp)
        rw [cps_snoc]
        exact ih k.toNat (toNat_lt hkk) (by omega) _ (ih2 fun k' hk' => hks k' (by simp [hk']))
    have hlen : (cps l (out, []) (kids x)).2.length = (kids x).length := by rw [cps_len2]; simp
    rw [cp_eq hx ha out]
    intro y hy
    rcases List.mem_append.1 hy with hy | hy
    · exact key _ (fun k hk' => ha k hk') y hy
    · obtain rfl := List.mem_singleton.1 hy
      exact wk_neat hlen
theorem ord_neat {e : List Nd} (h : inOrd e) : ∀ x ∈ e, neat x := by
  obtain ⟨h1, h2, h3⟩ := h
  have hl : 0 < e.length := List.length_pos_iff.2 h1
  have := cp_neat h2 (e.length - 1) (by omega) [] (by simp)
  rwa [h3] at this
theorem lay_nil {e : List Nd} (h : inOrd e) : lay [] e = e := by
  have h1 := ord_neat h
  rw [lay, List.nil_append]
  conv => rhs; rw [← List.map_id e]
  exact List.map_congr_left fun x hx => sh_zero (h1 x hx)
theorem lastK_eq {a : List Nd} {y : Nd} {m : List Nd} (h : a = m ++ [y]) : lastK a = y.kind ∧ lastP a = y.pos := by subst h; simp [lastK, lastP]
/-- The root of a tree that is laid behind others. -/
theorem lay_last (N : List Nd) {a : List Nd} (h : a ≠ []) : ∃ y, (lay N a)[(lay N a).length - 1]? = some y ∧ y.kind = lastK a ∧ y.pos = lastP a := by
  induction a using snocInd with
  | h0 => exact absurd rfl h
  | h1 m y _ =>
    obtain ⟨h1, h2⟩ := lastK_eq (a := m ++ [y]) rfl
    refine ⟨sh N.length y, ?_, h1.symm, h2.symm⟩
    rw [lay_len, lay, List.map_append, ← List.append_assoc]
    have e : N.length + (m ++ [y]).length - 1 = (N ++ m.map (sh N.length)).length := by simp
    rw [e]
    simp
end Go.Proofs.YtjakeidbajkdcaaGreatDoor.T
/- The program's reader, as a function over plain states: what each of its calls makes of the tokens left, the error, the nodes. By fuel for what is nested; none where the fuel or the room ends. -/
namespace Go.Proofs.YtjakeidbajkdcaaGreatDoor.A
open T
/-- A reader's state: the tokens left, the end, whether they were let go, the error and its place, the nodes, how deep it is nested. -/
structure PS where
  l : List Tk
  E : Int
  dead : Bool
  err : Int
  place : Int
  N : List Nd
  d : Nat
/-- What is next. -/
def PS.pk (s : PS) : Tk := match s.l with | [] => ⟨0, ⟨#[]⟩, 0, s.E⟩ | t :: _ => t
def PS.nx (s : PS) : PS := { s with l := s.l.tail }
def PS.no (s : PS) (p e : Int) : PS := { s with l := [], E := 0, dead := true, err := if s.err = 0 then e else s.err, place := if s.err = 0 then p else s.place }
def PS.is (s : PS) (k : Int) (x : List UInt8) : Bool := isT k x s.l
def PS.tk (s : PS) (k : Int) (x : List UInt8) : PS := if s.is k x = true then s.nx else s
def PS.must (s : PS) (k : Int) (x : List UInt8) : PS := if s.is k x = true then s.nx else s.no s.pk.p 5
def PS.txt (s : PS) (k : Int) : ByteArray × PS := if s.pk.k = k then (s.pk.s, s.nx) else (⟨#[]⟩, s.no s.pk.p 5)
def PS.lab (s : PS) (k : Int) (fs : List Fld) : ByteArray × PS :=
  if fs.length = 30 then ((s.txt k).1, (s.txt k).2.no s.pk.p 8) else if (fs.any fun y => y.nm.toList == (s.txt k).1.toList) = true then ((s.txt k).1, (s.txt k).2.no s.pk.p 5) else s.txt k
abbrev Ans := Option (Nat × PS)
def PS.add (s : PS) (n : Nd) : Ans := if s.N.length < 1000000 then some (s.N.length, { s with N := s.N ++ [n] }) else none
/-- The primitive of a sign. -/
def prim (x : ByteArray) : Int :=
  if x.toList = [60] then 5 else if x.toList = [61, 61] then 6 else if x.toList = [43] then 1 else if x.toList = [45] then 2 else if x.toList = [94] then 7 else if x.toList = [42] then 3 else if x.toList = [47] then 4 else 0
def anyOf (ops : List (List UInt8)) (s : PS) : Bool := ops.any fun o => s.is 7 o
def opP (b : PS → Ans) (a : Nat) (s : PS) : Ans := (b s.nx).bind fun r => r.2.add { mk 10 s.pk.p with n := prim s.pk.s, a := a, b := r.1 }
def loopP (ops : List (List UInt8)) (b : PS → Ans) : Nat → Nat → PS → Ans
  | 0, _, _ => none
  | n + 1, a, s => if anyOf ops s = true then (opP b a s).bind fun r => loopP ops b n r.1 r.2 else some (a, s)
def postL : Nat → Nat → PS → Ans
  | 0, _, _ => none
  | n + 1, a, s => if s.is 7 s_dot = true then ((s.nx.txt 2).2.add { mk 12 s.pk.p with nm := (s.nx.txt 2).1, a := a }).bind fun r => postL n r.1 r.2 else some (a, s)
def appL (post : PS → Ans) : Nat → Nat → PS → Ans
  | 0, _, _ => none
  | n + 1, a, s => if begins s.l = true then match s.N[a]? with
    | none => none
    | some x => (post s).bind fun r => (r.2.add { mk 6 x.pos with a := a, b := r.1 }).bind fun q => appL post n q.1 q.2
    else some (a, s)
def leafN (s : PS) : Nd × PS :=
  if s.is 1 w_true = true then ({ mk 2 s.pk.p with n := 1 }, s.nx) else if s.is 1 w_false = true then (mk 2 s.pk.p, s.nx)
  else if s.pk.k = 4 then ({ mk 1 s.pk.p with n := s.pk.n }, s.nx) else if s.pk.k = 5 then ({ mk 3 s.pk.p with s := s.pk.s }, s.nx)
  else if s.pk.k = 2 then ({ mk 4 s.pk.p with nm := s.pk.s }, s.nx) else (mk 0 s.pk.p, s.no s.pk.p 5)
def recL (X : PS → Ans) (p : Int) : Nat → List Fld → PS → Ans
  | 0, _, _ => none
  | n + 1, fs, s => if fs.length < 1000 then (X ((s.lab 2 fs).2.must 7 s_eqs)).bind fun r =>
      if r.2.is 7 s_comma = true then recL X p n (fs ++ [⟨(s.lab 2 fs).1, ⟨#[]⟩, r.1⟩]) r.2.nx
      else (r.2.must 7 s_rbra).add { mk 11 p with l := fs ++ [⟨(s.lab 2 fs).1, ⟨#[]⟩, r.1⟩] }
    else none
def recP (X : PS → Ans) (p : Int) (s : PS) : Ans := if s.is 7 s_rbra = true then s.nx.add (mk 11 p) else recL X p (s.l.length + 2) [] s
def casL (X : PS → Ans) (p : Int) (a : Nat) : Nat → List Fld → PS → Ans
  | 0, _, _ => none
  | n + 1, fs, s => if fs.length < 1000 then (X (((s.lab 3 fs).2.txt 2).2.must 7 s_arrow)).bind fun r =>
      if r.2.is 7 s_bar = true then casL X p a n (fs ++ [⟨(s.lab 3 fs).1, ((s.lab 3 fs).2.txt 2).1, r.1⟩]) r.2.nx
      else (r.2.must 1 w_end).add { mk 14 p with a := a, l := fs ++ [⟨(s.lab 3 fs).1, ((s.lab 3 fs).2.txt 2).1, r.1⟩] }
    else none
def casP (X : PS → Ans) (p : Int) (s : PS) : Ans := (X s).bind fun r => casL X p r.1 ((r.2.must 1 w_of).l.length + 2) [] (r.2.must 1 w_of)
def atomP (X : PS → Ans) (s : PS) : Ans :=
  if s.is 7 s_lpar = true then (X s.nx).bind fun r => some (r.1, r.2.must 7 s_rpar)
  else if s.is 7 s_lbra = true then recP X s.pk.p s.nx
  else if s.is 1 w_case = true then casP X s.pk.p s.nx
  else (leafN s).2.add (leafN s).1
def postP (X : PS → Ans) (s : PS) : Ans := (atomP X s).bind fun r => postL (r.2.l.length + 1) r.1 r.2
def appP (X : PS → Ans) (s : PS) : Ans :=
  if s.pk.k = 3 then (postP X (s.txt 3).2).bind fun r => r.2.add { mk 13 s.pk.p with nm := (s.txt 3).1, a := r.1 }
  else (postP X s).bind fun r => appL (postP X) (r.2.l.length + 1) r.1 r.2
def o_prod : List (List UInt8) := [[42], [47]]
def o_sum : List (List UInt8) := [[43], [45], [94]]
def o_cmp : List (List UInt8) := [[60], [61, 61]]
def prodP (X : PS → Ans) (s : PS) : Ans := (appP X s).bind fun r => loopP o_prod (appP X) (r.2.l.length + 1) r.1 r.2
def sumP (X : PS → Ans) (s : PS) : Ans := (prodP X s).bind fun r => loopP o_sum (prodP X) (r.2.l.length + 1) r.1 r.2
def cmpP (X : PS → Ans) (s : PS) : Ans := (sumP X s).bind fun r => if anyOf o_cmp r.2 = true then opP (sumP X) r.1 r.2 else some r
def funP (X : PS → Ans) (p : Int) (s : PS) : Ans := (X ((s.txt 2).2.must 7 s_arrow)).bind fun r => r.2.add { mk 5 p with nm := (s.txt 2).1, a := r.1 }
/-- Behind let, and rec: k is the node's kind. -/
def bindK (X : PS → Ans) (p k : Int) (s : PS) : Ans :=
  (X ((s.txt 2).2.must 7 s_eqs)).bind fun r =>
    if k = 8 then match r.2.N[r.1]? with
      | none => none
      | some x => (X ((if x.kind = 5 then r.2 else r.2.no ((s.txt 2).2.must 7 s_eqs).pk.p 5).must 1 w_in)).bind fun q => q.2.add { mk k p with nm := (s.txt 2).1, a := r.1, b := q.1 }
    else (X (r.2.must 1 w_in)).bind fun q => q.2.add { mk k p with nm := (s.txt 2).1, a := r.1, b := q.1 }
def bindP (X : PS → Ans) (p : Int) (s : PS) : Ans := if s.is 1 w_rec = true then bindK X p 8 s.nx else bindK X p 7 s
def ifP (X : PS → Ans) (p : Int) (s : PS) : Ans :=
  (X s).bind fun r => (X (r.2.must 1 w_then)).bind fun q => (X (q.2.must 1 w_else)).bind fun u => u.2.add { mk 9 p with a := r.1, b := q.1, c := u.1 }
def innerP (X : PS → Ans) (p : Int) (s : PS) : Ans :=
  if s.is 1 w_fun = true then funP X p s.nx else if s.is 1 w_let = true then bindP X p s.nx else if s.is 1 w_if = true then ifP X p s.nx else cmpP X s
/-- The state in which an expr is read. -/
def PS.deep (s : PS) : PS := { (if s.d = 100 then s.no s.pk.p 6 else s) with d := s.d + 1 }
def PS.up (s : PS) : PS := { s with d := s.d - 1 }
def exprP : Nat → PS → Ans
  | 0, _ => none
  | f + 1, s => if s.d < 1000 then (innerP (exprP f) s.pk.p s.deep).bind fun r => some (r.1, r.2.up) else none
end Go.Proofs.YtjakeidbajkdcaaGreatDoor.A
/- Where a reader of programs stands in memory; what a call leaves as it was. -/
namespace Go.Proofs.YtjakeidbajkdcaaGreatDoor.A
open T Go.RowKit
/-- Every block that is not in S is as it was. -/
structure Fr (S : Nat → Prop) (w w' : World) : Prop where
  os : w'.os = w.os
  tape : w'.tape = w.tape
  output : w'.output = w.output
  size : w.heap.size ≤ w'.heap.size
  block : ∀ k, k < w.heap.size → ¬ S k → w'.heap[k]? = w.heap[k]?
theorem Fr.refl (S : Nat → Prop) (w : World) : Fr S w w := ⟨rfl, rfl, rfl, Nat.le_refl _, fun _ _ _ => rfl⟩
theorem Fr.trans {S : Nat → Prop} {a b c : World} (h : Fr S a b) (k : Fr S b c) : Fr S a c :=
  ⟨k.os.trans h.os, k.tape.trans h.tape, k.output.trans h.output, Nat.le_trans h.size k.size, fun i hi hs => (k.block i (Nat.lt_of_lt_of_le hi h.size) hs).trans (h.block i hi hs)⟩
theorem Fr.of_below {S : Nat → Prop} {w w' : World} (h : Below w.heap.size w w') : Fr S w w' := ⟨h.os, h.tape, h.output, h.size, fun k hk _ => h.block k hk⟩
theorem Fr.alloc {S : Nat → Prop} (w : World) (o : Obj) : Fr S w (w.alloc o) := Fr.of_below ((Below.refl _ w).alloc (Nat.le_refl _) o)
theorem Fr.mono {S T : Nat → Prop} {w w' : World} (h : Fr S w w') (hs : ∀ k, S k → T k) : Fr T w w' := ⟨h.os, h.tape, h.output, h.size, fun k hk ht => h.block k hk fun hh => ht (hs k hh)⟩
theorem Fr.set {S : Nat → Prop} {w0 w : World} (h : Fr S w0 w) {b j : Nat} (v : Value) (hb : S b ∨ w0.heap.size ≤ b) : Fr S w0 (w.setCell ⟨b, j, none⟩ v) :=
  ⟨h.os, h.tape, h.output, by simpa using h.size, fun k hk hs => (set_far w b j k v (by rintro rfl; rcases hb with hb | hb; exact hs hb; omega)).trans (h.block k hk hs)⟩
theorem Fr.below {B : Nat} {S : Nat → Prop} {w w' : World} (h : Fr S w w') (hs : ∀ k, S k → B ≤ k) (hB : B ≤ w.heap.size) : Below B w w' :=
  ⟨h.os, h.tape, h.output, h.size, fun k hk => h.block k (by omega) fun hh => by have := hs k hh; omega⟩
/-- The block in which the nodes lie. -/
def nbk (w : World) (rb : Nat) : Option Nat := match w.cell? ⟨rb, 1, none⟩ with | some v => v.ownBlock | none => none
/-- What a call of the reader's leaves: every block but the reader's own, and the nodes', is as it was. -/
structure Kpt (rb b : Nat) (w w' : World) : Prop where
  fr : Fr (fun k => k = rb ∨ k = b ∨ nbk w rb = some k) w w'
  nb : nbk w' rb = nbk w rb ∨ ∃ g, nbk w' rb = some g ∧ w.heap.size ≤ g
theorem nbk_heap {w w' : World} {rb : Nat} (h : w'.heap[rb]? = w.heap[rb]?) : nbk w' rb = nbk w rb := by
  unfold nbk; rw [World.cell?_of_block (a := ⟨rb, 1, none⟩) h]
theorem Kpt.refl (rb b : Nat) (w : World) : Kpt rb b w w := ⟨Fr.refl _ _, .inl rfl⟩
theorem Kpt.trans {rb b : Nat} {u v w : World} (h : Kpt rb b u v) (k : Kpt rb b v w) : Kpt rb b u w := by
  refine ⟨⟨k.fr.os.trans h.fr.os, k.fr.tape.trans h.fr.tape, k.fr.output.trans h.fr.output, Nat.le_trans h.fr.size k.fr.size, fun i hi hs => ?_⟩, ?_⟩
  · have h1 := h.fr.block i hi hs
    refine (k.fr.block i (Nat.lt_of_lt_of_le hi h.fr.size) fun hh => hs ?_).trans h1
    rcases hh with hh | hh | hh
    · exact .inl hh
    · exact .inr (.inl hh)
    · rcases h.nb with e | ⟨g, e, hg⟩
      · exact .inr (.inr (e ▸ hh))
      · rw [hh] at e; cases e; omega
  · rcases k.nb with e | ⟨g, e, hg⟩
    · rcases h.nb with e2 | ⟨g, e2, hg⟩
      · exact .inl (e.trans e2)
      · exact .inr ⟨g, e.trans e2, hg⟩
    · exact .inr ⟨g, e, Nat.le_trans h.fr.size hg⟩
theorem Kpt.of_below {rb b : Nat} {w w' : World} (hr : rb < w.heap.size) (h : Below w.heap.size w w') : Kpt rb b w w' := ⟨Fr.of_below h, .inl (nbk_heap (h.block rb hr))⟩
theorem Kpt.alloc {rb b : Nat} {u w : World} (h : Kpt rb b u w) (hr : rb < w.heap.size) (o : Obj) : Kpt rb b u (w.alloc o) := h.trans (Kpt.of_below hr ((Below.refl _ w).alloc (Nat.le_refl _) o))
theorem Kpt.drew {rb b : Nat} {u w : World} (h : Kpt rb b u w) : Kpt rb b u w.drew := h.trans ⟨⟨rfl, rfl, rfl, Nat.le_refl _, fun _ _ _ => rfl⟩, .inl rfl⟩
theorem Kpt.set {rb b : Nat} {u w : World} (h : Kpt rb b u w) {k j : Nat} (v : Value) (hk : u.heap.size ≤ k) (hr : rb < u.heap.size) : Kpt rb b u (w.setCell ⟨k, j, none⟩ v) :=
  ⟨h.fr.set v (.inr hk), by rw [nbk_heap (set_far w k j rb v (by omega))]; exact h.nb⟩
/-- A block of a call's own. -/
def Loc (rb b : Nat) (w : World) (k : Nat) (cs : Array Value) (t : TypeId) : Prop := w.heap[k]? = some (.cells cs t (0, 0)) ∧ k ≠ rb ∧ k ≠ b ∧ nbk w rb ≠ some k
theorem Loc.kpt {rb b k : Nat} {w w' : World} {cs : Array Value} {t : TypeId} (h : Loc rb b w k cs t) (hk : Kpt rb b w w') : Loc rb b w' k cs t := by
  obtain ⟨h1, h2, h3, h4⟩ := h
  have hlt := (Array.getElem?_eq_some_iff.1 h1).1
  refine ⟨(hk.fr.block k hlt fun hh => ?_).trans h1, h2, h3, fun e => ?_⟩
  · rcases hh with hh | hh | hh
    · exact h2 hh
    · exact h3 hh
    · exact h4 hh
  · rcases hk.nb with e2 | ⟨g, e2, hg⟩
    · exact h4 (e2 ▸ e)
    · rw [e] at e2; cases e2; omega
theorem Loc.set {rb b k j : Nat} {w : World} {cs : Array Value} {t : TypeId} (h : Loc rb b w k cs t) (v : Value) : Loc rb b (w.setCell ⟨k, j, none⟩ v) k (cs.setIfInBounds j v) t :=
  ⟨blk_put h.1, h.2.1, h.2.2.1, by rw [nbk_heap (set_far w k j rb v (Ne.symm h.2.1))]; exact h.2.2.2⟩
theorem Loc.far {rb b k m j : Nat} {w : World} {cs : Array Value} {t : TypeId} (h : Loc rb b w k cs t) (v : Value) (hm : m ≠ k) (hr : m ≠ rb) : Loc rb b (w.setCell ⟨m, j, none⟩ v) k cs t :=
  ⟨(set_far w m j k v (Ne.symm hm)).trans h.1, h.2.1, h.2.2.1, by rw [nbk_heap (set_far w m j rb v (Ne.symm hr))]; exact h.2.2.2⟩
theorem Loc.lt {rb b k : Nat} {w : World} {cs : Array Value} {t : TypeId} (h : Loc rb b w k cs t) : k < w.heap.size := (Array.getElem?_eq_some_iff.1 h.1).1
theorem Loc.cell {rb b k : Nat} {w : World} {cs : Array Value} {t : TypeId} (h : Loc rb b w k cs t) (j : Nat) : w.cell? ⟨k, j, none⟩ = cs[j]? := Blk_cell h.1 j
theorem Loc.frozen {rb b k : Nat} {w : World} {cs : Array Value} {t : TypeId} (h : Loc rb b w k cs t) (j : Nat) : w.frozen? ⟨k, j, none⟩ = false := Blk_frozen h.1 j
/-- Tokens from an address on. -/
def TkRow (w : World) (g o : Nat) (l : List Tk) : Prop := ∀ j t, l[j]? = some t →
  w.cell? ⟨g, o + j * 4, none⟩ = some (.int .i64 t.k) ∧ w.cell? ⟨g, o + j * 4 + 1, none⟩ = some (.string t.s) ∧ w.cell? ⟨g, o + j * 4 + 2, none⟩ = some (.int .i64 t.n) ∧ w.cell? ⟨g, o + j * 4 + 3, none⟩ = some (.int .i64 t.p)
theorem TkRow.heap {w w' : World} {g o : Nat} {l : List Tk} (h : TkRow w g o l) (he : w'.heap[g]? = w.heap[g]?) : TkRow w' g o l := fun j t hj => by
  obtain ⟨h0, h1, h2, h3⟩ := h j t hj
  have e : ∀ k, w'.cell? ⟨g, k, none⟩ = w.cell? ⟨g, k, none⟩ := fun k => World.cell?_of_block (a := ⟨g, k, none⟩) he
  exact ⟨(e _).trans h0, (e _).trans h1, (e _).trans h2, (e _).trans h3⟩
theorem TkRow.tail {w : World} {g o : Nat} {t : Tk} {l : List Tk} (h : TkRow w g o (t :: l)) : TkRow w g (o + 4) l := fun j t' hj => by
  have := h (j + 1) t' (by simpa using hj)
  rw [show o + (j + 1) * 4 = o + 4 + j * 4 by omega] at this
  exact this
/-- A reader of tokens: none, or one whose block is b. -/
def Rdr (B rb b : Nat) (w : World) (p : Option Addr) (l : List Tk) (E : Int) (dead : Bool) : Prop :=
  (dead = true ∧ p = none ∧ l = [] ∧ E = 0) ∨
  (dead = false ∧ p = some ⟨b, 0, none⟩ ∧ ∃ A c, w.heap[b]? = some (.cells #[.slice A l.length c, .int .i64 E] 82 (0, 0)) ∧ l.length ≤ c ∧ (l.length ≤ 1000000 ∧ ∀ t ∈ l, t.s.size ≤ 281474976710656) ∧ (l ≠ [] → ∃ g o, A = some ⟨g, o, none⟩ ∧ g < B ∧ g ≠ rb ∧ g ≠ b ∧ TkRow w g o l))
theorem Rdr.heap {B rb b : Nat} {w w' : World} {p : Option Addr} {l : List Tk} {E : Int} {dead : Bool} (h : Rdr B rb b w p l E dead) (hb : w'.heap[b]? = w.heap[b]?) (hg : ∀ g, g < B → g ≠ rb → g ≠ b → w'.heap[g]? = w.heap[g]?) : Rdr B rb b w' p l E dead := by
  rcases h with h | ⟨h1, h2, A, c, h3, h4, h5, h6⟩
  · exact .inl h
  · refine .inr ⟨h1, h2, A, c, hb.trans h3, h4, h5, fun h0 => ?_⟩
    obtain ⟨g, o, e, g1, g2, g3, hr⟩ := h6 h0
    exact ⟨g, o, e, g1, g2, g3, hr.heap (hg g g1 g2 g3)⟩
/-- Nodes of the call's own, whose parts lie in no block of Av's. -/
def OwnA (Av : Nat → Prop) (B : Nat) (w : World) (v : Value) (ps : List (Nd × Value)) : Prop := OwnN B w v ps ∧ ∀ x ∈ ps, ∀ g, x.2.ownBlock = some g → ¬ Av g
/-- The state of a reader of programs: its block rb, the tokens' reader's block b, nodes and their parts from block B on. -/
structure St (Av : Nat → Prop) (B rb b : Nat) (w : World) (s : PS) : Prop where
  av : ∀ g, Av g → g < w.heap.size
  hrb : rb < B
  hb : b < B
  hB : B ≤ w.heap.size
  ne : rb ≠ b
  at_ : ∃ p v ps, w.heap[rb]? = some (.cells #[.pointer p, v, .int .i64 s.d, .int .i64 s.err, .int .i64 s.place] 51 (0, 0)) ∧ Rdr B rb b w p s.l s.E s.dead ∧ ps.map Prod.fst = s.N ∧ OwnA Av B w v ps
section
variable {Av : Nat → Prop} {B rb b : Nat} {w w' : World} {s : PS}
theorem St.nbB (h : St Av B rb b w s) : ∀ g, nbk w rb = some g → B ≤ g ∧ ∃ cur, w.heap[g]? = some (.cells cur 37 (0, 0)) := by
  obtain ⟨p, v, ps, h1, h2, h3, h4⟩ := h.at_
  intro g hg
  have e : nbk w rb = v.ownBlock := by unfold nbk; rw [Blk_cell h1 1]; rfl
  rw [e] at hg
  exact own27 h4.1.1 g hg
/-- A state stays where only other blocks turn. -/
theorem St.heap (h : St Av B rb b w s) (hs : w.heap.size ≤ w'.heap.size) (hr : w'.heap[rb]? = w.heap[rb]?) (hb : w'.heap[b]? = w.heap[b]?) (hl : ∀ g, g < B → g ≠ rb → g ≠ b → w'.heap[g]? = w.heap[g]?)
    (hn : ∀ g cs t, B ≤ g → w.heap[g]? = some (.cells cs t (0, 0)) → (t = 97 ∧ ¬ Av g) ∨ nbk w rb = some g → w'.heap[g]? = w.heap[g]?) : St Av B rb b w' s := by
  obtain ⟨p, v, ps, h1, h2, h3, h4⟩ := h.at_
  have e : nbk w rb = v.ownBlock := by unfold nbk; rw [Blk_cell h1 1]; rfl
  refine ⟨fun g hg => Nat.lt_of_lt_of_le (h.av g hg) hs, h.hrb, h.hb, Nat.le_trans h.hB hs, h.ne, p, v, ps, hr.trans h1, h2.heap hb hl, h3, ⟨⟨h4.1.1.1, ?_⟩, fun x hx => ⟨(h4.1.2 x hx).1, ?_⟩⟩, h4.2⟩
  · rcases h4.1.1.2 with h0 | ⟨g, cap, cur, e1, e2, e3, e4⟩
    · exact .inl h0
    · exact .inr ⟨g, cap, cur, e1, e2, (hn g _ _ e2 e3 (.inr (by rw [e, e1]; rfl))).trans e3, e4⟩
  · rcases (h4.1.2 x hx).2 with h0 | ⟨g, cap, cur, e1, e2, e3, e4⟩
    · exact .inl h0
    · exact .inr ⟨g, cap, cur, e1, e2, (hn g _ _ e2 e3 (.inl ⟨rfl, h4.2 x hx g (by rw [e1]; rfl)⟩)).trans e3, e4⟩
theorem St.below (h : St Av B rb b w s) (hb : Below w.heap.size w w') : St Av B rb b w' s :=
  h.heap hb.size (hb.block _ (Nat.lt_of_lt_of_le h.hrb h.hB)) (hb.block _ (Nat.lt_of_lt_of_le h.hb h.hB)) (fun g hg _ _ => hb.block g (Nat.lt_of_lt_of_le hg h.hB)) fun g _cs _t _ hg _ => hb.block g (Array.getElem?_eq_some_iff.1 hg).1
theorem St.alloc (h : St Av B rb b w s) (o : Obj) : St Av B rb b (w.alloc o) s := h.below ((Below.refl _ w).alloc (Nat.le_refl _) o)
theorem St.drew (h : St Av B rb b w s) : St Av B rb b w.drew s := h.below (Below.refl _ w).drew
theorem St.loc {k j : Nat} {cs : Array Value} {t : TypeId} (h : St Av B rb b w s) (hl : Loc rb b w k cs t) (ht : t ≠ 97) (hk : B ≤ k) (v : Value) : St Av B rb b (w.setCell ⟨k, j, none⟩ v) s := by
  have hb := h.hb
  refine h.heap (by simp) (set_far _ _ _ _ _ (Ne.symm hl.2.1)) (set_far _ _ _ _ _ (Ne.symm hl.2.2.1)) (fun g hg _ _ => set_far _ _ _ _ _ (by omega)) fun g cs' t' hg hg' ht' => set_far _ _ _ _ _ ?_
  rintro rfl
  rcases ht' with ⟨rfl, _⟩ | h0
  · rw [hl.1] at hg'; injection hg' with e; injection e with _ e _; exact ht e
  · exact hl.2.2.2 h0
theorem St.rlt (h : St Av B rb b w s) : rb < w.heap.size := Nat.lt_of_lt_of_le h.hrb h.hB
theorem St.blt (h : St Av B rb b w s) : b < w.heap.size := Nat.lt_of_lt_of_le h.hb h.hB
/-- A new block is a call's own. -/
theorem Loc.new (h : St Av B rb b w s) (cs : Array Value) (t : TypeId) : Loc rb b (w.alloc (.cells cs t)) w.heap.size cs t := by
  have h1 := h.rlt
  have h2 := h.blt
  refine ⟨World.alloc_heap_new w _, by omega, by omega, fun e => ?_⟩
  rw [nbk_heap (Below.heap_alloc _ _ _ h1)] at e
  obtain ⟨_, cur, hc⟩ := h.nbB _ e
  have := (Array.getElem?_eq_some_iff.1 hc).1
  omega
theorem Loc.alloc {k : Nat} {cs : Array Value} {t : TypeId} (h : Loc rb b w k cs t) (hr : rb < w.heap.size) (o : Obj) : Loc rb b (w.alloc o) k cs t := h.kpt ((Kpt.refl rb b w).alloc hr o)
theorem Loc.drew {k : Nat} {cs : Array Value} {t : TypeId} (h : Loc rb b w k cs t) : Loc rb b w.drew k cs t := h.kpt (Kpt.refl rb b w).drew
/-- The reader's cells. -/
theorem St.cells (h : St Av B rb b w s) : ∃ p v, Rdr B rb b w p s.l s.E s.dead ∧ w.cell? ⟨rb, 0, none⟩ = some (.pointer p) ∧ w.cell? ⟨rb, 1, none⟩ = some v ∧ w.cell? ⟨rb, 2, none⟩ = some (.int .i64 s.d) ∧ w.cell? ⟨rb, 3, none⟩ = some (.int .i64 s.err) ∧ w.cell? ⟨rb, 4, none⟩ = some (.int .i64 s.place) ∧ ∀ j, w.frozen? ⟨rb, j, none⟩ = false := by
  obtain ⟨p, v, ps, h1, h2, _⟩ := h.at_
  exact ⟨p, v, h2, Blk_cell h1 0, Blk_cell h1 1, Blk_cell h1 2, Blk_cell h1 3, Blk_cell h1 4, fun j => Blk_frozen h1 j⟩
end
/-- What a call of the reader's answers: a place, a state. -/
def APost (Av : Nat → Prop) (B rb b : Nat) (w : World) (a : Nat) (s' : PS) (e : Ending) (w' : World) : Prop := e = .returned (.int .i64 (a : Int)) ∧ St Av B rb b w' s' ∧ Kpt rb b w w'
/-- A call without a result. -/
def VPost (Av : Nat → Prop) (B rb b : Nat) (w : World) (s' : PS) (e : Ending) (w' : World) : Prop := e = .returned (.tuple #[]) ∧ St Av B rb b w' s' ∧ Kpt rb b w w'
def BPost (Av : Nat → Prop) (B rb b : Nat) (w : World) (x : Bool) (s' : PS) (e : Ending) (w' : World) : Prop := e = .returned (.bool x) ∧ St Av B rb b w' s' ∧ Kpt rb b w w'
def SPost (Av : Nat → Prop) (B rb b : Nat) (w : World) (x : ByteArray) (s' : PS) (e : Ending) (w' : World) : Prop := e = .returned (.string x) ∧ St Av B rb b w' s' ∧ Kpt rb b w w'
end Go.Proofs.YtjakeidbajkdcaaGreatDoor.A
/- Sub, Norm, SameList, the document's. -/
namespace Go.Proofs.YtjakeidbajkdcaaGreatDoor.T
open Go.RowKit Go.Shelf
/-- What is made of nodes: an Expr of the call's own. -/
def NPost (N : List Nd) (w : World) (e : Ending) (w' : World) : Prop := ∃ A c ps, e = .returned (.agg #[.slice A N.length c]) ∧ ps.map Prod.fst = N ∧ OwnN w.heap.size w' (.slice A N.length c) ps ∧ Below w.heap.size w w'
set_option maxRecDepth 100000 in
set_option maxHeartbeats 8000000 in
theorem rlist_pos (l m : List Nd) (L c1 c2 : Nat) (A C : Option Addr) (HL : Hid (l.length = L)) (HM : Hid (m.length = L)) (hL : L ≤ 1000000) (w : World) (HP : Hid (0 < L → ∃ b1 o1 b2 o2, A = some (⟨b1, o1, none⟩ : Addr) ∧ C = some (⟨b2, o2, none⟩ : Addr) ∧ b1 < w.heap.size ∧ b2 < w.heap.size ∧ NdsAt w.heap.size w b1 o1 l ∧ NdsAt w.heap.size w b2 o2 m)) (HS1 : Hid (∀ x ∈ l, x.l.length ≤ 1000000)) :
    Calls Tryz.prog 33 #[.agg #[.slice A L c1], .agg #[.slice C L c2]] w fun e w' => e = .returned (.bool (lns l m)) ∧ Below w.heap.size w w' := by
  obtain ⟨W2, hW2⟩ : ∃ W2, (w.alloc (.cells #[.slice A L c1] 25)).alloc (.cells #[.slice C L c2] 25) = W2 := ⟨_, rfl⟩
  have HB2 : Hid (Below w.heap.size w W2) := Lib.hid (by rw [← hW2]; exact ((Below.refl _ w).alloc (Nat.le_refl _) _).alloc (by simp) _)
  have HX0 : Hid (W2.heap[w.heap.size]? = some (.cells #[.slice A L c1] 25 (0, 0))) := Lib.hid (by rw [← hW2]; exact nextAt (newAt rfl))
  have HY0 : Hid (W2.heap[w.heap.size + 1]? = some (.cells #[.slice C L c2] 25 (0, 0))) := Lib.hid (by rw [← hW2]; exact newAt (by simp))
  have HW2 := Lib.hid hW2
  have hs2 : W2.heap.size = w.heap.size + 2 := by rw [← hW2]; simp
  clear hW2
  go_enter Tryz.func33, Tryz.ntmps33
  go_wp2
  go_loopw [5] (fun i wr => ∃ q : Nat, i = .int .i64 (q : Int) ∧ q ≤ L ∧ Hid (∀ (j : Nat) (x y : Nd), j < q → l[j]? = some x → m[j]? = some y → sn x y = true) ∧ Hid (Below W2.heap.size W2 wr)) (fun i _ => L - (intOf i).toNat)
  case atStart => exact ⟨0, rfl, Nat.zero_le _, Lib.hid (fun j f g h => absurd h (by omega)), Lib.hid (by rw [HW2.out]; exact Below.refl _ _)⟩
  case round =>
    obtain ⟨q, rfl, hq, HA, HB⟩ := hrel
    have hsz := HB.out.size
    have hx0 := (HB.out.block w.heap.size (by omega)).trans HX0.out
    have hy0 := (HB.out.block (w.heap.size + 1) (by omega)).trans HY0.out
    have cx : wr.cell? ⟨w.heap.size, 0, none⟩ = some (.slice A L c1) := (Blk_cell hx0 0).trans rfl
    have cy : wr.cell? ⟨w.heap.size + 1, 0, none⟩ = some (.slice C L c2) := (Blk_cell hy0 0).trans rfl
    have HBW : Hid (Below w.heap.size w wr) := Lib.hid (HB2.out.trans (HB.out.mono (by omega)))
    clear hx0 hy0
    by_cases hlt : q < L
    · obtain ⟨b1, o1, b2, o2, rfl, rfl, hb1, hb2, hf1, hf2⟩ := HP.out (by omega)
      obtain ⟨x, hx⟩ : ∃ x, l[q]? = some x := ⟨_, List.getElem?_eq_getElem (by rw [HL.out]; exact hlt)⟩
      obtain ⟨y, hy⟩ : ∃ y, m[q]? = some y := ⟨_, List.getElem?_eq_getElem (by rw [HM.out]; exact hlt)⟩
      obtain ⟨fv, hfl, m0, m1, m2, m3, m4, m5, m6, m7, m8⟩ := (hf1.below HBW.out hb1) q x hx
      obtain ⟨gv, hgl, n0, n1, n2, n3, n4, n5, n6, n7, n8⟩ := (hf2.below HBW.out hb2) q y hy
      have HE : Hid (∀ w1, Below wr.heap.size wr w1 → Calls Tryz.prog 59 #[.agg (ndArr x fv), .agg (ndArr y gv)] w1 fun e w' => e = .returned (.bool (sn x y)) ∧ Below w1.heap.size w1 w') := Lib.hid fun w1 hb => rsn_any x y fv gv w1 (((hfl.mono (by omega)).below hb).mono hb.size) (((hgl.mono (by omega)).below hb).mono hb.size) (HS1.out x (List.mem_of_getElem? hx))
      obtain ⟨FA, fc, rfl, _⟩ := hfl
      obtain ⟨GA, gc, rfl, _⟩ := hgl
      have HX := Lib.hid hx
      have HY := Lib.hid hy
      obtain ⟨t, ht⟩ : ∃ t, sn x y = t := ⟨_, rfl⟩
      rw [ht] at HE
      have HT := Lib.hid ht
      clear hx hy ht hf1 hf2
      cases t with
      | false =>
        go_wp2_with fail
        go_region_with (go_at_call 59; refine (HE.out _ (Below.refl _ _).drew).mono ?_; rintro e w1 ⟨rfl, hb⟩; have HBB := Lib.hid (Below.trans (Below.refl wr.heap.size wr).drew hb); clear hb)
        all_goals
          go_wp2
          go_ret
          exact ⟨ret_b (lns_no HX.out HY.out HT.out).symm, HBW.out.trans (HBB.out.mono (by omega))⟩
      | true =>
        go_wp2_with fail
        go_region_with (go_at_call 59; refine (HE.out _ (Below.refl _ _).drew).mono ?_; rintro e w1 ⟨rfl, hb⟩; have HBB := Lib.hid (Below.trans (Below.refl wr.heap.size wr).drew hb); clear hb)
        all_goals
          go_wp2
          go_roundw
          case rel =>
            refine ⟨q + 1, by go_num, by omega, Lib.hid ?_, Lib.hid (HB.out.trans (HBB.out.mono hsz))⟩
            intro j f' g' hj hf' hg'
            by_cases e : j = q
            · subst e
              rw [HX.out] at hf'; rw [HY.out] at hg'
              injection hf' with hf'; injection hg' with hg'
              subst hf' hg'; exact HT.out
            · exact HA.out j f' g' (by omega) hf' hg'
          case measure => simp [intOf]; omega
    · obtain rfl : q = L := by omega
      have HR : Hid (lns l m = true) := Lib.hid (lns_yes (fun j f g h1 h2 => HA.out j f g (by have := lt_of_some h1; rw [HL.out] at this; exact this) h1 h2) (by rw [HL.out, HM.out]))
      go_wp2
      go_ret
      exact ⟨ret_b HR.out.symm, HBW.out⟩
set_option maxHeartbeats 1000000 in
theorem rlist_len (L M c1 c2 : Nat) (A C : Option Addr) (hne : ¬ L = M) (w : World) :
    Calls Tryz.prog 33 #[.agg #[.slice A L c1], .agg #[.slice C M c2]] w fun e w' => e = .returned (.bool false) ∧ Below w.heap.size w w' := by
  have hb : ((L : Int) != (M : Int)) = true := by simpa using (by omega : ¬ (L : Int) = (M : Int))
  go_enter Tryz.func33, Tryz.ntmps33
  go_wp2
  go_ret
  exact ⟨rfl, ((Below.refl _ w).alloc (Nat.le_refl _) _).alloc (by simp) _⟩
theorem rlist_any (l m : List Nd) (v u : Value) (w : World) (hv : Nodes w.heap.size w v l) (hu : Nodes w.heap.size w u m) (hL : l.length ≤ 1000000) (hS1 : ∀ x ∈ l, x.l.length ≤ 1000000) :
    Calls Tryz.prog 33 #[.agg #[v], .agg #[u]] w fun e w' => e = .returned (.bool (ln l m)) ∧ Below w.heap.size w w' := by
  obtain ⟨A, c1, rfl, _, _, hq⟩ := hv
  obtain ⟨C, c2, rfl, _, _, hr⟩ := hu
  by_cases he : l.length = m.length
  · have hb : ln l m = lns l m := by rw [ln, he]; simp
    rw [hb, ← he]
    refine rlist_pos l m _ c1 c2 A C (Lib.hid rfl) (Lib.hid he.symm) hL w (Lib.hid fun h => ?_) (Lib.hid hS1)
    obtain ⟨b1, o1, rfl, hb1, h1⟩ := hq h
    obtain ⟨b2, o2, rfl, hb2, h2⟩ := hr (by omega)
    exact ⟨b1, o1, b2, o2, rfl, rfl, hb1, hb2, h1, h2⟩
  · have hb : ln l m = false := by rw [ln]; simp [he]
    rw [hb]
    exact rlist_len _ _ c1 c2 A C he w
end Go.Proofs.YtjakeidbajkdcaaGreatDoor.T
/- Join, the document's. -/
namespace Go.Proofs.YtjakeidbajkdcaaGreatDoor.T
open Go.RowKit Go.Shelf
/-- Where the document's Join stands. -/
def RSt (N : List Nd) (J : List Int) (cx : Array Value) (w W : World) (v u : Value) (q : Nat) : Prop :=
  (∃ ps, ps.map Prod.fst = N ∧ OwnN (w.heap.size + 2) W v ps) ∧ W.ownsRow (w.heap.size + 2) 3 1 u q (J.map (Value.int .i64)) ∧ W.heap[w.heap.size]? = some (.cells cx 37 (0, 0)) ∧ W.heap[w.heap.size + 1]? = some (.cells #[.slice none 0 0] 25 (0, 0)) ∧ Below w.heap.size w W
section
variable {N : List Nd} {J : List Int} {cx : Array Value} {w W W' : World} {v v2 u u2 : Value} {q : Nat}
theorem RSt.size (h : RSt N J cx w W v u q) : w.heap.size + 2 ≤ W.heap.size := (Array.getElem?_eq_some_iff.1 h.2.2.2.1).1
theorem RSt.next (h : RSt N J cx w W v u q) (hb : Below W.heap.size W W') : RSt N J cx w W' v u q := by
  have hs := h.size
  obtain ⟨⟨ps, a0, a1⟩, a2, a3, a4, a6⟩ := h
  have hg := grown_of hb
  exact ⟨⟨ps, a0, ownN_grow a1 hg⟩, a2.kept hg (ne_none _), blk_next a3 hb, blk_next a4 hb, below_next a6 hb (Nat.le_refl _)⟩
end
theorem res28 (tmps : Array Value) (W : World) (p : Nat) (A : Option Addr) (n c : Nat) (h2 : tmps[4]?.getD undef = .pointer (some ⟨p, 0, none⟩)) (hb : W.cell? ⟨p, 0, none⟩ = some (.slice A n c)) :
    Sem.run Tryz.prog (results Tryz.f136 tmps) W = .ok (.agg #[.slice A n c]) W := by
  simp [results, Tryz.results136, go_sem, h2, hb]
end Go.Proofs.YtjakeidbajkdcaaGreatDoor.T
