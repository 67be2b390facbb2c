/- Joined by program. -/
import Derived.Test.YtjakeidbajkdcaaGreatDoorH30
namespace Go.Proofs.YtjakeidbajkdcaaGreatDoor.T
structure Tk where
  k : Int
  s : ByteArray
  n : Int
  p : Int
inductive Rs where
  | ok (t : List Nd) (l : List Tk)
  | bad (e p : Int)
inductive Pr where
  | expr | cmp | sum | prod | app | post | atom
  | sumL (a : List Nd) | prodL (a : List Nd) | appL (a : List Nd) | postL (a : List Nd)
  | recL (p : Int) (fs : List Fld) (ts : List (List Nd)) | casL (p : Int) (fs : List Fld) (ts : List (List Nd))
def Rs.go (r : Rs) (f : List Nd -> List Tk -> Rs) : Rs := match r with | .ok t l => f t l | .bad e p => .bad e p
def plc (E : Int) (l : List Tk) : Int := match l with | [] => E | t :: _ => t.p
def isT (k : Int) (s : List UInt8) (l : List Tk) : Bool := match l with | [] => false | t :: _ => decide (t.k = k) && (t.s.toList == s)
def kindT (k : Int) (l : List Tk) : Bool := match l with | [] => false | t :: _ => decide (t.k = k)
def must (E k : Int) (s : List UInt8) (l : List Tk) (f : List Tk -> Rs) : Rs := if isT k s l = true then f l.tail else .bad 5 (plc E l)
def textT (E k : Int) (l : List Tk) (f : ByteArray -> List Tk -> Rs) : Rs := match l with | [] => .bad 5 E | t :: r => if t.k = k then f t.s r else .bad 5 t.p
def labelT (E k : Int) (fs : List Fld) (l : List Tk) (f : ByteArray -> List Tk -> Rs) : Rs :=
  textT E k l fun x r => if 30 <= fs.length then .bad 8 (plc E l) else if (fs.any fun y => y.nm.toList == x.toList) = true then .bad 5 (plc E l) else f x r
def opOf (ops : List (List UInt8 × Int)) (l : List Tk) : Option Int := match l with | [] => none | t :: _ => if t.k = 7 then (ops.find? fun o => t.s.toList == o.1).map Prod.snd else none
def mk (kind p : Int) : Nd := ⟨kind, 0, 0, 0, 0, ⟨#[]⟩, ⟨#[]⟩, [], p⟩
def lastK (a : List Nd) : Int := (a.getLast?.map Nd.kind).getD 0
def lastP (a : List Nd) : Int := (a.getLast?.map Nd.pos).getD 0
def w_fun : List UInt8 := [102, 117, 110]
def w_let : List UInt8 := [108, 101, 116]
def w_rec : List UInt8 := [114, 101, 99]
def w_in : List UInt8 := [105, 110]
def w_if : List UInt8 := [105, 102]
def w_then : List UInt8 := [116, 104, 101, 110]
def w_else : List UInt8 := [101, 108, 115, 101]
def w_case : List UInt8 := [99, 97, 115, 101]
def w_of : List UInt8 := [111, 102]
def w_end : List UInt8 := [101, 110, 100]
def w_true : List UInt8 := [116, 114, 117, 101]
def w_false : List UInt8 := [102, 97, 108, 115, 101]
def s_arrow : List UInt8 := [45, 62]
def s_eqs : List UInt8 := [61]
def s_lpar : List UInt8 := [40]
def s_rpar : List UInt8 := [41]
def s_lbra : List UInt8 := [123]
def s_rbra : List UInt8 := [125]
def s_comma : List UInt8 := [44]
def s_bar : List UInt8 := [124]
def s_dot : List UInt8 := [46]
def cmpOps : List (List UInt8 × Int) := [([60], 5), ([61, 61], 6)]
def sumOps : List (List UInt8 × Int) := [([43], 1), ([45], 2), ([94], 7)]
def prodOps : List (List UInt8 × Int) := [([42], 3), ([47], 4)]
def begins (l : List Tk) : Bool := kindT 4 l || kindT 5 l || kindT 2 l || isT 1 w_true l || isT 1 w_false l || isT 1 w_case l || isT 7 s_lpar l || isT 7 s_lbra l
def fld (x v : ByteArray) : Fld := ⟨x, v, 0⟩
def G (E : Int) : Nat -> Pr -> Nat -> List Tk -> Rs
  | 0, _, _, _ => .bad 0 0
  | f + 1, .expr, d, l =>
    if 100 <= d then .bad 6 (plc E l)
    else if isT 1 w_fun l = true then textT E 2 l.tail fun x l1 => must E 7 s_arrow l1 fun l2 => (G E f .expr (d + 1) l2).go fun a l3 => .ok (joinN { mk 5 (plc E l) with nm := x } [a]) l3
    else if isT 1 w_let l = true then
      if isT 1 w_rec l.tail = true then
        textT E 2 l.tail.tail fun x l1 => must E 7 s_eqs l1 fun l2 => (G E f .expr (d + 1) l2).go fun a l3 => if lastK a = 5 then must E 1 w_in l3 fun l4 => (G E f .expr (d + 1) l4).go fun b l5 => .ok (joinN { mk 8 (plc E l) with nm := x } [a, b]) l5 else .bad 5 (plc E l2)
      else textT E 2 l.tail fun x l1 => must E 7 s_eqs l1 fun l2 => (G E f .expr (d + 1) l2).go fun a l3 => must E 1 w_in l3 fun l4 => (G E f .expr (d + 1) l4).go fun b l5 => .ok (joinN { mk 7 (plc E l) with nm := x } [a, b]) l5
    else if isT 1 w_if l = true then
      (G E f .expr (d + 1) l.tail).go fun a l1 => must E 1 w_then l1 fun l2 => (G E f .expr (d + 1) l2).go fun b l3 => must E 1 w_else l3 fun l4 => (G E f .expr (d + 1) l4).go fun c l5 => .ok (joinN (mk 9 (plc E l)) [a, b, c]) l5
    else G E f .cmp (d + 1) l
  | f + 1, .cmp, d, l => (G E f .sum d l).go fun a l1 => match opOf cmpOps l1 with
    | none => .ok a l1
    | some n => (G E f .sum d l1.tail).go fun b l2 => .ok (joinN { mk 10 (plc E l1) with n := n } [a, b]) l2
  | f + 1, .sum, d, l => (G E f .prod d l).go fun a l1 => G E f (.sumL a) d l1
  | f + 1, .sumL a, d, l => match opOf sumOps l with
    | none => .ok a l
    | some n => (G E f .prod d l.tail).go fun b l2 => G E f (.sumL (joinN { mk 10 (plc E l) with n := n } [a, b])) d l2
  | f + 1, .prod, d, l => (G E f .app d l).go fun a l1 => G E f (.prodL a) d l1
  | f + 1, .prodL a, d, l => match opOf prodOps l with
    | none => .ok a l
    | some n => (G E f .app d l.tail).go fun b l2 => G E f (.prodL (joinN { mk 10 (plc E l) with n := n } [a, b])) d l2
  | f + 1, .app, d, l =>
    if kindT 3 l = true then textT E 3 l fun x l1 => (G E f .post d l1).go fun a l2 => .ok (joinN { mk 13 (plc E l) with nm := x } [a]) l2
    else (G E f .post d l).go fun a l1 => G E f (.appL a) d l1
  | f + 1, .appL a, d, l => if begins l = true then (G E f .post d l).go fun b l1 => G E f (.appL (joinN (mk 6 (lastP a)) [a, b])) d l1 else .ok a l
  | f + 1, .post, d, l => (G E f .atom d l).go fun a l1 => G E f (.postL a) d l1
  | f + 1, .postL a, d, l => if isT 7 s_dot l = true then textT E 2 l.tail fun x l1 => G E f (.postL (joinN { mk 12 (plc E l) with nm := x } [a])) d l1 else .ok a l
  | f + 1, .atom, d, l => match l with
    | [] => .bad 5 E
    | t :: r =>
      if t.k = 4 then .ok (joinN { mk 1 t.p with n := t.n } []) r
      else if t.k = 5 then .ok (joinN { mk 3 t.p with s := t.s } []) r
      else if t.k = 2 then .ok (joinN { mk 4 t.p with nm := t.s } []) r
      else if isT 1 w_true (t :: r) = true then .ok (joinN { mk 2 t.p with n := 1 } []) r
      else if isT 1 w_false (t :: r) = true then .ok (joinN (mk 2 t.p) []) r
      else if isT 7 s_lpar (t :: r) = true then (G E f .expr d r).go fun a l1 => must E 7 s_rpar l1 fun l2 => .ok a l2
      else if isT 7 s_lbra (t :: r) = true then (if isT 7 s_rbra r = true then .ok (joinN (mk 11 t.p) []) r.tail else G E f (.recL t.p [] []) d r)
      else if isT 1 w_case (t :: r) = true then (G E f .expr d r).go fun a l1 => must E 1 w_of l1 fun l2 => G E f (.casL t.p [] [a]) d l2
      else .bad 5 t.p
  | f + 1, .recL p fs ts, d, l => labelT E 2 fs l fun x l1 => must E 7 s_eqs l1 fun l2 => (G E f .expr d l2).go fun a l3 =>
    if isT 7 s_comma l3 = true then G E f (.recL p (fs ++ [fld x ⟨#[]⟩]) (ts ++ [a])) d l3.tail
    else must E 7 s_rbra l3 fun l4 => .ok (joinN { mk 11 p with l := fs ++ [fld x ⟨#[]⟩] } (ts ++ [a])) l4
  | f + 1, .casL p fs ts, d, l => labelT E 3 fs l fun x l1 => textT E 2 l1 fun v l2 => must E 7 s_arrow l2 fun l3 => (G E f .expr d l3).go fun a l4 =>
    if isT 7 s_bar l4 = true then G E f (.casL p (fs ++ [fld x v]) (ts ++ [a])) d l4.tail
    else must E 1 w_end l4 fun l5 => .ok (joinN { mk 14 p with l := fs ++ [fld x v] } (ts ++ [a])) l5
theorem go_ok {r : Rs} {f : List Nd -> List Tk -> Rs} {t : List Nd} {l : List Tk} (h : r.go f = .ok t l) : ∃ a m, r = .ok a m /\ f a m = .ok t l := by
  cases r with
  | ok a m => exact ⟨a, m, rfl, h⟩
  | bad e p => cases h
theorem isT_cons {k : Int} {s : List UInt8} {l : List Tk} (h : isT k s l = true) : ∃ y r, l = y :: r := by
  cases l with
  | nil => cases h
  | cons y r => exact ⟨y, r, rfl⟩
theorem isT_len {k : Int} {s : List UInt8} {l : List Tk} (h : isT k s l = true) : l.tail.length + 1 = l.length := by obtain ⟨y, r, rfl⟩ := isT_cons h; rfl
theorem must_ok {E k : Int} {s : List UInt8} {l r : List Tk} {f : List Tk -> Rs} {t : List Nd} (h : must E k s l f = .ok t r) : l.tail.length + 1 = l.length /\ f l.tail = .ok t r := by
  unfold must at h
  split at h
  · exact ⟨isT_len (by assumption), h⟩
  · cases h
theorem text_ok {E k : Int} {l r : List Tk} {f : ByteArray -> List Tk -> Rs} {t : List Nd} (h : textT E k l f = .ok t r) : ∃ x m, m.length + 1 = l.length /\ f x m = .ok t r := by
  cases l with
  | nil => cases h
  | cons y m =>
    simp only [textT] at h
    split at h
    · exact ⟨y.s, m, rfl, h⟩
    · cases h
theorem label_ok {E k : Int} {fs : List Fld} {l r : List Tk} {f : ByteArray -> List Tk -> Rs} {t : List Nd} (h : labelT E k fs l f = .ok t r) : ∃ x m, m.length + 1 = l.length /\ f x m = .ok t r := by
  obtain ⟨x, m, hm, h⟩ := text_ok h
  split at h
  · cases h
  · split at h
    · cases h
    · exact ⟨x, m, hm, h⟩
theorem op_len {ops : List (List UInt8 × Int)} {l : List Tk} {n : Int} (h : opOf ops l = some n) : l.tail.length + 1 = l.length := by
  cases l with
  | nil => cases h
  | cons y r => rfl
def fit : Pr -> Prop
  | .sumL a => inOrd a
  | .prodL a => inOrd a
  | .appL a => inOrd a
  | .postL a => inOrd a
  | .recL _ fs ts => ts.length = fs.length /\ ∀ e ∈ ts, inOrd e
  | .casL _ fs ts => ts.length = fs.length + 1 /\ ∀ e ∈ ts, inOrd e
  | _ => True
def eats : Pr -> Nat
  | .sumL _ => 0
  | .prodL _ => 0
  | .appL _ => 0
  | .postL _ => 0
  | _ => 1
theorem ord0 {x : Nd} (h : (kids x).length = 0) : inOrd (joinN x []) := ord_join (by simp) h.symm
theorem ord1 {x : Nd} {a : List Nd} (h : (kids x).length = 1) (ha : inOrd a) : inOrd (joinN x [a]) := ord_join (by simpa using ha) h.symm
theorem ord2 {x : Nd} {a b : List Nd} (h : (kids x).length = 2) (ha : inOrd a) (hb : inOrd b) : inOrd (joinN x [a, b]) := ord_join (by simp [ha, hb]) h.symm
theorem ord3 {x : Nd} {a b c : List Nd} (h : (kids x).length = 3) (ha : inOrd a) (hb : inOrd b) (hc : inOrd c) : inOrd (joinN x [a, b, c]) := ord_join (by simp [ha, hb, hc]) h.symm
theorem G_ok (E : Int) : ∀ (f : Nat) (X : Pr) (d : Nat) (l : List Tk) (t : List Nd) (r : List Tk), fit X -> G E f X d l = .ok t r -> inOrd t /\ r.length + eats X <= l.length := by
  intro f
  induction f with
  | zero => intro X d l t r _ h; cases h
  | succ f ih =>
    intro X d l t r hX h
    cases X with
    | expr =>
      rw [G] at h
      split at h
      · cases h
      split at h
      · rename_i _ hw
        have h0 := isT_len hw
        obtain ⟨x, l1, h1, h⟩ := text_ok h
        obtain ⟨h2, h⟩ := must_ok h
        obtain ⟨a, l3, ha, h⟩ := go_ok h
        obtain ⟨oa, h3⟩ := ih .expr _ _ _ _ trivial ha
        cases h
        simp only [eats] at h3 ⊢
        exact ⟨ord1 rfl oa, by omega⟩
      split at h
      · rename_i _ _ hw
        have h0 := isT_len hw
        split at h
        · rename_i hr
          have h0' := isT_len hr
          obtain ⟨x, l1, h1, h⟩ := text_ok h
          obtain ⟨h2, h⟩ := must_ok h
          obtain ⟨a, l3, ha, h⟩ := go_ok h
          obtain ⟨oa, h3⟩ := ih .expr _ _ _ _ trivial ha
          split at h
          · obtain ⟨h4, h⟩ := must_ok h
            obtain ⟨b, l5, hb, h⟩ := go_ok h
            obtain ⟨ob, h5⟩ := ih .expr _ _ _ _ trivial hb
            cases h
            simp only [eats] at h3 h5 ⊢
            exact ⟨ord2 rfl oa ob, by omega⟩
          · cases h
        · obtain ⟨x, l1, h1, h⟩ := text_ok h
          obtain ⟨h2, h⟩ := must_ok h
          obtain ⟨a, l3, ha, h⟩ := go_ok h
          obtain ⟨oa, h3⟩ := ih .expr _ _ _ _ trivial ha
          obtain ⟨h4, h⟩ := must_ok h
          obtain ⟨b, l5, hb, h⟩ := go_ok h
          obtain ⟨ob, h5⟩ := ih .expr _ _ _ _ trivial hb
          cases h
          simp only [eats] at h3 h5 ⊢
          exact ⟨ord2 rfl oa ob, by omega⟩
      split at h
      · rename_i _ _ _ hw
        have h0 := isT_len hw
        obtain ⟨a, l1, ha, h⟩ := go_ok h
        obtain ⟨oa, h1⟩ := ih .expr _ _ _ _ trivial ha
        obtain ⟨h2, h⟩ := must_ok h
        obtain ⟨b, l3, hb, h⟩ := go_ok h
        obtain ⟨ob, h3⟩ := ih .expr _ _ _ _ trivial hb
        obtain ⟨h4, h⟩ := must_ok h
        obtain ⟨c, l5, hc, h⟩ := go_ok h
        obtain ⟨oc, h5⟩ := ih .expr _ _ _ _ trivial hc
        cases h
        simp only [eats] at h1 h3 h5 ⊢
        exact ⟨ord3 rfl oa ob oc, by omega⟩
      · exact ih .cmp _ _ _ _ trivial h
    | cmp =>
      rw [G] at h
      obtain ⟨a, l1, ha, h⟩ := go_ok h
      obtain ⟨oa, h1⟩ := ih .sum _ _ _ _ trivial ha
      simp only [eats] at h1 ⊢
      split at h
      · cases h; exact ⟨oa, h1⟩
      · rename_i n hn
        have h0 := op_len hn
        obtain ⟨b, l2, hb, h⟩ := go_ok h
        obtain ⟨ob, h2⟩ := ih .sum _ _ _ _ trivial hb
        cases h
        simp only [eats] at h2
        exact ⟨ord2 rfl oa ob, by omega⟩
    | sum =>
      rw [G] at h
      obtain ⟨a, l1, ha, h⟩ := go_ok h
      obtain ⟨oa, h1⟩ := ih .prod _ _ _ _ trivial ha
      obtain ⟨ot, h2⟩ := ih (.sumL a) _ _ _ _ oa h
      simp only [eats] at h1 h2 ⊢
      exact ⟨ot, by omega⟩
    | sumL a =>
      rw [G] at h
      have oa : inOrd a := hX
      split at h
      · cases h; exact ⟨oa, Nat.le_refl _⟩
      · rename_i n hn
        have h0 := op_len hn
        obtain ⟨b, l2, hb, h⟩ := go_ok h
        obtain ⟨ob, h2⟩ := ih .prod _ _ _ _ trivial hb
        obtain ⟨ot, h3⟩ := ih (.sumL _) _ _ _ _ (ord2 (x := { mk 10 (plc E l) with n := n }) rfl oa ob) h
        simp only [eats] at h2 h3 ⊢
        exact ⟨ot, by omega⟩
    | prod =>
      rw [G] at h
      obtain ⟨a, l1, ha, h⟩ := go_ok h
      obtain ⟨oa, h1⟩ := ih .app _ _ _ _ trivial ha
      obtain ⟨ot, h2⟩ := ih (.prodL a) _ _ _ _ oa h
      simp only [eats] at h1 h2 ⊢
      exact ⟨ot, by omega⟩
    | prodL a =>
      rw [G] at h
      have oa : inOrd a := hX
      split at h
      · cases h; exact ⟨oa, Nat.le_refl _⟩
      · rename_i n hn
        have h0 := op_len hn
        obtain ⟨b, l2, hb, h⟩ := go_ok h
        obtain ⟨ob, h2⟩ := ih .app _ _ _ _ trivial hb
        obtain ⟨ot, h3⟩ := ih (.prodL _) _ _ _ _ (ord2 (x := { mk 10 (plc E l) with n := n }) rfl oa ob) h
        simp only [eats] at h2 h3 ⊢
        exact ⟨ot, by omega⟩
    | app =>
      rw [G] at h
      split at h
      · obtain ⟨x, l1, h1, h⟩ := text_ok h
        obtain ⟨a, l2, ha, h⟩ := go_ok h
        obtain ⟨oa, h2⟩ := ih .post _ _ _ _ trivial ha
        cases h
        simp only [eats] at h2 ⊢
        exact ⟨ord1 rfl oa, by omega⟩
      · obtain ⟨a, l1, ha, h⟩ := go_ok h
        obtain ⟨oa, h1⟩ := ih .post _ _ _ _ trivial ha
        obtain ⟨ot, h2⟩ := ih (.appL a) _ _ _ _ oa h
        simp only [eats] at h1 h2 ⊢
        exact ⟨ot, by omega⟩
    | appL a =>
      rw [G] at h
      have oa : inOrd a := hX
      split at h
      · obtain ⟨b, l1, hb, h⟩ := go_ok h
        obtain ⟨ob, h1⟩ := ih .post _ _ _ _ trivial hb
        obtain ⟨ot, h2⟩ := ih (.appL _) _ _ _ _ (ord2 (x := mk 6 (lastP a)) rfl oa ob) h
        simp only [eats] at h1 h2 ⊢
        exact ⟨ot, by omega⟩
      · cases h; exact ⟨oa, Nat.le_refl _⟩
    | post =>
      rw [G] at h
      obtain ⟨a, l1, ha, h⟩ := go_ok h
      obtain ⟨oa, h1⟩ := ih .atom _ _ _ _ trivial ha
      obtain ⟨ot, h2⟩ := ih (.postL a) _ _ _ _ oa h
      simp only [eats] at h1 h2 ⊢
      exact ⟨ot, by omega⟩
    | postL a =>
      rw [G] at h
      have oa : inOrd a := hX
      split at h
      · rename_i hw
        have h0 := isT_len hw
        obtain ⟨x, l1, h1, h⟩ := text_ok h
        obtain ⟨ot, h2⟩ := ih (.postL _) _ _ _ _ (ord1 (x := { mk 12 (plc E l) with nm := x }) rfl oa) h
        simp only [eats] at h2 ⊢
        exact ⟨ot, by omega⟩
      · cases h; exact ⟨oa, Nat.le_refl _⟩
    | atom =>
      cases l with
      | nil => rw [G] at h; cases h
      | cons y m =>
        rw [G] at h
        simp only [eats, List.length_cons]
        split at h
        · cases h; exact ⟨ord0 rfl, Nat.le_refl _⟩
        split at h
        · cases h; exact ⟨ord0 rfl, Nat.le_refl _⟩
        split at h
        · cases h; exact ⟨ord0 rfl, Nat.le_refl _⟩
        split at h
        · cases h; exact ⟨ord0 rfl, Nat.le_refl _⟩
        split at h
        · cases h; exact ⟨ord0 rfl, Nat.le_refl _⟩
        split at h
        · obtain ⟨a, l1, ha, h⟩ := go_ok h
          obtain ⟨oa, h1⟩ := ih .expr _ _ _ _ trivial ha
          obtain ⟨h2, h⟩ := must_ok h
          cases h
          simp only [eats] at h1
          exact ⟨oa, by omega⟩
        split at h
        · split at h
          · rename_i hr
            have h0 := isT_len hr
            cases h
            exact ⟨ord0 rfl, by omega⟩
          · obtain ⟨ot, h1⟩ := ih (.recL _ _ _) _ _ _ _ ⟨rfl, by simp⟩ h
            simp only [eats] at h1
            exact ⟨ot, by omega⟩
        split at h
        · obtain ⟨a, l1, ha, h⟩ := go_ok h
          obtain ⟨oa, h1⟩ := ih .expr _ _ _ _ trivial ha
          obtain ⟨h2, h⟩ := must_ok h
          obtain ⟨ot, h3⟩ := ih (.casL _ _ _) _ _ _ _ ⟨rfl, by simpa using oa⟩ h
          simp only [eats] at h1 h3
          exact ⟨ot, by omega⟩
        · cases h
    | recL p fs ts =>
      rw [G] at h
      obtain ⟨hl, ho⟩ : ts.length = fs.length /\ ∀ e ∈ ts, inOrd e := hX
      obtain ⟨x, l1, h1, h⟩ := label_ok h
      obtain ⟨h2, h⟩ := must_ok h
      obtain ⟨a, l3, ha, h⟩ := go_ok h
      obtain ⟨oa, h3⟩ := ih .expr _ _ _ _ trivial ha
      have ho' : ∀ e ∈ ts ++ [a], inOrd e := fun e he => by
        rw [List.mem_append, List.mem_singleton] at he
        rcases he with he | rfl
        · exact ho e he
        · exact oa
      split at h
      · rename_i hw
        have h0 := isT_len hw
        obtain ⟨ot, h4⟩ := ih (.recL _ _ _) _ _ _ _ ⟨by simp [hl], ho'⟩ h
        simp only [eats] at h3 h4 ⊢
        exact ⟨ot, by omega⟩
      · obtain ⟨h4, h⟩ := must_ok h
        cases h
        simp only [eats] at h3 ⊢
        exact ⟨ord_join ho' (by simp [kids, kids0, many, mk, hl]), by omega⟩
    | casL p fs ts =>
      rw [G] at h
      obtain ⟨hl, ho⟩ : ts.length = fs.length + 1 /\ ∀ e ∈ ts, inOrd e := hX
      obtain ⟨x, l1, h1, h⟩ := label_ok h
      obtain ⟨v, l2, h1', h⟩ := text_ok h
      obtain ⟨h2, h⟩ := must_ok h
      obtain ⟨a, l3, ha, h⟩ := go_ok h
      obtain ⟨oa, h3⟩ := ih .expr _ _ _ _ trivial ha
      have ho' : ∀ e ∈ ts ++ [a], inOrd e := fun e he => by
        rw [List.mem_append, List.mem_singleton] at he
        rcases he with he | rfl
        · exact ho e he
        · exact oa
      split at h
      · rename_i hw
        have h0 := isT_len hw
        obtain ⟨ot, h4⟩ := ih (.casL _ _ _) _ _ _ _ ⟨by simp [hl], ho'⟩ h
        simp only [eats] at h3 h4 ⊢
        exact ⟨ot, by omega⟩
      · obtain ⟨h4, h⟩ := must_ok h
        cases h
        simp only [eats] at h3 ⊢
        exact ⟨ord_join ho' (by simp [kids, kids0, many, mk, hl]), by omega⟩
def Pl (E : Int) (l : List Tk) (p : Int) : Prop := p = E ∨ ∃ t ∈ l, p = t.p
theorem Pl.suf {E : Int} {l r : List Tk} {p : Int} (h : Pl E r p) (hs : r <:+ l) : Pl E l p := h.imp id fun ⟨t, ht, e⟩ => ⟨t, hs.subset ht, e⟩
theorem plc_Pl (E : Int) (l : List Tk) : Pl E l (plc E l) := by
  cases l with
  | nil => exact .inl rfl
  | cons t r => exact .inr ⟨t, by simp, rfl⟩
def cX : Pr -> Nat
  | .expr => 7 | .cmp => 6 | .sum => 5 | .prod => 4 | .app => 3 | .post => 2 | .atom => 1
  | .appL _ => 3
  | _ => 1
def need (X : Pr) (m : Nat) : Nat := 8 * m + cX X
theorem text_suf {E k : Int} {l r : List Tk} {f : ByteArray -> List Tk -> Rs} {t : List Nd} (h : textT E k l f = .ok t r) : ∃ x m, m.length + 1 = l.length /\ m <:+ l /\ f x m = .ok t r := by
  cases l with
  | nil => cases h
  | cons y m =>
    simp only [textT] at h
    split at h
    · exact ⟨y.s, m, rfl, List.suffix_cons _ _, h⟩
    · cases h
theorem label_suf {E k : Int} {fs : List Fld} {l r : List Tk} {f : ByteArray -> List Tk -> Rs} {t : List Nd} (h : labelT E k fs l f = .ok t r) : ∃ x m, m.length + 1 = l.length /\ m <:+ l /\ f x m = .ok t r := by
  obtain ⟨x, m, hm, hs, h⟩ := text_suf h
  split at h
  · cases h
  · split at h
    · cases h
    · exact ⟨x, m, hm, hs, h⟩
theorem go_bad {r : Rs} {f : List Nd -> List Tk -> Rs} {e p : Int} (h : r.go f = .bad e p) : r = .bad e p ∨ ∃ a m, r = .ok a m /\ f a m = .bad e p := by
  cases r with
  | ok a m => exact .inr ⟨a, m, rfl, h⟩
  | bad e p => exact .inl h
theorem must_bad {E k : Int} {s : List UInt8} {l : List Tk} {f : List Tk -> Rs} {e p : Int} (h : must E k s l f = .bad e p) : (e ≠ 0 /\ Pl E l p) ∨ (l.tail.length + 1 = l.length /\ f l.tail = .bad e p) := by
  unfold must at h
  split at h
  · exact .inr ⟨isT_len (by assumption), h⟩
  · cases h; exact .inl ⟨by decide, plc_Pl E l⟩
theorem text_bad {E k : Int} {l : List Tk} {f : ByteArray -> List Tk -> Rs} {e p : Int} (h : textT E k l f = .bad e p) : (e ≠ 0 /\ Pl E l p) ∨ ∃ x m, m.length + 1 = l.length /\ m <:+ l /\ f x m = .bad e p := by
  cases l with
  | nil => cases h; exact .inl ⟨by decide, .inl rfl⟩
  | cons y m =>
    simp only [textT] at h
    split at h
    · exact .inr ⟨y.s, m, rfl, List.suffix_cons _ _, h⟩
    · cases h; exact .inl ⟨by decide, .inr ⟨y, by simp, rfl⟩⟩
theorem label_bad {E k : Int} {fs : List Fld} {l : List Tk} {f : ByteArray -> List Tk -> Rs} {e p : Int} (h : labelT E k fs l f = .bad e p) : (e ≠ 0 /\ Pl E l p) ∨ ∃ x m, m.length + 1 = l.length /\ m <:+ l /\ f x m = .bad e p := by
  rcases text_bad h with h | ⟨x, m, hm, hs, h⟩
  · exact .inl h
  · split at h
    · cases h; exact .inl ⟨by decide, plc_Pl E l⟩
    · split at h
      · cases h; exact .inl ⟨by decide, plc_Pl E l⟩
      · exact .inr ⟨x, m, hm, hs, h⟩
theorem G_suf (E : Int) : ∀ (f : Nat) (X : Pr) (d : Nat) (l : List Tk) (t : List Nd) (r : List Tk), G E f X d l = .ok t r -> r <:+ l /\ r.length + eats X <= l.length := by
  intro f
  induction f with
  | zero => intro X d l t r h; cases h
  | succ f ih =>
    intro X d l t r h
    cases X with
    | expr =>
      rw [G] at h
      split at h
      · cases h
      split at h
      · rename_i _ hw
        have h0 := isT_len hw
        have s0 := List.tail_suffix (l)
        obtain ⟨x1, l1, h1, s1, h⟩ := text_suf h
        obtain ⟨h2, h⟩ := must_ok h
        have s2 := List.tail_suffix (l1)
        obtain ⟨a3, l3, g3, h⟩ := go_ok h
        obtain ⟨s3, h3⟩ := ih (.expr) _ _ _ _ g3
        cases h
        simp only [eats] at h3 ⊢
        exact ⟨(s3).trans ((s2).trans ((s1).trans (s0))), by omega⟩
      split at h
      · rename_i _ _ hw
        split at h
        · rename_i hr
          have h0 := isT_len hw
          have s0 := List.tail_suffix (l)
          have h1 := isT_len hr
          have s1 := List.tail_suffix ((l).tail)
          obtain ⟨x2, l2, h2, s2, h⟩ := text_suf h
          obtain ⟨h3, h⟩ := must_ok h
          have s3 := List.tail_suffix (l2)
          obtain ⟨a4, l4, g4, h⟩ := go_ok h
          obtain ⟨s4, h4⟩ := ih (.expr) _ _ _ _ g4
          split at h
          · obtain ⟨h5, h⟩ := must_ok h
            have s5 := List.tail_suffix (l4)
            obtain ⟨a6, l6, g6, h⟩ := go_ok h
            obtain ⟨s6, h6⟩ := ih (.expr) _ _ _ _ g6
            cases h
            simp only [eats] at h4 h6 ⊢
            exact ⟨(s6).trans ((s5).trans ((s4).trans ((s3).trans ((s2).trans ((s1).trans (s0)))))), by omega⟩
          · cases h
        · have h0 := isT_len hw
          have s0 := List.tail_suffix (l)
          obtain ⟨x1, l1, h1, s1, h⟩ := text_suf h
          obtain ⟨h2, h⟩ := must_ok h
          have s2 := List.tail_suffix (l1)
          obtain ⟨a3, l3, g3, h⟩ := go_ok h
          obtain ⟨s3, h3⟩ := ih (.expr) _ _ _ _ g3
          obtain ⟨h4, h⟩ := must_ok h
          have s4 := List.tail_suffix (l3)
          obtain ⟨a5, l5, g5, h⟩ := go_ok h
          obtain ⟨s5, h5⟩ := ih (.expr) _ _ _ _ g5
          cases h
          simp only [eats] at h3 h5 ⊢
          exact ⟨(s5).trans ((s4).trans ((s3).trans ((s2).trans ((s1).trans (s0))))), by omega⟩
      split at h
      · rename_i _ _ _ hw
        have h0 := isT_len hw
        have s0 := List.tail_suffix (l)
        obtain ⟨a1, l1, g1, h⟩ := go_ok h
        obtain ⟨s1, h1⟩ := ih (.expr) _ _ _ _ g1
        obtain ⟨h2, h⟩ := must_ok h
        have s2 := List.tail_suffix (l1)
        obtain ⟨a3, l3, g3, h⟩ := go_ok h
        obtain ⟨s3, h3⟩ := ih (.expr) _ _ _ _ g3
        obtain ⟨h4, h⟩ := must_ok h
        have s4 := List.tail_suffix (l3)
        obtain ⟨a5, l5, g5, h⟩ := go_ok h
        obtain ⟨s5, h5⟩ := ih (.expr) _ _ _ _ g5
        cases h
        simp only [eats] at h1 h3 h5 ⊢
        exact ⟨(s5).trans ((s4).trans ((s3).trans ((s2).trans ((s1).trans (s0))))), by omega⟩
      · exact ih .cmp _ _ _ _ h
    | cmp =>
      rw [G] at h
      obtain ⟨a0, l0, g0, h⟩ := go_ok h
      obtain ⟨s0, h0⟩ := ih (.sum) _ _ _ _ g0
      split at h
      · cases h; simp only [eats] at h0 ⊢; exact ⟨s0, h0⟩
      · rename_i n hop
        have h1 := op_len hop
        have s1 := List.tail_suffix (l0)
        obtain ⟨a2, l2, g2, h⟩ := go_ok h
        obtain ⟨s2, h2⟩ := ih (.sum) _ _ _ _ g2
        cases h
        simp only [eats] at h0 h2 ⊢
        exact ⟨(s2).trans ((s1).trans (s0)), by omega⟩
    | sum =>
      rw [G] at h
      obtain ⟨a0, l0, g0, h⟩ := go_ok h
      obtain ⟨s0, h0⟩ := ih (.prod) _ _ _ _ g0
      obtain ⟨s1, h1⟩ := ih (.sumL _) _ _ _ _ h
      simp only [eats] at h0 h1 ⊢
      exact ⟨(s1).trans (s0), by omega⟩
    | prod =>
      rw [G] at h
      obtain ⟨a0, l0, g0, h⟩ := go_ok h
      obtain ⟨s0, h0⟩ := ih (.app) _ _ _ _ g0
      obtain ⟨s1, h1⟩ := ih (.prodL _) _ _ _ _ h
      simp only [eats] at h0 h1 ⊢
      exact ⟨(s1).trans (s0), by omega⟩
    | post =>
      rw [G] at h
      obtain ⟨a0, l0, g0, h⟩ := go_ok h
      obtain ⟨s0, h0⟩ := ih (.atom) _ _ _ _ g0
      obtain ⟨s1, h1⟩ := ih (.postL _) _ _ _ _ h
      simp only [eats] at h0 h1 ⊢
      exact ⟨(s1).trans (s0), by omega⟩
    | sumL a =>
      rw [G] at h
      split at h
      · cases h; exact ⟨List.suffix_refl _, Nat.le_refl _⟩
      · rename_i n hop
        have h0 := op_len hop
        have s0 := List.tail_suffix (l)
        obtain ⟨a1, l1, g1, h⟩ := go_ok h
        obtain ⟨s1, h1⟩ := ih (.prod) _ _ _ _ g1
        obtain ⟨s2, h2⟩ := ih (.sumL _) _ _ _ _ h
        simp only [eats] at h1 h2 ⊢
        exact ⟨(s2).trans ((s1).trans (s0)), by omega⟩
    | prodL a =>
      rw [G] at h
      split at h
      · cases h; exact ⟨List.suffix_refl _, Nat.le_refl _⟩
      · rename_i n hop
        have h0 := op_len hop
        have s0 := List.tail_suffix (l)
        obtain ⟨a1, l1, g1, h⟩ := go_ok h
        obtain ⟨s1, h1⟩ := ih (.app) _ _ _ _ g1
        obtain ⟨s2, h2⟩ := ih (.prodL _) _ _ _ _ h
        simp only [eats] at h1 h2 ⊢
        exact ⟨(s2).trans ((s1).trans (s0)), by omega⟩
    | app =>
      rw [G] at h
      split at h
      · obtain ⟨x0, l0, h0, s0, h⟩ := text_suf h
        obtain ⟨a1, l1, g1, h⟩ := go_ok h
        obtain ⟨s1, h1⟩ := ih (.post) _ _ _ _ g1
        cases h
        simp only [eats] at h1 ⊢
        exact ⟨(s1).trans (s0), by omega⟩
      · obtain ⟨a0, l0, g0, h⟩ := go_ok h
        obtain ⟨s0, h0⟩ := ih (.post) _ _ _ _ g0
        obtain ⟨s1, h1⟩ := ih (.appL _) _ _ _ _ h
        simp only [eats] at h0 h1 ⊢
        exact ⟨(s1).trans (s0), by omega⟩
    | appL a =>
      rw [G] at h
      split at h
      · obtain ⟨a0, l0, g0, h⟩ := go_ok h
        obtain ⟨s0, h0⟩ := ih (.post) _ _ _ _ g0
        obtain ⟨s1, h1⟩ := ih (.appL _) _ _ _ _ h
        simp only [eats] at h0 h1 ⊢
        exact ⟨(s1).trans (s0), by omega⟩
      · cases h; exact ⟨List.suffix_refl _, Nat.le_refl _⟩
    | postL a =>
      rw [G] at h
      split at h
      · rename_i hw
        have h0 := isT_len hw
        have s0 := List.tail_suffix (l)
        obtain ⟨x1, l1, h1, s1, h⟩ := text_suf h
        obtain ⟨s2, h2⟩ := ih (.postL _) _ _ _ _ h
        simp only [eats] at h2 ⊢
        exact ⟨(s2).trans ((s1).trans (s0)), by omega⟩
      · cases h; exact ⟨List.suffix_refl _, Nat.le_refl _⟩
    | atom =>
      cases l with
      | nil => rw [G] at h; cases h
      | cons y m =>
        rw [G] at h
        have s9 := List.suffix_cons y m
        simp only [eats, List.length_cons]
        split at h
        · cases h; exact ⟨s9, Nat.le_refl _⟩
        split at h
        · cases h; exact ⟨s9, Nat.le_refl _⟩
        split at h
        · cases h; exact ⟨s9, Nat.le_refl _⟩
        split at h
        · cases h; exact ⟨s9, Nat.le_refl _⟩
        split at h
        · cases h; exact ⟨s9, Nat.le_refl _⟩
        split at h
        · obtain ⟨a0, l0, g0, h⟩ := go_ok h
          obtain ⟨s0, h0⟩ := ih (.expr) _ _ _ _ g0
          obtain ⟨h1, h⟩ := must_ok h
          have s1 := List.tail_suffix (l0)
          cases h
          simp only [eats] at h0
          exact ⟨((s1).trans (s0)).trans s9, by omega⟩
        split at h
        · split at h
          · rename_i hr
            have h0 := isT_len hr
            have s0 := List.tail_suffix m
            cases h
            exact ⟨(s0).trans s9, by omega⟩
          · obtain ⟨s0, h0⟩ := ih (.recL _ _ _) _ _ _ _ h
            simp only [eats] at h0
            exact ⟨(s0).trans s9, by omega⟩
        split at h
        · obtain ⟨a0, l0, g0, h⟩ := go_ok h
          obtain ⟨s0, h0⟩ := ih (.expr) _ _ _ _ g0
          obtain ⟨h1, h⟩ := must_ok h
          have s1 := List.tail_suffix (l0)
          obtain ⟨s2, h2⟩ := ih (.casL _ _ _) _ _ _ _ h
          simp only [eats] at h0 h2
          exact ⟨((s2).trans ((s1).trans (s0))).trans s9, by omega⟩
        · cases h
    | recL p fs ts =>
      rw [G] at h
      obtain ⟨x0, l0, h0, s0, h⟩ := label_suf h
      obtain ⟨h1, h⟩ := must_ok h
      have s1 := List.tail_suffix (l0)
      obtain ⟨a2, l2, g2, h⟩ := go_ok h
      obtain ⟨s2, h2⟩ := ih (.expr) _ _ _ _ g2
      split at h
      · rename_i hw
        have h3 := isT_len hw
        have s3 := List.tail_suffix (l2)
        obtain ⟨s4, h4⟩ := ih (.recL _ _ _) _ _ _ _ h
        simp only [eats] at h2 h4 ⊢
        exact ⟨(s4).trans ((s3).trans ((s2).trans ((s1).trans (s0)))), by omega⟩
      · obtain ⟨h3, h⟩ := must_ok h
        have s3 := List.tail_suffix (l2)
        cases h
        simp only [eats] at h2 ⊢
        exact ⟨(s3).trans ((s2).trans ((s1).trans (s0))), by omega⟩
    | casL p fs ts =>
      rw [G] at h
      obtain ⟨x0, l0, h0, s0, h⟩ := label_suf h
      obtain ⟨x1, l1, h1, s1, h⟩ := text_suf h
      obtain ⟨h2, h⟩ := must_ok h
      have s2 := List.tail_suffix (l1)
      obtain ⟨a3, l3, g3, h⟩ := go_ok h
      obtain ⟨s3, h3⟩ := ih (.expr) _ _ _ _ g3
      split at h
      · rename_i hw
        have h4 := isT_len hw
        have s4 := List.tail_suffix (l3)
        obtain ⟨s5, h5⟩ := ih (.casL _ _ _) _ _ _ _ h
        simp only [eats] at h3 h5 ⊢
        exact ⟨(s5).trans ((s4).trans ((s3).trans ((s2).trans ((s1).trans (s0))))), by omega⟩
      · obtain ⟨h4, h⟩ := must_ok h
        have s4 := List.tail_suffix (l3)
        cases h
        simp only [eats] at h3 ⊢
        exact ⟨(s4).trans ((s3).trans ((s2).trans ((s1).trans (s0)))), by omega⟩
theorem G_bad (E : Int) : ∀ (f : Nat) (X : Pr) (d : Nat) (l : List Tk) (e p : Int), need X l.length <= f -> G E f X d l = .bad e p -> e ≠ 0 /\ Pl E l p := by
  intro f
  induction f with
  | zero => intro X d l e p hn h; cases X <;> simp [need, cX] at hn
  | succ f ih =>
    intro X d l e p hn h
    cases X with
    | expr =>
      rw [G] at h
      split at h
      · cases h; exact ⟨by decide, plc_Pl E l⟩
      split at h
      · rename_i _ hw
        have h0 := isT_len hw
        have s0 := List.tail_suffix (l)
        rcases text_bad h with h | ⟨x1, l1, h1, s1, h⟩
        · exact ⟨h.1, h.2.suf (s0)⟩
        rcases must_bad h with h | ⟨h2, h⟩
        · exact ⟨h.1, h.2.suf ((s1).trans (s0))⟩
        have s2 := List.tail_suffix (l1)
        rcases go_bad h with h | ⟨a3, l3, g3, h⟩
        · obtain ⟨he, hp⟩ := ih (.expr) _ _ _ _ (by simp only [need, cX] at hn ⊢; omega) h
          exact ⟨he, hp.suf ((s2).trans ((s1).trans (s0)))⟩
        obtain ⟨s3, h3⟩ := G_suf E f (.expr) _ _ _ _ g3
        simp only [eats] at h3
        cases h
      split at h
      · rename_i _ _ hw
        split at h
        · rename_i hr
          have h0 := isT_len hw
          have s0 := List.tail_suffix (l)
          have h1 := isT_len hr
          have s1 := List.tail_suffix ((l).tail)
          rcases text_bad h with h | ⟨x2, l2, h2, s2, h⟩
          · exact ⟨h.1, h.2.suf ((s1).trans (s0))⟩
          rcases must_bad h with h | ⟨h3, h⟩
          · exact ⟨h.1, h.2.suf ((s2).trans ((s1).trans (s0)))⟩
          have s3 := List.tail_suffix (l2)
          rcases go_bad h with h | ⟨a4, l4, g4, h⟩
          · obtain ⟨he, hp⟩ := ih (.expr) _ _ _ _ (by simp only [need, cX] at hn ⊢; omega) h
            exact ⟨he, hp.suf ((s3).trans ((s2).trans ((s1).trans (s0))))⟩
          obtain ⟨s4, h4⟩ := G_suf E f (.expr) _ _ _ _ g4
          simp only [eats] at h4
          split at h
          · rcases must_bad h with h | ⟨h5, h⟩
            · exact ⟨h.1, h.2.suf ((s4).trans ((s3).trans ((s2).trans ((s1).trans (s0)))))⟩
            have s5 := List.tail_suffix (l4)
            rcases go_bad h with h | ⟨a6, l6, g6, h⟩
            · obtain ⟨he, hp⟩ := ih (.expr) _ _ _ _ (by simp only [need, cX] at hn ⊢; omega) h
              exact ⟨he, hp.suf ((s5).trans ((s4).trans ((s3).trans ((s2).trans ((s1).trans (s0))))))⟩
            obtain ⟨s6, h6⟩ := G_suf E f (.expr) _ _ _ _ g6
            simp only [eats] at h6
            cases h
          · cases h; exact ⟨by decide, (plc_Pl E _).suf ((s3).trans ((s2).trans ((s1).trans (s0))))⟩
        · have h0 := isT_len hw
          have s0 := List.tail_suffix (l)
          rcases text_bad h with h | ⟨x1, l1, h1, s1, h⟩
          · exact ⟨h.1, h.2.suf (s0)⟩
          rcases must_bad h with h | ⟨h2, h⟩
          · exact ⟨h.1, h.2.suf ((s1).trans (s0))⟩
          have s2 := List.tail_suffix (l1)
          rcases go_bad h with h | ⟨a3, l3, g3, h⟩
          · obtain ⟨he, hp⟩ := ih (.expr) _ _ _ _ (by simp only [need, cX] at hn ⊢; omega) h
            exact ⟨he, hp.suf ((s2).trans ((s1).trans (s0)))⟩
          obtain ⟨s3, h3⟩ := G_suf E f (.expr) _ _ _ _ g3
          simp only [eats] at h3
          rcases must_bad h with h | ⟨h4, h⟩
          · exact ⟨h.1, h.2.suf ((s3).trans ((s2).trans ((s1).trans (s0))))⟩
          have s4 := List.tail_suffix (l3)
          rcases go_bad h with h | ⟨a5, l5, g5, h⟩
          · obtain ⟨he, hp⟩ := ih (.expr) _ _ _ _ (by simp only [need, cX] at hn ⊢; omega) h
            exact ⟨he, hp.suf ((s4).trans ((s3).trans ((s2).trans ((s1).trans (s0)))))⟩
          obtain ⟨s5, h5⟩ := G_suf E f (.expr) _ _ _ _ g5
          simp only [eats] at h5
          cases h
      split at h
      · rename_i _ _ _ hw
        have h0 := isT_len hw
        have s0 := List.tail_suffix (l)
        rcases go_bad h with h | ⟨a1, l1, g1, h⟩
        · obtain ⟨he, hp⟩ := ih (.expr) _ _ _ _ (by simp only [need, cX] at hn ⊢; omega) h
          exact ⟨he, hp.suf (s0)⟩
        obtain ⟨s1, h1⟩ := G_suf E f (.expr) _ _ _ _ g1
        simp only [eats] at h1
        rcases must_bad h with h | ⟨h2, h⟩
        · exact ⟨h.1, h.2.suf ((s1).trans (s0))⟩
        have s2 := List.tail_suffix (l1)
        rcases go_bad h with h | ⟨a3, l3, g3, h⟩
        · obtain ⟨he, hp⟩ := ih (.expr) _ _ _ _ (by simp only [need, cX] at hn ⊢; omega) h
          exact ⟨he, hp.suf ((s2).trans ((s1).trans (s0)))⟩
        obtain ⟨s3, h3⟩ := G_suf E f (.expr) _ _ _ _ g3
        simp only [eats] at h3
        rcases must_bad h with h | ⟨h4, h⟩
        · exact ⟨h.1, h.2.suf ((s3).trans ((s2).trans ((s1).trans (s0))))⟩
        have s4 := List.tail_suffix (l3)
        rcases go_bad h with h | ⟨a5, l5, g5, h⟩
        · obtain ⟨he, hp⟩ := ih (.expr) _ _ _ _ (by simp only [need, cX] at hn ⊢; omega) h
          exact ⟨he, hp.suf ((s4).trans ((s3).trans ((s2).trans ((s1).trans (s0)))))⟩
        obtain ⟨s5, h5⟩ := G_suf E f (.expr) _ _ _ _ g5
        simp only [eats] at h5
        cases h
      · obtain ⟨he, hp⟩ := ih .cmp _ _ _ _ (by simp only [need, cX] at hn ⊢; omega) h
        exact ⟨he, hp.suf (List.suffix_refl _)⟩
    | cmp =>
      rw [G] at h
      rcases go_bad h with h | ⟨a0, l0, g0, h⟩
      · obtain ⟨he, hp⟩ := ih (.sum) _ _ _ _ (by simp only [need, cX] at hn ⊢; omega) h
        exact ⟨he, hp.suf (List.suffix_refl _)⟩
      obtain ⟨s0, h0⟩ := G_suf E f (.sum) _ _ _ _ g0
      simp only [eats] at h0
      split at h
      · cases h
      · rename_i n hop
        have h1 := op_len hop
        have s1 := List.tail_suffix (l0)
        rcases go_bad h with h | ⟨a2, l2, g2, h⟩
        · obtain ⟨he, hp⟩ := ih (.sum) _ _ _ _ (by simp only [need, cX] at hn ⊢; omega) h
          exact ⟨he, hp.suf ((s1).trans (s0))⟩
        obtain ⟨s2, h2⟩ := G_suf E f (.sum) _ _ _ _ g2
        simp only [eats] at h2
        cases h
    | sum =>
      rw [G] at h
      rcases go_bad h with h | ⟨a0, l0, g0, h⟩
      · obtain ⟨he, hp⟩ := ih (.prod) _ _ _ _ (by simp only [need, cX] at hn ⊢; omega) h
        exact ⟨he, hp.suf (List.suffix_refl _)⟩
      obtain ⟨s0, h0⟩ := G_suf E f (.prod) _ _ _ _ g0
      simp only [eats] at h0
      obtain ⟨he, hp⟩ := ih (.sumL _) _ _ _ _ (by simp only [need, cX] at hn ⊢; omega) h
      exact ⟨he, hp.suf (s0)⟩
    | prod =>
      rw [G] at h
      rcases go_bad h with h | ⟨a0, l0, g0, h⟩
      · obtain ⟨he, hp⟩ := ih (.app) _ _ _ _ (by simp only [need, cX] at hn ⊢; omega) h
        exact ⟨he, hp.suf (List.suffix_refl _)⟩
      obtain ⟨s0, h0⟩ := G_suf E f (.app) _ _ _ _ g0
      simp only [eats] at h0
      obtain ⟨he, hp⟩ := ih (.prodL _) _ _ _ _ (by simp only [need, cX] at hn ⊢; omega) h
      exact ⟨he, hp.suf (s0)⟩
    | post =>
      rw [G] at h
      rcases go_bad h with h | ⟨a0, l0, g0, h⟩
      · obtain ⟨he, hp⟩ := ih (.atom) _ _ _ _ (by simp only [need, cX] at hn ⊢; omega) h
        exact ⟨he, hp.suf (List.suffix_refl _)⟩
      obtain ⟨s0, h0⟩ := G_suf E f (.atom) _ _ _ _ g0
      simp only [eats] at h0
      obtain ⟨he, hp⟩ := ih (.postL _) _ _ _ _ (by simp only [need, cX] at hn ⊢; omega) h
      exact ⟨he, hp.suf (s0)⟩
    | sumL a =>
      rw [G] at h
      split at h
      · cases h
      · rename_i n hop
        have h0 := op_len hop
        have s0 := List.tail_suffix (l)
        rcases go_bad h with h | ⟨a1, l1, g1, h⟩
        · obtain ⟨he, hp⟩ := ih (.prod) _ _ _ _ (by simp only [need, cX] at hn ⊢; omega) h
          exact ⟨he, hp.suf (s0)⟩
        obtain ⟨s1, h1⟩ := G_suf E f (.prod) _ _ _ _ g1
        simp only [eats] at h1
        obtain ⟨he, hp⟩ := ih (.sumL _) _ _ _ _ (by simp only [need, cX] at hn ⊢; omega) h
        exact ⟨he, hp.suf ((s1).trans (s0))⟩
    | prodL a =>
      rw [G] at h
      split at h
      · cases h
      · rename_i n hop
        have h0 := op_len hop
        have s0 := List.tail_suffix (l)
        rcases go_bad h with h | ⟨a1, l1, g1, h⟩
        · obtain ⟨he, hp⟩ := ih (.app) _ _ _ _ (by simp only [need, cX] at hn ⊢; omega) h
          exact ⟨he, hp.suf (s0)⟩
        obtain ⟨s1, h1⟩ := G_suf E f (.app) _ _ _ _ g1
        simp only [eats] at h1
        obtain ⟨he, hp⟩ := ih (.prodL _) _ _ _ _ (by simp only [need, cX] at hn ⊢; omega) h
        exact ⟨he, hp.suf ((s1).trans (s0))⟩
    | app =>
      rw [G] at h
      split at h
      · rcases text_bad h with h | ⟨x0, l0, h0, s0, h⟩
        · exact ⟨h.1, h.2.suf (List.suffix_refl _)⟩
        rcases go_bad h with h | ⟨a1, l1, g1, h⟩
        · obtain ⟨he, hp⟩ := ih (.post) _ _ _ _ (by simp only [need, cX] at hn ⊢; omega) h
          exact ⟨he, hp.suf (s0)⟩
        obtain ⟨s1, h1⟩ := G_suf E f (.post) _ _ _ _ g1
        simp only [eats] at h1
        cases h
      · rcases go_bad h with h | ⟨a0, l0, g0, h⟩
        · obtain ⟨he, hp⟩ := ih (.post) _ _ _ _ (by simp only [need, cX] at hn ⊢; omega) h
          exact ⟨he, hp.suf (List.suffix_refl _)⟩
        obtain ⟨s0, h0⟩ := G_suf E f (.post) _ _ _ _ g0
        simp only [eats] at h0
        obtain ⟨he, hp⟩ := ih (.appL _) _ _ _ _ (by simp only [need, cX] at hn ⊢; omega) h
        exact ⟨he, hp.suf (s0)⟩
    | appL a =>
      rw [G] at h
      split at h
      · rcases go_bad h with h | ⟨a0, l0, g0, h⟩
        · obtain ⟨he, hp⟩ := ih (.post) _ _ _ _ (by simp only [need, cX] at hn ⊢; omega) h
          exact ⟨he, hp.suf (List.suffix_refl _)⟩
        obtain ⟨s0, h0⟩ := G_suf E f (.post) _ _ _ _ g0
        simp only [eats] at h0
        obtain ⟨he, hp⟩ := ih (.appL _) _ _ _ _ (by simp only [need, cX] at hn ⊢; omega) h
        exact ⟨he, hp.suf (s0)⟩
      · cases h
    | postL a =>
      rw [G] at h
      split at h
      · rename_i hw
        have h0 := isT_len hw
        have s0 := List.tail_suffix (l)
        rcases text_bad h with h | ⟨x1, l1, h1, s1, h⟩
        · exact ⟨h.1, h.2.suf (s0)⟩
        obtain ⟨he, hp⟩ := ih (.postL _) _ _ _ _ (by simp only [need, cX] at hn ⊢; omega) h
        exact ⟨he, hp.suf ((s1).trans (s0))⟩
      · cases h
    | atom =>
      cases l with
      | nil => rw [G] at h; cases h; exact ⟨by decide, .inl rfl⟩
      | cons y m =>
        rw [G] at h
        have s9 := List.suffix_cons y m
        simp only [List.length_cons] at hn
        split at h
        · cases h
        split at h
        · cases h
        split at h
        · cases h
        split at h
        · cases h
        split at h
        · cases h
        split at h
        · rcases go_bad h with h | ⟨a0, l0, g0, h⟩
          · obtain ⟨he, hp⟩ := ih (.expr) _ _ _ _ (by simp only [need, cX] at hn ⊢; omega) h
            exact ⟨he, hp.suf s9⟩
          obtain ⟨s0, h0⟩ := G_suf E f (.expr) _ _ _ _ g0
          simp only [eats] at h0
          rcases must_bad h with h | ⟨h1, h⟩
          · exact ⟨h.1, h.2.suf ((s0).trans s9)⟩
          have s1 := List.tail_suffix (l0)
          cases h
        split at h
        · split at h
          · rename_i hr
            have h0 := isT_len hr
            have s0 := List.tail_suffix m
            cases h
          · obtain ⟨he, hp⟩ := ih (.recL _ _ _) _ _ _ _ (by simp only [need, cX] at hn ⊢; omega) h
            exact ⟨he, hp.suf s9⟩
        split at h
        · rcases go_bad h with h | ⟨a0, l0, g0, h⟩
          · obtain ⟨he, hp⟩ := ih (.expr) _ _ _ _ (by simp only [need, cX] at hn ⊢; omega) h
            exact ⟨he, hp.suf s9⟩
          obtain ⟨s0, h0⟩ := G_suf E f (.expr) _ _ _ _ g0
          simp only [eats] at h0
          rcases must_bad h with h | ⟨h1, h⟩
          · exact ⟨h.1, h.2.suf ((s0).trans s9)⟩
          have s1 := List.tail_suffix (l0)
          obtain ⟨he, hp⟩ := ih (.casL _ _ _) _ _ _ _ (by simp only [need, cX] at hn ⊢; omega) h
          exact ⟨he, hp.suf (((s1).trans (s0)).trans s9)⟩
        · cases h; exact ⟨by decide, .inr ⟨y, by simp, rfl⟩⟩
    | recL p fs ts =>
      rw [G] at h
      rcases label_bad h with h | ⟨x0, l0, h0, s0, h⟩
      · exact ⟨h.1, h.2.suf (List.suffix_refl _)⟩
      rcases must_bad h with h | ⟨h1, h⟩
      · exact ⟨h.1, h.2.suf (s0)⟩
      have s1 := List.tail_suffix (l0)
      rcases go_bad h with h | ⟨a2, l2, g2, h⟩
      · obtain ⟨he, hp⟩ := ih (.expr) _ _ _ _ (by simp only [need, cX] at hn ⊢; omega) h
        exact ⟨he, hp.suf ((s1).trans (s0))⟩
      obtain ⟨s2, h2⟩ := G_suf E f (.expr) _ _ _ _ g2
      simp only [eats] at h2
      split at h
      · rename_i hw
        have h3 := isT_len hw
        have s3 := List.tail_suffix (l2)
        obtain ⟨he, hp⟩ := ih (.recL _ _ _) _ _ _ _ (by simp only [need, cX] at hn ⊢; omega) h
        exact ⟨he, hp.suf ((s3).trans ((s2).trans ((s1).trans (s0))))⟩
      · rcases must_bad h with h | ⟨h3, h⟩
        · exact ⟨h.1, h.2.suf ((s2).trans ((s1).trans (s0)))⟩
        have s3 := List.tail_suffix (l2)
        cases h
    | casL p fs ts =>
      rw [G] at h
      rcases label_bad h with h | ⟨x0, l0, h0, s0, h⟩
      · exact ⟨h.1, h.2.suf (List.suffix_refl _)⟩
      rcases text_bad h with h | ⟨x1, l1, h1, s1, h⟩
      · exact ⟨h.1, h.2.suf (s0)⟩
      rcases must_bad h with h | ⟨h2, h⟩
      · exact ⟨h.1, h.2.suf ((s1).trans (s0))⟩
      have s2 := List.tail_suffix (l1)
      rcases go_bad h with h | ⟨a3, l3, g3, h⟩
      · obtain ⟨he, hp⟩ := ih (.expr) _ _ _ _ (by simp only [need, cX] at hn ⊢; omega) h
        exact ⟨he, hp.suf ((s2).trans ((s1).trans (s0)))⟩
      obtain ⟨s3, h3⟩ := G_suf E f (.expr) _ _ _ _ g3
      simp only [eats] at h3
      split at h
      · rename_i hw
        have h4 := isT_len hw
        have s4 := List.tail_suffix (l3)
        obtain ⟨he, hp⟩ := ih (.casL _ _ _) _ _ _ _ (by simp only [need, cX] at hn ⊢; omega) h
        exact ⟨he, hp.suf ((s4).trans ((s3).trans ((s2).trans ((s1).trans (s0)))))⟩
      · rcases must_bad h with h | ⟨h4, h⟩
        · exact ⟨h.1, h.2.suf ((s3).trans ((s2).trans ((s1).trans (s0))))⟩
        have s4 := List.tail_suffix (l3)
        cases h
end Go.Proofs.YtjakeidbajkdcaaGreatDoor.T
