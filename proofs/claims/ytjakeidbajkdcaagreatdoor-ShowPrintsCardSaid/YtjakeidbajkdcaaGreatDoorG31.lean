/- Joined by program: KGram, KPlace, TNum, KSize, KText, KLay, KNeat, APure, AKeep. -/
import Derived.Test.YtjakeidbajkdcaaGreatDoorG17
import Derived.Test.YtjakeidbajkdcaaGreatDoorG02
/- The language of programs, as a function over lists of tokens: what each row reads, what is left then, or the first error and its place. By fuel; 12 for each token and 12 more are enough. -/
namespace Go.Proofs.YtjakeidbajkdcaaGreatDoor.T
/-- A token: kind, text, number, place. -/
structure Tk where
  k : Int
  s : ByteArray
  n : Int
  p : Int
inductive Rs where
  | ok (t : List Nd) (l : List Tk)
  | bad (e p : Int)
inductive Pr where
  | expr | cmp | sum | prod | app | post | atom
  | sumL (a : List Nd) | prodL (a : List Nd) | appL (a : List Nd) | postL (a : List Nd)
  | recL (p : Int) (fs : List Fld) (ts : List (List Nd)) | casL (p : Int) (fs : List Fld) (ts : List (List Nd))
def Rs.go (r : Rs) (f : List Nd → List Tk → Rs) : Rs := match r with | .ok t l => f t l | .bad e p => .bad e p
/-- The place of what is next. -/
def plc (E : Int) (l : List Tk) : Int := match l with | [] => E | t :: _ => t.p
def isT (k : Int) (s : List UInt8) (l : List Tk) : Bool := match l with | [] => false | t :: _ => decide (t.k = k) && (t.s.toList == s)
def kindT (k : Int) (l : List Tk) : Bool := match l with | [] => false | t :: _ => decide (t.k = k)
def must (E k : Int) (s : List UInt8) (l : List Tk) (f : List Tk → Rs) : Rs := if isT k s l = true then f l.tail else .bad 5 (plc E l)
def textT (E k : Int) (l : List Tk) (f : ByteArray → List Tk → Rs) : Rs := match l with | [] => .bad 5 E | t :: r => if t.k = k then f t.s r else .bad 5 t.p
def labelT (E k : Int) (fs : List Fld) (l : List Tk) (f : ByteArray → List Tk → Rs) : Rs :=
  textT E k l fun x r => if 30 ≤ fs.length then .bad 8 (plc E l) else if (fs.any fun y => y.nm.toList == x.toList) = true then .bad 5 (plc E l) else f x r
/-- The primitive whose sign is next. -/
def opOf (ops : List (List UInt8 × Int)) (l : List Tk) : Option Int := match l with | [] => none | t :: _ => if t.k = 7 then (ops.find? fun o => t.s.toList == o.1).map Prod.snd else none
def mk (kind p : Int) : Nd := ⟨kind, 0, 0, 0, 0, ⟨#[]⟩, ⟨#[]⟩, [], p⟩
def lastK (a : List Nd) : Int := (a.getLast?.map Nd.kind).getD 0
def lastP (a : List Nd) : Int := (a.getLast?.map Nd.pos).getD 0
def w_fun : List UInt8 := [102, 117, 110]
def w_let : List UInt8 := [108, 101, 116]
def w_rec : List UInt8 := [114, 101, 99]
def w_in : List UInt8 := [105, 110]
def w_if : List UInt8 := [105, 102]
def w_then : List UInt8 := [116, 104, 101, 110]
def w_else : List UInt8 := [101, 108, 115, 101]
def w_case : List UInt8 := [99, 97, 115, 101]
def w_of : List UInt8 := [111, 102]
def w_end : List UInt8 := [101, 110, 100]
def w_true : List UInt8 := [116, 114, 117, 101]
def w_false : List UInt8 := [102, 97, 108, 115, 101]
def s_arrow : List UInt8 := [45, 62]
def s_eqs : List UInt8 := [61]
def s_lpar : List UInt8 := [40]
def s_rpar : List UInt8 := [41]
def s_lbra : List UInt8 := [123]
def s_rbra : List UInt8 := [125]
def s_comma : List UInt8 := [44]
def s_bar : List UInt8 := [124]
def s_dot : List UInt8 := [46]
def cmpOps : List (List UInt8 × Int) := [([60], 5), ([61, 61], 6)]
def sumOps : List (List UInt8 × Int) := [([43], 1), ([45], 2), ([94], 7)]
def prodOps : List (List UInt8 × Int) := [([42], 3), ([47], 4)]
def begins (l : List Tk) : Bool := kindT 4 l || kindT 5 l || kindT 2 l || isT 1 w_true l || isT 1 w_false l || isT 1 w_case l || isT 7 s_lpar l || isT 7 s_lbra l
def fld (x v : ByteArray) : Fld := ⟨x, v, 0⟩
def G (E : Int) : Nat → Pr → Nat → List Tk → Rs
  | 0, _, _, _ => .bad 0 0
  | f + 1, .expr, d, l =>
    if 100 ≤ d then .bad 6 (plc E l)
    else if isT 1 w_fun l = true then textT E 2 l.tail fun x l1 => must E 7 s_arrow l1 fun l2 => (G E f .expr (d + 1) l2).go fun a l3 => .ok (joinN { mk 5 (plc E l) with nm := x } [a]) l3
    else if isT 1 w_let l = true then
      if isT 1 w_rec l.tail = true then
        textT E 2 l.tail.tail fun x l1 => must E 7 s_eqs l1 fun l2 => (G E f .expr (d + 1) l2).go fun a l3 => if lastK a = 5 then must E 1 w_in l3 fun l4 => (G E f .expr (d + 1) l4).go fun b l5 => .ok (joinN { mk 8 (plc E l) with nm := x } [a, b]) l5 else .bad 5 (plc E l2)
      else textT E 2 l.tail fun x l1 => must E 7 s_eqs l1 fun l2 => (G E f .expr (d + 1) l2).go fun a l3 => must E 1 w_in l3 fun l4 => (G E f .expr (d + 1) l4).go fun b l5 => .ok (joinN { mk 7 (plc E l) with nm := x } [a, b]) l5
    else if isT 1 w_if l = true then
      (G E f .expr (d + 1) l.tail).go fun a l1 => must E 1 w_then l1 fun l2 => (G E f .expr (d + 1) l2).go fun b l3 => must E 1 w_else l3 fun l4 => (G E f .expr (d + 1) l4).go fun c l5 => .ok (joinN (mk 9 (plc E l)) [a, b, c]) l5
    else G E f .cmp (d + 1) l
  | f + 1, .cmp, d, l => (G E f .sum d l).go fun a l1 => match opOf cmpOps l1 with
    | none => .ok a l1
    | some n => (G E f .sum d l1.tail).go fun b l2 => .ok (joinN { mk 10 (plc E l1) with n := n } [a, b]) l2
  | f + 1, .sum, d, l => (G E f .prod d l).go fun a l1 => G E f (.sumL a) d l1
  | f + 1, .sumL a, d, l => match opOf sumOps l with
    | none => .ok a l
    | some n => (G E f .prod d l.tail).go fun b l2 => G E f (.sumL (joinN { mk 10 (plc E l) with n := n } [a, b])) d l2
  | f + 1, .prod, d, l => (G E f .app d l).go fun a l1 => G E f (.prodL a) d l1
  | f + 1, .prodL a, d, l => match opOf prodOps l with
    | none => .ok a l
    | some n => (G E f .app d l.tail).go fun b l2 => G E f (.prodL (joinN { mk 10 (plc E l) with n := n } [a, b])) d l2
  | f + 1, .app, d, l =>
    if kindT 3 l = true then textT E 3 l fun x l1 => (G E f .post d l1).go fun a l2 => .ok (joinN { mk 13 (plc E l) with nm := x } [a]) l2
    else (G E f .post d l).go fun a l1 => G E f (.appL a) d l1
  | f + 1, .appL a, d, l => if begins l = true then (G E f .post d l).go fun b l1 => G E f (.appL (joinN (mk 6 (lastP a)) [a, b])) d l1 else .ok a l
  | f + 1, .post, d, l => (G E f .atom d l).go fun a l1 => G E f (.postL a) d l1
  | f + 1, .postL a, d, l => if isT 7 s_dot l = true then textT E 2 l.tail fun x l1 => G E f (.postL (joinN { mk 12 (plc E l) with nm := x } [a])) d l1 else .ok a l
  | f + 1, .atom, d, l => match l with
    | [] => .bad 5 E
    | t :: r =>
      if t.k = 4 then .ok (joinN { mk 1 t.p with n := t.n } []) r
      else if t.k = 5 then .ok (joinN { mk 3 t.p with s := t.s } []) r
      else if t.k = 2 then .ok (joinN { mk 4 t.p with nm := t.s } []) r
      else if isT 1 w_true (t :: r) = true then .ok (joinN { mk 2 t.p with n := 1 } []) r
      else if isT 1 w_false (t :: r) = true then .ok (joinN (mk 2 t.p) []) r
      else if isT 7 s_lpar (t :: r) = true then (G E f .expr d r).go fun a l1 => must E 7 s_rpar l1 fun l2 => .ok a l2
      else if isT 7 s_lbra (t :: r) = true then (if isT 7 s_rbra r = true then .ok (joinN (mk 11 t.p) []) r.tail else G E f (.recL t.p [] []) d r)
      else if isT 1 w_case (t :: r) = true then (G E f .expr d r).go fun a l1 => must E 1 w_of l1 fun l2 => G E f (.casL t.p [] [a]) d l2
      else .bad 5 t.p
  | f + 1, .recL p fs ts, d, l => labelT E 2 fs l fun x l1 => must E 7 s_eqs l1 fun l2 => (G E f .expr d l2).go fun a l3 =>
    if isT 7 s_comma l3 = true then G E f (.recL p (fs ++ [fld x ⟨#[]⟩]) (ts ++ [a])) d l3.tail
    else must E 7 s_rbra l3 fun l4 => .ok (joinN { mk 11 p with l := fs ++ [fld x ⟨#[]⟩] } (ts ++ [a])) l4
  | f + 1, .casL p fs ts, d, l => labelT E 3 fs l fun x l1 => textT E 2 l1 fun v l2 => must E 7 s_arrow l2 fun l3 => (G E f .expr d l3).go fun a l4 =>
    if isT 7 s_bar l4 = true then G E f (.casL p (fs ++ [fld x v]) (ts ++ [a])) d l4.tail
    else must E 1 w_end l4 fun l5 => .ok (joinN { mk 14 p with l := fs ++ [fld x v] } (ts ++ [a])) l5
theorem go_ok {r : Rs} {f : List Nd → List Tk → Rs} {t : List Nd} {l : List Tk} (h : r.go f = .ok t l) : ∃ a m, r = .ok a m ∧ f a m = .ok t l := by
  cases r with
  | ok a m => exact ⟨a, m, rfl, h⟩
  | bad e p => cases h
theorem isT_cons {k : Int} {s : List UInt8} {l : List Tk} (h : isT k s l = true) : ∃ y r, l = y :: r := by
  cases l with
  | nil => cases h
  | cons y r => exact ⟨y, r, rfl⟩
theorem isT_len {k : Int} {s : List UInt8} {l : List Tk} (h : isT k s l = true) : l.tail.length + 1 = l.length := by obtain ⟨y, r, rfl⟩ := isT_cons h; rfl
theorem must_ok {E k : Int} {s : List UInt8} {l r : List Tk} {f : List Tk → Rs} {t : List Nd} (h : must E k s l f = .ok t r) : l.tail.length + 1 = l.length ∧ f l.tail = .ok t r := by
  unfold must at h
  split at h
  · exact ⟨isT_len (by assumption), h⟩
  · cases h
theorem text_ok {E k : Int} {l r : List Tk} {f : ByteArray → List Tk → Rs} {t : List Nd} (h : textT E k l f = .ok t r) : ∃ x m, m.length + 1 = l.length ∧ f x m = .ok t r := by
  cases l with
  | nil => cases h
  | cons y m =>
    simp only [textT] at h
    split at h
    · exact ⟨y.s, m, rfl, h⟩
    · cases h
theorem label_ok {E k : Int} {fs : List Fld} {l r : List Tk} {f : ByteArray → List Tk → Rs} {t : List Nd} (h : labelT E k fs l f = .ok t r) : ∃ x m, m.length + 1 = l.length ∧ f x m = .ok t r := by
  obtain ⟨x, m, hm, h⟩ := text_ok h
  split at h
  · cases h
  · split at h
    · cases h
    · exact ⟨x, m, hm, h⟩
theorem op_len {ops : List (List UInt8 × Int)} {l : List Tk} {n : Int} (h : opOf ops l = some n) : l.tail.length + 1 = l.length := by
  cases l with
  | nil => cases h
  | cons y r => rfl
/-- What a loop begins with. -/
def fit : Pr → Prop
  | .sumL a => inOrd a
  | .prodL a => inOrd a
  | .appL a => inOrd a
  | .postL a => inOrd a
  | .recL _ fs ts => ts.length = fs.length ∧ ∀ e ∈ ts, inOrd e
  | .casL _ fs ts => ts.length = fs.length + 1 ∧ ∀ e ∈ ts, inOrd e
  | _ => True
def eats : Pr → Nat
  | .sumL _ => 0
  | .prodL _ => 0
  | .appL _ => 0
  | .postL _ => 0
  | _ => 1
theorem ord0 {x : Nd} (h : (kids x).length = 0) : inOrd (joinN x []) := ord_join (by simp) h.symm
theorem ord1 {x : Nd} {a : List Nd} (h : (kids x).length = 1) (ha : inOrd a) : inOrd (joinN x [a]) := ord_join (by simpa using ha) h.symm
theorem ord2 {x : Nd} {a b : List Nd} (h : (kids x).length = 2) (ha : inOrd a) (hb : inOrd b) : inOrd (joinN x [a, b]) := ord_join (by simp [ha, hb]) h.symm
theorem ord3 {x : Nd} {a b c : List Nd} (h : (kids x).length = 3) (ha : inOrd a) (hb : inOrd b) (hc : inOrd c) : inOrd (joinN x [a, b, c]) := ord_join (by simp [ha, hb, hc]) h.symm
/-- What is read is in order, and tokens have gone by. -/
theorem G_ok (E : Int) : ∀ (f : Nat) (X : Pr) (d : Nat) (l : List Tk) (t : List Nd) (r : List Tk), fit X → G E f X d l = .ok t r → inOrd t ∧ r.length + eats X ≤ l.length := by
  intro f
  induction f with
  | zero => intro X d l t r _ h; cases h
  | succ f ih =>
    intro X d l t r hX h
    cases X with
    | expr =>
      rw [G] at h
      split at h
      · cases h
      split at h
      · rename_i _ hw
        have h0 := isT_len hw
        obtain ⟨x, l1, h1, h⟩ := text_ok h
        obtain ⟨h2, h⟩ := must_ok h
        obtain ⟨a, l3, ha, h⟩ := go_ok h
        obtain ⟨oa, h3⟩ := ih .expr _ _ _ _ trivial ha
        cases h
        simp only [eats] at h3 ⊢
        exact ⟨ord1 rfl oa, by omega⟩
      split at h
      · rename_i _ _ hw
        have h0 := isT_len hw
        split at h
        · rename_i hr
          have h0' := isT_len hr
          obtain ⟨x, l1, h1, h⟩ := text_ok h
          obtain ⟨h2, h⟩ := must_ok h
          obtain ⟨a, l3, ha, h⟩ := go_ok h
          obtain ⟨oa, h3⟩ := ih .expr _ _ _ _ trivial ha
          split at h
          · obtain ⟨h4, h⟩ := must_ok h
            obtain ⟨b, l5, hb, h⟩ := go_ok h
            obtain ⟨ob, h5⟩ := ih .expr _ _ _ _ trivial hb
            cases h
            simp only [eats] at h3 h5 ⊢
            exact ⟨ord2 rfl oa ob, by omega⟩
          · cases h
        · obtain ⟨x, l1, h1, h⟩ := text_ok h
          obtain ⟨h2, h⟩ := must_ok h
          obtain ⟨a, l3, ha, h⟩ := go_ok h
          obtain ⟨oa, h3⟩ := ih .expr _ _ _ _ trivial ha
          obtain ⟨h4, h⟩ := must_ok h
          obtain ⟨b, l5, hb, h⟩ := go_ok h
          obtain ⟨ob, h5⟩ := ih .expr _ _ _ _ trivial hb
          cases h
          simp only [eats] at h3 h5 ⊢
          exact ⟨ord2 rfl oa ob, by omega⟩
      split at h
      · rename_i _ _ _ hw
        have h0 := isT_len hw
        obtain ⟨a, l1, ha, h⟩ := go_ok h
        obtain ⟨oa, h1⟩ := ih .expr _ _ _ _ trivial ha
        obtain ⟨h2, h⟩ := must_ok h
        obtain ⟨b, l3, hb, h⟩ := go_ok h
        obtain ⟨ob, h3⟩ := ih .expr _ _ _ _ trivial hb
        obtain ⟨h4, h⟩ := must_ok h
        obtain ⟨c, l5, hc, h⟩ := go_ok h
        obtain ⟨oc, h5⟩ := ih .expr _ _ _ _ trivial hc
        cases h
        simp only [eats] at h1 h3 h5 ⊢
        exact ⟨ord3 rfl oa ob oc, by omega⟩
      · exact ih .cmp _ _ _ _ trivial h
    | cmp =>
      rw [G] at h
      obtain ⟨a, l1, ha, h⟩ := go_ok h
      obtain ⟨oa, h1⟩ := ih .sum _ _ _ _ trivial ha
      simp only [eats] at h1 ⊢
      split at h
      · cases h; exact ⟨oa, h1⟩
      · rename_i n hn
        have h0 := op_len hn
        obtain ⟨b, l2, hb, h⟩ := go_ok h
        obtain ⟨ob, h2⟩ := ih .sum _ _ _ _ trivial hb
        cases h
        simp only [eats] at h2
        exact ⟨ord2 rfl oa ob, by omega⟩
    | sum =>
      rw [G] at h
      obtain ⟨a, l1, ha, h⟩ := go_ok h
      obtain ⟨oa, h1⟩ := ih .prod _ _ _ _ trivial ha
      obtain ⟨ot, h2⟩ := ih (.sumL a) _ _ _ _ oa h
      simp only [eats] at h1 h2 ⊢
      exact ⟨ot, by omega⟩
    | sumL a =>
      rw [G] at h
      have oa : inOrd a := hX
      split at h
      · cases h; exact ⟨oa, Nat.le_refl _⟩
      · rename_i n hn
        have h0 := op_len hn
        obtain ⟨b, l2, hb, h⟩ := go_ok h
        obtain ⟨ob, h2⟩ := ih .prod _ _ _ _ trivial hb
        obtain ⟨ot, h3⟩ := ih (.sumL _) _ _ _ _ (ord2 (x := { mk 10 (plc E l) with n := n }) rfl oa ob) h
        simp only [eats] at h2 h3 ⊢
        exact ⟨ot, by omega⟩
    | prod =>
      rw [G] at h
      obtain ⟨a, l1, ha, h⟩ := go_ok h
      obtain ⟨oa, h1⟩ := ih .app _ _ _ _ trivial ha
      obtain ⟨ot, h2⟩ := ih (.prodL a) _ _ _ _ oa h
      simp only [eats] at h1 h2 ⊢
      exact ⟨ot, by omega⟩
    | prodL a =>
      rw [G] at h
      have oa : inOrd a := hX
      split at h
      · cases h; exact ⟨oa, Nat.le_refl _⟩
      · rename_i n hn
        have h0 := op_len hn
        obtain ⟨b, l2, hb, h⟩ := go_ok h
        obtain ⟨ob, h2⟩ := ih .app _ _ _ _ trivial hb
        obtain ⟨ot, h3⟩ := ih (.prodL _) _ _ _ _ (ord2 (x := { mk 10 (plc E l) with n := n }) rfl oa ob) h
        simp only [eats] at h2 h3 ⊢
        exact ⟨ot, by omega⟩
    | app =>
      rw [G] at h
      split at h
      · obtain ⟨x, l1, h1, h⟩ := text_ok h
        obtain ⟨a, l2, ha, h⟩ := go_ok h
        obtain ⟨oa, h2⟩ := ih .post _ _ _ _ trivial ha
        cases h
        simp only [eats] at h2 ⊢
        exact ⟨ord1 rfl oa, by omega⟩
      · obtain ⟨a, l1, ha, h⟩ := go_ok h
        obtain ⟨oa, h1⟩ := ih .post _ _ _ _ trivial ha
        obtain ⟨ot, h2⟩ := ih (.appL a) _ _ _ _ oa h
        simp only [eats] at h1 h2 ⊢
        exact ⟨ot, by omega⟩
    | appL a =>
      rw [G] at h
      have oa : inOrd a := hX
      split at h
      · obtain ⟨b, l1, hb, h⟩ := go_ok h
        obtain ⟨ob, h1⟩ := ih .post _ _ _ _ trivial hb
        obtain ⟨ot, h2⟩ := ih (.appL _) _ _ _ _ (ord2 (x := mk 6 (lastP a)) rfl oa ob) h
        simp only [eats] at h1 h2 ⊢
        exact ⟨ot, by omega⟩
      · cases h; exact ⟨oa, Nat.le_refl _⟩
    | post =>
      rw [G] at h
      obtain ⟨a, l1, ha, h⟩ := go_ok h
      obtain ⟨oa, h1⟩ := ih .atom _ _ _ _ trivial ha
      obtain ⟨ot, h2⟩ := ih (.postL a) _ _ _ _ oa h
      simp only [eats] at h1 h2 ⊢
      exact ⟨ot, by omega⟩
    | postL a =>
      rw [G] at h
      have oa : inOrd a := hX
      split at h
      · rename_i hw
        have h0 := isT_len hw
        obtain ⟨x, l1, h1, h⟩ := text_ok h
        obtain ⟨ot, h2⟩ := ih (.postL _) _ _ _ _ (ord1 (x := { mk 12 (plc E l) with nm := x }) rfl oa) h
        simp only [eats] at h2 ⊢
        exact ⟨ot, by omega⟩
      · cases h; exact ⟨oa, Nat.le_refl _⟩
    | atom =>
      cases l with
      | nil => rw [G] at h; cases h
      | cons y m =>
        rw [G] at h
        simp only [eats, List.length_cons]
        split at h
        · cases h; exact ⟨ord0 rfl, Nat.le_refl _⟩
        split at h
        · cases h; exact ⟨ord0 rfl, Nat.le_refl _⟩
        split at h
        · cases h; exact ⟨ord0 rfl, Nat.le_refl _⟩
        split at h
        · cases h; exact ⟨ord0 rfl, Nat.le_refl _⟩
        split at h
        · cases h; exact ⟨ord0 rfl, Nat.le_refl _⟩
        split at h
        · obtain ⟨a, l1, ha, h⟩ := go_ok h
          obtain ⟨oa, h1⟩ := ih .expr _ _ _ _ trivial ha
          obtain ⟨h2, h⟩ := must_ok h
          cases h
          simp only [eats] at h1
          exact ⟨oa, by omega⟩
        split at h
        · split at h
          · rename_i hr
            have h0 := isT_len hr
            cases h
            exact ⟨ord0 rfl, by omega⟩
          · obtain ⟨ot, h1⟩ := ih (.recL _ _ _) _ _ _ _ ⟨rfl, by simp⟩ h
            simp only [eats] at h1
            exact ⟨ot, by omega⟩
        split at h
        · obtain ⟨a, l1, ha, h⟩ := go_ok h
          obtain ⟨oa, h1⟩ := ih .expr _ _ _ _ trivial ha
          obtain ⟨h2, h⟩ := must_ok h
          obtain ⟨ot, h3⟩ := ih (.casL _ _ _) _ _ _ _ ⟨rfl, by simpa using oa⟩ h
          simp only [eats] at h1 h3
          exact ⟨ot, by omega⟩
        · cases h
    | recL p fs ts =>
      rw [G] at h
      obtain ⟨hl, ho⟩ : ts.length = fs.length ∧ ∀ e ∈ ts, inOrd e := hX
      obtain ⟨x, l1, h1, h⟩ := label_ok h
      obtain ⟨h2, h⟩ := must_ok h
      obtain ⟨a, l3, ha, h⟩ := go_ok h
      obtain ⟨oa, h3⟩ := ih .expr _ _ _ _ trivial ha
      have ho' : ∀ e ∈ ts ++ [a], inOrd e := fun e he => by
        rw [List.mem_append, List.mem_singleton] at he
        rcases he with he | rfl
        · exact ho e he
        · exact oa
      split at h
      · rename_i hw
        have h0 := isT_len hw
        obtain ⟨ot, h4⟩ := ih (.recL _ _ _) _ _ _ _ ⟨by simp [hl], ho'⟩ h
        simp only [eats] at h3 h4 ⊢
        exact ⟨ot, by omega⟩
      · obtain ⟨h4, h⟩ := must_ok h
        cases h
        simp only [eats] at h3 ⊢
        exact ⟨ord_join ho' (by simp [kids, kids0, many, mk, hl]), by omega⟩
    | casL p fs ts =>
      rw [G] at h
      obtain ⟨hl, ho⟩ : ts.length = fs.length + 1 ∧ ∀ e ∈ ts, inOrd e := hX
      obtain ⟨x, l1, h1, h⟩ := label_ok h
      obtain ⟨v, l2, h1', h⟩ := text_ok h
      obtain ⟨h2, h⟩ := must_ok h
      obtain ⟨a, l3, ha, h⟩ := go_ok h
      obtain ⟨oa, h3⟩ := ih .expr _ _ _ _ trivial ha
      have ho' : ∀ e ∈ ts ++ [a], inOrd e := fun e he => by
        rw [List.mem_append, List.mem_singleton] at he
        rcases he with he | rfl
        · exact ho e he
        · exact oa
      split at h
      · rename_i hw
        have h0 := isT_len hw
        obtain ⟨ot, h4⟩ := ih (.casL _ _ _) _ _ _ _ ⟨by simp [hl], ho'⟩ h
        simp only [eats] at h3 h4 ⊢
        exact ⟨ot, by omega⟩
      · obtain ⟨h4, h⟩ := must_ok h
        cases h
        simp only [eats] at h3 ⊢
        exact ⟨ord_join ho' (by simp [kids, kids0, many, mk, hl]), by omega⟩
end Go.Proofs.YtjakeidbajkdcaaGreatDoor.T
/- What the language leaves is a tail of what there was; an error's place is that of a token, or the end. -/
namespace Go.Proofs.YtjakeidbajkdcaaGreatDoor.T
/-- A place: that of a token, or the end. -/
def Pl (E : Int) (l : List Tk) (p : Int) : Prop := p = E ∨ ∃ t ∈ l, p = t.p
def cX : Pr → Nat
  | .expr => 7 | .cmp => 6 | .sum => 5 | .prod => 4 | .app => 3 | .post => 2 | .atom => 1
  | .appL _ => 3
  | _ => 1
/-- How much fuel is enough. -/
def need (X : Pr) (m : Nat) : Nat := 8 * m + cX X
theorem text_suf {E k : Int} {l r : List Tk} {f : ByteArray → List Tk → Rs} {t : List Nd} (h : textT E k l f = .ok t r) : ∃ x m, m.length + 1 = l.length ∧ m <:+ l ∧ f x m = .ok t r := by
  cases l with
  | nil => cases h
  | cons y m =>
    simp only [textT] at h
    split at h
    · exact ⟨y.s, m, rfl, List.suffix_cons _ _, h⟩
    · cases h
theorem label_suf {E k : Int} {fs : List Fld} {l r : List Tk} {f : ByteArray → List Tk → Rs} {t : List Nd} (h : labelT E k fs l f = .ok t r) : ∃ x m, m.length + 1 = l.length ∧ m <:+ l ∧ f x m = .ok t r := by
  obtain ⟨x, m, hm, hs, h⟩ := text_suf h
  split at h
  · cases h
  · split at h
    · cases h
    · exact ⟨x, m, hm, hs, h⟩
/-- What is left is a tail, and shorter where a token must go by. -/
theorem G_suf (E : Int) : ∀ (f : Nat) (X : Pr) (d : Nat) (l : List Tk) (t : List Nd) (r : List Tk), G E f X d l = .ok t r → r <:+ l ∧ r.length + eats X ≤ l.length := by
  intro f
  induction f with
  | zero => intro X d l t r h; cases h
  | succ f ih =>
    intro X d l t r h
    cases X with
    | expr =>
      rw [G] at h
      split at h
      · cases h
      split at h
      · rename_i _ hw
        have h0 := isT_len hw
        have s0 := List.tail_suffix (l)
        obtain ⟨x1, l1, h1, s1, h⟩ := text_suf h
        obtain ⟨h2, h⟩ := must_ok h
        have s2 := List.tail_suffix (l1)
        obtain ⟨a3, l3, g3, h⟩ := go_ok h
        obtain ⟨s3, h3⟩ := ih (.expr) _ _ _ _ g3
        cases h
        simp only [eats] at h3 ⊢
        exact ⟨(s3).trans ((s2).trans ((s1).trans (s0))), by omega⟩
      split at h
      · rename_i _ _ hw
        split at h
        · rename_i hr
          have h0 := isT_len hw
          have s0 := List.tail_suffix (l)
          have h1 := isT_len hr
          have s1 := List.tail_suffix ((l).tail)
          obtain ⟨x2, l2, h2, s2, h⟩ := text_suf h
          obtain ⟨h3, h⟩ := must_ok h
          have s3 := List.tail_suffix (l2)
          obtain ⟨a4, l4, g4, h⟩ := go_ok h
          obtain ⟨s4, h4⟩ := ih (.expr) _ _ _ _ g4
          split at h
          · obtain ⟨h5, h⟩ := must_ok h
            have s5 := List.tail_suffix (l4)
            obtain ⟨a6, l6, g6, h⟩ := go_ok h
            obtain ⟨s6, h6⟩ := ih (.expr) _ _ _ _ g6
            cases h
            simp only [eats] at h4 h6 ⊢
            exact ⟨(s6).trans ((s5).trans ((s4).trans ((s3).trans ((s2).trans ((s1).trans (s0)))))), by omega⟩
          · cases h
        · have h0 := isT_len hw
          have s0 := List.tail_suffix (l)
          obtain ⟨x1, l1, h1, s1, h⟩ := text_suf h
          obtain ⟨h2, h⟩ := must_ok h
          have s2 := List.tail_suffix (l1)
          obtain ⟨a3, l3, g3, h⟩ := go_ok h
          obtain ⟨s3, h3⟩ := ih (.expr) _ _ _ _ g3
          obtain ⟨h4, h⟩ := must_ok h
          have s4 := List.tail_suffix (l3)
          obtain ⟨a5, l5, g5, h⟩ := go_ok h
          obtain ⟨s5, h5⟩ := ih (.expr) _ _ _ _ g5
          cases h
          simp only [eats] at h3 h5 ⊢
          exact ⟨(s5).trans ((s4).trans ((s3).trans ((s2).trans ((s1).trans (s0))))), by omega⟩
      split at h
      · rename_i _ _ _ hw
        have h0 := isT_len hw
        have s0 := List.tail_suffix (l)
        obtain ⟨a1, l1, g1, h⟩ := go_ok h
        obtain ⟨s1, h1⟩ := ih (.expr) _ _ _ _ g1
        obtain ⟨h2, h⟩ := must_ok h
        have s2 := List.tail_suffix (l1)
        obtain ⟨a3, l3, g3, h⟩ := go_ok h
        obtain ⟨s3, h3⟩ := ih (.expr) _ _ _ _ g3
        obtain ⟨h4, h⟩ := must_ok h
        have s4 := List.tail_suffix (l3)
        obtain ⟨a5, l5, g5, h⟩ := go_ok h
        obtain ⟨s5, h5⟩ := ih (.expr) _ _ _ _ g5
        cases h
        simp only [eats] at h1 h3 h5 ⊢
        exact ⟨(s5).trans ((s4).trans ((s3).trans ((s2).trans ((s1).trans (s0))))), by omega⟩
      · exact ih .cmp _ _ _ _ h
    | cmp =>
      rw [G] at h
      obtain ⟨a0, l0, g0, h⟩ := go_ok h
      obtain ⟨s0, h0⟩ := ih (.sum) _ _ _ _ g0
      split at h
      · cases h; simp only [eats] at h0 ⊢; exact ⟨s0, h0⟩
      · rename_i n hop
        have h1 := op_len hop
        have s1 := List.tail_suffix (l0)
        obtain ⟨a2, l2, g2, h⟩ := go_ok h
        obtain ⟨s2, h2⟩ := ih (.sum) _ _ _ _ g2
        cases h
        simp only [eats] at h0 h2 ⊢
        exact ⟨(s2).trans ((s1).trans (s0)), by omega⟩
    | sum =>
      rw [G] at h
      obtain ⟨a0, l0, g0, h⟩ := go_ok h
      obtain ⟨s0, h0⟩ := ih (.prod) _ _ _ _ g0
      obtain ⟨s1, h1⟩ := ih (.sumL _) _ _ _ _ h
      simp only [eats] at h0 h1 ⊢
      exact ⟨(s1).trans (s0), by omega⟩
    | prod =>
      rw [G] at h
      obtain ⟨a0, l0, g0, h⟩ := go_ok h
      obtain ⟨s0, h0⟩ := ih (.app) _ _ _ _ g0
      obtain ⟨s1, h1⟩ := ih (.prodL _) _ _ _ _ h
      simp only [eats] at h0 h1 ⊢
      exact ⟨(s1).trans (s0), by omega⟩
    | post =>
      rw [G] at h
      obtain ⟨a0, l0, g0, h⟩ := go_ok h
      obtain ⟨s0, h0⟩ := ih (.atom) _ _ _ _ g0
      obtain ⟨s1, h1⟩ := ih (.postL _) _ _ _ _ h
      simp only [eats] at h0 h1 ⊢
      exact ⟨(s1).trans (s0), by omega⟩
    | sumL a =>
      rw [G] at h
      split at h
      · cases h; exact ⟨List.suffix_refl _, Nat.le_refl _⟩
      · rename_i n hop
        have h0 := op_len hop
        have s0 := List.tail_suffix (l)
        obtain ⟨a1, l1, g1, h⟩ := go_ok h
        obtain ⟨s1, h1⟩ := ih (.prod) _ _ _ _ g1
        obtain ⟨s2, h2⟩ := ih (.sumL _) _ _ _ _ h
        simp only [eats] at h1 h2 ⊢
        exact ⟨(s2).trans ((s1).trans (s0)), by omega⟩
    | prodL a =>
      rw [G] at h
      split at h
      · cases h; exact ⟨List.suffix_refl _, Nat.le_refl _⟩
      · rename_i n hop
        have h0 := op_len hop
        have s0 := List.tail_suffix (l)
        obtain ⟨a1, l1, g1, h⟩ := go_ok h
        obtain ⟨s1, h1⟩ := ih (.app) _ _ _ _ g1
        obtain ⟨s2, h2⟩ := ih (.prodL _) _ _ _ _ h
        simp only [eats] at h1 h2 ⊢
        exact ⟨(s2).trans ((s1).trans (s0)), by omega⟩
    | app =>
      rw [G] at h
      split at h
      · obtain ⟨x0, l0, h0, s0, h⟩ := text_suf h
        obtain ⟨a1, l1, g1, h⟩ := go_ok h
        obtain ⟨s1, h1⟩ := ih (.post) _ _ _ _ g1
        cases h
        simp only [eats] at h1 ⊢
        exact ⟨(s1).trans (s0), by omega⟩
      · obtain ⟨a0, l0, g0, h⟩ := go_ok h
        obtain ⟨s0, h0⟩ := ih (.post) _ _ _ _ g0
        obtain ⟨s1, h1⟩ := ih (.appL _) _ _ _ _ h
        simp only [eats] at h0 h1 ⊢
        exact ⟨(s1).trans (s0), by omega⟩
    | appL a =>
      rw [G] at h
      split at h
      · obtain ⟨a0, l0, g0, h⟩ := go_ok h
        obtain ⟨s0, h0⟩ := ih (.post) _ _ _ _ g0
        obtain ⟨s1, h1⟩ := ih (.appL _) _ _ _ _ h
        simp only [eats] at h0 h1 ⊢
        exact ⟨(s1).trans (s0), by omega⟩
      · cases h; exact ⟨List.suffix_refl _, Nat.le_refl _⟩
    | postL a =>
      rw [G] at h
      split at h
      · rename_i hw
        have h0 := isT_len hw
        have s0 := List.tail_suffix (l)
        obtain ⟨x1, l1, h1, s1, h⟩ := text_suf h
        obtain ⟨s2, h2⟩ := ih (.postL _) _ _ _ _ h
        simp only [eats] at h2 ⊢
        exact ⟨(s2).trans ((s1).trans (s0)), by omega⟩
      · cases h; exact ⟨List.suffix_refl _, Nat.le_refl _⟩
    | atom =>
      cases l with
      | nil => rw [G] at h; cases h
      | cons y m =>
        rw [G] at h
        have s9 := List.suffix_cons y m
        simp only [eats, List.length_cons]
        split at h
        · cases h; exact ⟨s9, Nat.le_refl _⟩
        split at h
        · cases h; exact ⟨s9, Nat.le_refl _⟩
        split at h
        · cases h; exact ⟨s9, Nat.le_refl _⟩
        split at h
        · cases h; exact ⟨s9, Nat.le_refl _⟩
        split at h
        · cases h; exact ⟨s9, Nat.le_refl _⟩
        split at h
        · obtain ⟨a0, l0, g0, h⟩ := go_ok h
          obtain ⟨s0, h0⟩ := ih (.expr) _ _ _ _ g0
          obtain ⟨h1, h⟩ := must_ok h
          have s1 := List.tail_suffix (l0)
          cases h
          simp only [eats] at h0
          exact ⟨((s1).trans (s0)).trans s9, by omega⟩
        split at h
        · split at h
          · rename_i hr
            have h0 := isT_len hr
            have s0 := List.tail_suffix m
            cases h
            exact ⟨(s0).trans s9, by omega⟩
          · obtain ⟨s0, h0⟩ := ih (.recL _ _ _) _ _ _ _ h
            simp only [eats] at h0
            exact ⟨(s0).trans s9, by omega⟩
        split at h
        · obtain ⟨a0, l0, g0, h⟩ := go_ok h
          obtain ⟨s0, h0⟩ := ih (.expr) _ _ _ _ g0
          obtain ⟨h1, h⟩ := must_ok h
          have s1 := List.tail_suffix (l0)
          obtain ⟨s2, h2⟩ := ih (.casL _ _ _) _ _ _ _ h
          simp only [eats] at h0 h2
          exact ⟨((s2).trans ((s1).trans (s0))).trans s9, by omega⟩
        · cases h
    | recL p fs ts =>
      rw [G] at h
      obtain ⟨x0, l0, h0, s0, h⟩ := label_suf h
      obtain ⟨h1, h⟩ := must_ok h
      have s1 := List.tail_suffix (l0)
      obtain ⟨a2, l2, g2, h⟩ := go_ok h
      obtain ⟨s2, h2⟩ := ih (.expr) _ _ _ _ g2
      split at h
      · rename_i hw
        have h3 := isT_len hw
        have s3 := List.tail_suffix (l2)
        obtain ⟨s4, h4⟩ := ih (.recL _ _ _) _ _ _ _ h
        simp only [eats] at h2 h4 ⊢
        exact ⟨(s4).trans ((s3).trans ((s2).trans ((s1).trans (s0)))), by omega⟩
      · obtain ⟨h3, h⟩ := must_ok h
        have s3 := List.tail_suffix (l2)
        cases h
        simp only [eats] at h2 ⊢
        exact ⟨(s3).trans ((s2).trans ((s1).trans (s0))), by omega⟩
    | casL p fs ts =>
      rw [G] at h
      obtain ⟨x0, l0, h0, s0, h⟩ := label_suf h
      obtain ⟨x1, l1, h1, s1, h⟩ := text_suf h
      obtain ⟨h2, h⟩ := must_ok h
      have s2 := List.tail_suffix (l1)
      obtain ⟨a3, l3, g3, h⟩ := go_ok h
      obtain ⟨s3, h3⟩ := ih (.expr) _ _ _ _ g3
      split at h
      · rename_i hw
        have h4 := isT_len hw
        have s4 := List.tail_suffix (l3)
        obtain ⟨s5, h5⟩ := ih (.casL _ _ _) _ _ _ _ h
        simp only [eats] at h3 h5 ⊢
        exact ⟨(s5).trans ((s4).trans ((s3).trans ((s2).trans ((s1).trans (s0))))), by omega⟩
      · obtain ⟨h4, h⟩ := must_ok h
        have s4 := List.tail_suffix (l3)
        cases h
        simp only [eats] at h3 ⊢
        exact ⟨(s4).trans ((s3).trans ((s2).trans ((s1).trans (s0)))), by omega⟩
end Go.Proofs.YtjakeidbajkdcaaGreatDoor.T
/- The numbers of nodes that came in are of 64 bits. -/
namespace Go.Proofs.YtjakeidbajkdcaaGreatDoor.T
open Go.RowKit Go.ChangeShapes Go.WideShapes Go.ChangeAt Go.ChangeMaps Go.Deep Go.Joins
def Num (y : Nd) : Prop := -9223372036854775808 ≤ y.n ∧ y.n ≤ 9223372036854775807
section
variable {H : Type} {enc : TypeId × Value → H} {w : World} {base : Nat} {spare : Nat → Bool} {held : Bool}
set_option maxRecDepth 100000 in
theorem num_nd {n : Nat} {cs : List Value} {x : DataW H × List MemPlace} (h : DataW.trod enc Tryz.prog w base spare held n 37 cs = some x) : ∃ i : Int, cs[4]? = some (.int .i64 i) ∧ -9223372036854775808 ≤ i ∧ i ≤ 9223372036854775807 := by
  obtain ⟨ys, n', _, hx, hlen, hyl, hf⟩ := DataW.trod_struct Tryz.underlying37 h
  rw [c27] at hlen
  obtain ⟨v4, y4, e4, _, t4⟩ := one_field (t := 2) (j := 4) (N := 9) c2 hlen hyl (by omega) (hf 4 _ rfl)
  obtain ⟨i4, h4, _, hw⟩ := DataW.trod_int Tryz.underlying2 t4
  simp only [List.cons.injEq, and_true] at h4
  subst h4
  simp [Lit.wf, IntKind.min, IntKind.max, IntKind.signed, IntKind.bits] at hw
  exact ⟨i4, e4, hw.1, by omega⟩
theorem num_nodes {fuel : Nat} {v : Value} {x : DataW H × List MemPlace} (h : DataW.trod enc Tryz.prog w base spare held fuel 23 [v] = some x) {B : Nat} {l : List Nd} (hn : Nodes B w v l) : ∀ y ∈ l, Num y := fun y hy => by
  obtain ⟨i, hi⟩ := List.getElem?_of_mem hy
  have hil : i < l.length := (List.getElem?_eq_some_iff.1 hi).1
  obtain ⟨A, c, hv, _, _, h3⟩ := hn
  obtain ⟨b, o, rfl, _, hnd⟩ := h3 (by omega)
  rcases open_slice Tryz.underlying23 h with ⟨hcs, _⟩ | ⟨a, len, cap, m, n, D, Pl, hcs, _, hl, hcm, hmm, hx, hI⟩
  · simp at hcs; rw [hv] at hcs; cases hcs
  · simp at hcs
    rw [hv] at hcs
    injection hcs with e1 e2 e3
    injection e1 with e1
    have hlm : len ≤ m := by rw [hmm]; split <;> omega
    obtain ⟨cs', hc, ht⟩ := hI i (by omega)
    rw [c27] at hc
    obtain ⟨z, hz, hz1, hz2⟩ := num_nd ht
    obtain ⟨_, _, hat⟩ := World.cells?_some hc
    have := hat 4 (by omega)
    rw [add_add, ← e1, add_plain, hz] at this
    obtain ⟨_, _, _, _, _, _, m4, _⟩ := hnd i y hi
    rw [show o + i * 9 + 4 = o + (i * 9 + 4) by omega, this] at m4
    injection m4 with m4
    injection m4 with _ m4
    exact ⟨by omega, by omega⟩
set_option maxRecDepth 100000 in
theorem num_expr {u : Value} {d : DataW H} {p : List MemPlace} (h : DataW.Trod enc Tryz.prog w base spare held 25 (.agg #[u]) d p) {B : Nat} {l : List Nd} (hn : Nodes B w u l) : ∀ y ∈ l, Num y := by
  obtain ⟨fuel, hf⟩ := h
  obtain ⟨ys, n', _, hx, hlen, hyl, hff⟩ := DataW.trod_struct Tryz.underlying25 hf
  rw [c24] at hlen
  obtain ⟨v0, y0, e0, z0, t0⟩ := one_field (t := 23) (j := 0) (N := 1) c22 hlen hyl (by omega) (hff 0 _ rfl)
  obtain rfl : u = v0 := by simpa [Value.cells] using e0
  exact num_nodes t0 hn
end
theorem num_few {l : List Nd} (h : ∀ x ∈ l, Num x) : ∀ x ∈ few l, Num x := fun x hx => by
  obtain ⟨y, hy, rfl⟩ := List.mem_map.1 hx
  exact h y (List.mem_of_mem_take hy)
end Go.Proofs.YtjakeidbajkdcaaGreatDoor.T
/- How long a tree is that is read, and how wide its nodes are. -/
namespace Go.Proofs.YtjakeidbajkdcaaGreatDoor.T
/-- No node has more than 30 parts. -/
def slim (t : List Nd) : Prop := ∀ x ∈ t, x.l.length ≤ 30
theorem relab_le : ∀ (l : List Fld) (ks : List Int), (relab l ks).length ≤ l.length := fun l ks => by rw [relab, List.length_zipWith]; omega
theorem wk_slim (x : Nd) (ks : List Int) : (wk x ks).l.length ≤ x.l.length := by
  unfold wk
  simp only
  split
  · exact relab_le _ _
  · exact Nat.zero_le _
theorem jn_slim : ∀ ll : List (List Nd), (∀ e ∈ ll, slim e) → slim (jn ll).1 := by
  intro ll
  induction ll using snocInd with
  | h0 => intro _ x hx; simp [jn] at hx
  | h1 ll e ih =>
    intro h x hx
    rw [jn_snoc, jstep, List.mem_append] at hx
    rcases hx with hx | hx
    · exact ih (fun y hy => h y (by simp [hy])) x hx
    · obtain ⟨y, hy, rfl⟩ := List.mem_map.1 hx
      exact Nat.le_trans (wk_slim _ _) (h e (by simp) y hy)
theorem slimN {x : Nd} {ll : List (List Nd)} (h : ∀ e ∈ ll, slim e) (hx : x.l.length ≤ 30) : slim (joinN x ll) := fun y hy => by
  rw [joinN, List.mem_append, List.mem_singleton] at hy
  rcases hy with hy | rfl
  · exact jn_slim ll h y hy
  · exact Nat.le_trans (wk_slim _ _) hx
theorem slim0 {x : Nd} (hx : x.l.length ≤ 30) : slim (joinN x []) := slimN (by simp) hx
theorem slim1 {x : Nd} {a : List Nd} (hx : x.l.length ≤ 30) (ha : slim a) : slim (joinN x [a]) := slimN (by simpa using ha) hx
theorem slim2 {x : Nd} {a b : List Nd} (hx : x.l.length ≤ 30) (ha : slim a) (hb : slim b) : slim (joinN x [a, b]) := slimN (by simp [ha, hb]) hx
theorem slim3 {x : Nd} {a b c : List Nd} (hx : x.l.length ≤ 30) (ha : slim a) (hb : slim b) (hc : slim c) : slim (joinN x [a, b, c]) := slimN (by simp [ha, hb, hc]) hx
theorem jlN (x : Nd) (ll : List (List Nd)) : (joinN x ll).length = (ll.map List.length).sum + 1 := by rw [joinN, List.length_append, (jn_len ll).1]; rfl
theorem jl0 (x : Nd) : (joinN x []).length = 1 := jlN x []
theorem jl1 (x : Nd) (a : List Nd) : (joinN x [a]).length = a.length + 1 := by rw [jlN]; simp
theorem jl2 (x : Nd) (a b : List Nd) : (joinN x [a, b]).length = a.length + b.length + 1 := by rw [jlN]; simp
theorem jl3 (x : Nd) (a b c : List Nd) : (joinN x [a, b, c]).length = a.length + b.length + c.length + 1 := by rw [jlN]; simp; omega
def fitS : Pr → Prop
  | .sumL a => slim a
  | .prodL a => slim a
  | .appL a => slim a
  | .postL a => slim a
  | .recL _ _ ts => ∀ e ∈ ts, slim e
  | .casL _ _ ts => ∀ e ∈ ts, slim e
  | _ => True
def base : Pr → Nat
  | .sumL a => a.length
  | .prodL a => a.length
  | .appL a => a.length
  | .postL a => a.length
  | .recL _ _ ts => (ts.map List.length).sum
  | .casL _ _ ts => (ts.map List.length).sum
  | _ => 0
theorem label_slim {E k : Int} {fs : List Fld} {l r : List Tk} {f : ByteArray → List Tk → Rs} {t : List Nd} (h : labelT E k fs l f = .ok t r) : ∃ x m, m.length + 1 = l.length ∧ fs.length < 30 ∧ f x m = .ok t r := by
  obtain ⟨x, m, hm, h⟩ := text_ok h
  split at h
  · cases h
  · split at h
    · cases h
    · exact ⟨x, m, hm, by omega, h⟩
/-- What is read is no longer than twice its tokens, and each node has at most MaxWide parts. -/
theorem G_size (E : Int) : ∀ (f : Nat) (X : Pr) (d : Nat) (l : List Tk) (t : List Nd) (r : List Tk), fitS X → G E f X d l = .ok t r → slim t ∧ t.length + eats X + 2 * r.length ≤ base X + 2 * l.length := by
  intro f
  induction f with
  | zero => intro X d l t r _ h; cases h
  | succ f ih =>
    intro X d l t r hX h
    cases X with
    | expr =>
      rw [G] at h
      split at h
      · cases h
      split at h
      · rename_i _ hw
        have h0 := isT_len hw
        obtain ⟨x, l1, h1, h⟩ := text_ok h
        obtain ⟨h2, h⟩ := must_ok h
        obtain ⟨a, l3, ha, h⟩ := go_ok h
        obtain ⟨oa, h3⟩ := ih .expr _ _ _ _ trivial ha
        cases h
        simp only [eats, base, jl1, Nat.zero_add] at h3 ⊢
        exact ⟨slim1 (Nat.zero_le _) oa, by omega⟩
      split at h
      · rename_i _ _ hw
        have h0 := isT_len hw
        split at h
        · rename_i hr
          have h0' := isT_len hr
          obtain ⟨x, l1, h1, h⟩ := text_ok h
          obtain ⟨h2, h⟩ := must_ok h
          obtain ⟨a, l3, ha, h⟩ := go_ok h
          obtain ⟨oa, h3⟩ := ih .expr _ _ _ _ trivial ha
          split at h
          · obtain ⟨h4, h⟩ := must_ok h
            obtain ⟨b, l5, hb, h⟩ := go_ok h
            obtain ⟨ob, h5⟩ := ih .expr _ _ _ _ trivial hb
            cases h
            simp only [eats, base, jl2, Nat.zero_add] at h3 h5 ⊢
            exact ⟨slim2 (Nat.zero_le _) oa ob, by omega⟩
          · cases h
        · obtain ⟨x, l1, h1, h⟩ := text_ok h
          obtain ⟨h2, h⟩ := must_ok h
          obtain ⟨a, l3, ha, h⟩ := go_ok h
          obtain ⟨oa, h3⟩ := ih .expr _ _ _ _ trivial ha
          obtain ⟨h4, h⟩ := must_ok h
          obtain ⟨b, l5, hb, h⟩ := go_ok h
          obtain ⟨ob, h5⟩ := ih .expr _ _ _ _ trivial hb
          cases h
          simp only [eats, base, jl2, Nat.zero_add] at h3 h5 ⊢
          exact ⟨slim2 (Nat.zero_le _) oa ob, by omega⟩
      split at h
      · rename_i _ _ _ hw
        have h0 := isT_len hw
        obtain ⟨a, l1, ha, h⟩ := go_ok h
        obtain ⟨oa, h1⟩ := ih .expr _ _ _ _ trivial ha
        obtain ⟨h2, h⟩ := must_ok h
        obtain ⟨b, l3, hb, h⟩ := go_ok h
        obtain ⟨ob, h3⟩ := ih .expr _ _ _ _ trivial hb
        obtain ⟨h4, h⟩ := must_ok h
        obtain ⟨c, l5, hc, h⟩ := go_ok h
        obtain ⟨oc, h5⟩ := ih .expr _ _ _ _ trivial hc
        cases h
        simp only [eats, base, jl3, Nat.zero_add] at h1 h3 h5 ⊢
        exact ⟨slim3 (Nat.zero_le _) oa ob oc, by omega⟩
      · exact ih .cmp _ _ _ _ trivial h
    | cmp =>
      rw [G] at h
      obtain ⟨a, l1, ha, h⟩ := go_ok h
      obtain ⟨oa, h1⟩ := ih .sum _ _ _ _ trivial ha
      simp only [eats, base, Nat.zero_add] at h1 ⊢
      split at h
      · cases h; exact ⟨oa, h1⟩
      · rename_i n hn
        have h0 := op_len hn
        obtain ⟨b, l2, hb, h⟩ := go_ok h
        obtain ⟨ob, h2⟩ := ih .sum _ _ _ _ trivial hb
        cases h
        simp only [eats, base, jl2, Nat.zero_add] at h2 ⊢
        exact ⟨slim2 (Nat.zero_le _) oa ob, by omega⟩
    | sum =>
      rw [G] at h
      obtain ⟨a, l1, ha, h⟩ := go_ok h
      obtain ⟨oa, h1⟩ := ih .prod _ _ _ _ trivial ha
      obtain ⟨ot, h2⟩ := ih (.sumL a) _ _ _ _ oa h
      simp only [eats, base, Nat.add_zero, Nat.zero_add] at h1 h2 ⊢
      exact ⟨ot, by omega⟩
    | sumL a =>
      rw [G] at h
      have oa : slim a := hX
      split at h
      · cases h; exact ⟨oa, Nat.le_refl _⟩
      · rename_i n hn
        have h0 := op_len hn
        obtain ⟨b, l2, hb, h⟩ := go_ok h
        obtain ⟨ob, h2⟩ := ih .prod _ _ _ _ trivial hb
        obtain ⟨ot, h3⟩ := ih (.sumL _) _ _ _ _ (slim2 (x := { mk 10 (plc E l) with n := n }) (Nat.zero_le _) oa ob) h
        simp only [eats, base, jl2, Nat.add_zero, Nat.zero_add] at h2 h3 ⊢
        exact ⟨ot, by omega⟩
    | prod =>
      rw [G] at h
      obtain ⟨a, l1, ha, h⟩ := go_ok h
      obtain ⟨oa, h1⟩ := ih .app _ _ _ _ trivial ha
      obtain ⟨ot, h2⟩ := ih (.prodL a) _ _ _ _ oa h
      simp only [eats, base, Nat.add_zero, Nat.zero_add] at h1 h2 ⊢
      exact ⟨ot, by omega⟩
    | prodL a =>
      rw [G] at h
      have oa : slim a := hX
      split at h
      · cases h; exact ⟨oa, Nat.le_refl _⟩
      · rename_i n hn
        have h0 := op_len hn
        obtain ⟨b, l2, hb, h⟩ := go_ok h
        obtain ⟨ob, h2⟩ := ih .app _ _ _ _ trivial hb
        obtain ⟨ot, h3⟩ := ih (.prodL _) _ _ _ _ (slim2 (x := { mk 10 (plc E l) with n := n }) (Nat.zero_le _) oa ob) h
        simp only [eats, base, jl2, Nat.add_zero, Nat.zero_add] at h2 h3 ⊢
        exact ⟨ot, by omega⟩
    | app =>
      rw [G] at h
      split at h
      · obtain ⟨x, l1, h1, h⟩ := text_ok h
        obtain ⟨a, l2, ha, h⟩ := go_ok h
        obtain ⟨oa, h2⟩ := ih .post _ _ _ _ trivial ha
        cases h
        simp only [eats, base, jl1, Nat.zero_add] at h2 ⊢
        exact ⟨slim1 (Nat.zero_le _) oa, by omega⟩
      · obtain ⟨a, l1, ha, h⟩ := go_ok h
        obtain ⟨oa, h1⟩ := ih .post _ _ _ _ trivial ha
        obtain ⟨ot, h2⟩ := ih (.appL a) _ _ _ _ oa h
        simp only [eats, base, Nat.add_zero, Nat.zero_add] at h1 h2 ⊢
        exact ⟨ot, by omega⟩
    | appL a =>
      rw [G] at h
      have oa : slim a := hX
      split at h
      · obtain ⟨b, l1, hb, h⟩ := go_ok h
        obtain ⟨ob, h1⟩ := ih .post _ _ _ _ trivial hb
        obtain ⟨ot, h2⟩ := ih (.appL _) _ _ _ _ (slim2 (x := mk 6 (lastP a)) (Nat.zero_le _) oa ob) h
        simp only [eats, base, jl2, Nat.add_zero, Nat.zero_add] at h1 h2 ⊢
        exact ⟨ot, by omega⟩
      · cases h; exact ⟨oa, Nat.le_refl _⟩
    | post =>
      rw [G] at h
      obtain ⟨a, l1, ha, h⟩ := go_ok h
      obtain ⟨oa, h1⟩ := ih .atom _ _ _ _ trivial ha
      obtain ⟨ot, h2⟩ := ih (.postL a) _ _ _ _ oa h
      simp only [eats, base, Nat.add_zero, Nat.zero_add] at h1 h2 ⊢
      exact ⟨ot, by omega⟩
    | postL a =>
      rw [G] at h
      have oa : slim a := hX
      split at h
      · rename_i hw
        have h0 := isT_len hw
        obtain ⟨x, l1, h1, h⟩ := text_ok h
        obtain ⟨ot, h2⟩ := ih (.postL _) _ _ _ _ (slim1 (x := { mk 12 (plc E l) with nm := x }) (Nat.zero_le _) oa) h
        simp only [eats, base, jl1, Nat.add_zero] at h2 ⊢
        exact ⟨ot, by omega⟩
      · cases h; exact ⟨oa, Nat.le_refl _⟩
    | atom =>
      cases l with
      | nil => rw [G] at h; cases h
      | cons y m =>
        rw [G] at h
        simp only [eats, base, List.length_cons, Nat.zero_add]
        split at h
        · cases h; exact ⟨slim0 (Nat.zero_le _), by rw [jl0]; omega⟩
        split at h
        · cases h; exact ⟨slim0 (Nat.zero_le _), by rw [jl0]; omega⟩
        split at h
        · cases h; exact ⟨slim0 (Nat.zero_le _), by rw [jl0]; omega⟩
        split at h
        · cases h; exact ⟨slim0 (Nat.zero_le _), by rw [jl0]; omega⟩
        split at h
        · cases h; exact ⟨slim0 (Nat.zero_le _), by rw [jl0]; omega⟩
        split at h
        · obtain ⟨a, l1, ha, h⟩ := go_ok h
          obtain ⟨oa, h1⟩ := ih .expr _ _ _ _ trivial ha
          obtain ⟨h2, h⟩ := must_ok h
          cases h
          simp only [eats, base, Nat.zero_add] at h1
          exact ⟨oa, by omega⟩
        split at h
        · split at h
          · rename_i hr
            have h0 := isT_len hr
            cases h
            exact ⟨slim0 (Nat.zero_le _), by rw [jl0]; omega⟩
          · obtain ⟨ot, h1⟩ := ih (.recL _ _ _) _ _ _ _ (by intro e he; cases he) h
            simp only [eats, base, List.map_nil, List.sum_nil, Nat.zero_add] at h1
            exact ⟨ot, by omega⟩
        split at h
        · obtain ⟨a, l1, ha, h⟩ := go_ok h
          obtain ⟨oa, h1⟩ := ih .expr _ _ _ _ trivial ha
          obtain ⟨h2, h⟩ := must_ok h
          obtain ⟨ot, h3⟩ := ih (.casL _ _ _) _ _ _ _ (by intro e he; rw [List.mem_singleton] at he; exact he ▸ oa) h
          simp only [eats, base, List.map_cons, List.map_nil, List.sum_cons, List.sum_nil, Nat.add_zero, Nat.zero_add] at h1 h3
          exact ⟨ot, by omega⟩
        · cases h
    | recL p fs ts =>
      rw [G] at h
      have ho : ∀ e ∈ ts, slim e := hX
      obtain ⟨x, l1, h1, hf, h⟩ := label_slim h
      obtain ⟨h2, h⟩ := must_ok h
      obtain ⟨a, l3, ha, h⟩ := go_ok h
      obtain ⟨oa, h3⟩ := ih .expr _ _ _ _ trivial ha
      have ho' : ∀ e ∈ ts ++ [a], slim e := fun e he => by
        rw [List.mem_append, List.mem_singleton] at he
        rcases he with he | rfl
        · exact ho e he
        · exact oa
      split at h
      · rename_i hw
        have h0 := isT_len hw
        obtain ⟨ot, h4⟩ := ih (.recL _ _ _) _ _ _ _ ho' h
        simp only [eats, base, List.map_append, List.sum_append, List.map_cons, List.map_nil, List.sum_cons, List.sum_nil, Nat.add_zero, Nat.zero_add] at h3 h4 ⊢
        exact ⟨ot, by omega⟩
      · obtain ⟨h4, h⟩ := must_ok h
        cases h
        simp only [eats, base, Nat.zero_add] at h3 ⊢
        exact ⟨slimN ho' (by simp only [List.length_append, List.length_singleton]; omega), by simp only [jlN, List.map_append, List.sum_append, List.map_cons, List.map_nil, List.sum_cons, List.sum_nil]; omega⟩
    | casL p fs ts =>
      rw [G] at h
      have ho : ∀ e ∈ ts, slim e := hX
      obtain ⟨x, l1, h1, hf, h⟩ := label_slim h
      obtain ⟨v, l2, h1', h⟩ := text_ok h
      obtain ⟨h2, h⟩ := must_ok h
      obtain ⟨a, l3, ha, h⟩ := go_ok h
      obtain ⟨oa, h3⟩ := ih .expr _ _ _ _ trivial ha
      have ho' : ∀ e ∈ ts ++ [a], slim e := fun e he => by
        rw [List.mem_append, List.mem_singleton] at he
        rcases he with he | rfl
        · exact ho e he
        · exact oa
      split at h
      · rename_i hw
        have h0 := isT_len hw
        obtain ⟨ot, h4⟩ := ih (.casL _ _ _) _ _ _ _ ho' h
        simp only [eats, base, List.map_append, List.sum_append, List.map_cons, List.map_nil, List.sum_cons, List.sum_nil, Nat.add_zero, Nat.zero_add] at h3 h4 ⊢
        exact ⟨ot, by omega⟩
      · obtain ⟨h4, h⟩ := must_ok h
        cases h
        simp only [eats, base, Nat.zero_add] at h3 ⊢
        exact ⟨slimN ho' (by simp only [List.length_append, List.length_singleton]; omega), by simp only [jlN, List.map_append, List.sum_append, List.map_cons, List.map_nil, List.sum_cons, List.sum_nil]; omega⟩
end Go.Proofs.YtjakeidbajkdcaaGreatDoor.T
/- What a whole text is read as: the tree, or the first error and its place. -/
namespace Go.Proofs.YtjakeidbajkdcaaGreatDoor.T
/-- The expr with which the tokens begin. -/
def ex (E : Int) (l : List Tk) : Rs := G E (need .expr l.length) .expr 0 l
/-- The expr of all tokens. -/
def whole (E : Int) (l : List Tk) : Rs := match ex E l with | .bad e p => .bad e p | .ok t [] => .ok t [] | .ok _ (y :: _) => .bad 5 y.p
def far (t : List Nd) : Bool := t.any fun x => decide (1048576 < x.pos)
/-- The tree, the place, the error. -/
noncomputable def told (r : Rs) : List Nd × Int × Int := match r with
  | .bad e p => ([], p, e)
  | .ok t _ => if far t = true then ([], 0, 7) else if may t = 0 then (t, 0, 0) else ([], 0, may t)
theorem ex_ok {E : Int} {l : List Tk} {t : List Nd} {r : List Tk} (h : ex E l = .ok t r) : inOrd t ∧ slim t ∧ t.length ≤ 2 * l.length ∧ r <:+ l ∧ r.length < l.length := by
  obtain ⟨h1, h2⟩ := G_ok E _ .expr _ _ _ _ trivial h
  obtain ⟨h3, h4⟩ := G_size E _ .expr _ _ _ _ trivial h
  obtain ⟨h5, _⟩ := G_suf E _ .expr _ _ _ _ h
  simp only [eats, base] at h2 h4
  exact ⟨h1, h3, by omega, h5, by omega⟩
theorem ex_ok0 {E : Int} {l : List Tk} {t : List Nd} {r : List Tk} (h : ex E l = .ok t r) : inOrd t ∧ slim t ∧ t.length ≤ 2 * l.length := by
  obtain ⟨h1, h2⟩ := G_ok E _ .expr _ _ _ _ trivial h
  obtain ⟨h3, h4⟩ := G_size E _ .expr _ _ _ _ trivial h
  simp only [eats, base] at h2 h4
  exact ⟨h1, h3, by omega⟩
end Go.Proofs.YtjakeidbajkdcaaGreatDoor.T
/- A joined tree laid behind other nodes: its children behind one another, each laid behind what is there, and the node with their places. -/
namespace Go.Proofs.YtjakeidbajkdcaaGreatDoor.T
/-- A tree laid behind others. -/
def lay (N e : List Nd) : List Nd := N ++ e.map (sh N.length)
theorem lay_len (N e : List Nd) : (lay N e).length = N.length + e.length := by simp [lay]
theorem jn_from (N : List Nd) : ∀ ll : List (List Nd), ll.foldl jstep (N, []) = (N ++ (jn ll).1.map (sh N.length), (jn ll).2.map (· + (N.length : Int))) := by
  intro ll
  induction ll using snocInd with
  | h0 => simp [jn]
  | h1 ll e ih =>
    rw [List.foldl_append, ih, jn_snoc]
    simp only [List.foldl_cons, List.foldl_nil, jstep, List.map_append, List.map_cons, List.map_nil, List.length_append, List.length_map, List.map_map, List.append_assoc]
    refine Prod.ext ?_ ?_
    · simp only
      congr 2
      apply List.map_congr_left
      intro m _
      simp only [Function.comp]
      rw [sh_sh, Nat.add_comm]
    · simp only
      congr 2
      omega
theorem lay_join (N : List Nd) (x : Nd) (ll : List (List Nd)) (hl : ll.length = (kids x).length) : lay N (joinN x ll) = (ll.foldl jstep (N, [])).1 ++ [wk x (ll.foldl jstep (N, [])).2] := by
  have hJ : (jn ll).2.length = (kids x).length := (jn_len ll).2.trans hl
  rw [jn_from, lay, joinN, List.map_append, List.map_cons, List.map_nil, ← List.append_assoc]
  congr 2
  unfold sh
  rw [kids_wk hJ, wk_two hJ]
theorem lay0 (N : List Nd) (x : Nd) (hl : (kids x).length = 0) : lay N (joinN x []) = N ++ [wk x []] := lay_join N x [] hl.symm
theorem lay1 (N a : List Nd) (x : Nd) (hl : (kids x).length = 1) : lay N (joinN x [a]) = lay N a ++ [wk x [((lay N a).length : Int) - 1]] := by
  rw [lay_join N x [a] hl.symm, lay_len]; rfl
theorem lay2 (N a b : List Nd) (x : Nd) (hl : (kids x).length = 2) : lay N (joinN x [a, b]) = lay (lay N a) b ++ [wk x [((lay N a).length : Int) - 1, ((lay (lay N a) b).length : Int) - 1]] := by
  rw [lay_join N x [a, b] hl.symm, lay_len, lay_len, lay_len]
  simp only [List.foldl_cons, List.foldl_nil, jstep, List.nil_append, List.length_append, List.length_map, lay, List.cons_append]
theorem lay3 (N a b c : List Nd) (x : Nd) (hl : (kids x).length = 3) : lay N (joinN x [a, b, c]) = lay (lay (lay N a) b) c ++ [wk x [((lay N a).length : Int) - 1, ((lay (lay N a) b).length : Int) - 1, ((lay (lay (lay N a) b) c).length : Int) - 1]] := by
  rw [lay_join N x [a, b, c] hl.symm, lay_len, lay_len, lay_len, lay_len, lay_len, lay_len]
  simp only [List.foldl_cons, List.foldl_nil, jstep, List.nil_append, List.length_append, List.length_map, lay, List.cons_append]
/-- Several trees behind others. -/
def lays (N : List Nd) (ll : List (List Nd)) : List Nd × List Int := ll.foldl jstep (N, [])
theorem lays_snoc (N : List Nd) (ll : List (List Nd)) (e : List Nd) : lays N (ll ++ [e]) = (lay (lays N ll).1 e, (lays N ll).2 ++ [((lay (lays N ll).1 e).length : Int) - 1]) := by
  unfold lays
  rw [List.foldl_append, lay_len]
  rfl
theorem lays_len (N : List Nd) (ll : List (List Nd)) : (lays N ll).2.length = ll.length := by
  unfold lays
  rw [jn_from]
  simp only [List.length_map]
  exact (jn_len ll).2
theorem layN (N : List Nd) (x : Nd) (ll : List (List Nd)) (hl : ll.length = (kids x).length) : lay N (joinN x ll) = (lays N ll).1 ++ [wk x (lays N ll).2] := lay_join N x ll hl
/-- A tree at the beginning lies as it is. -/
theorem sh_zero {x : Nd} (h : wk x (kids x) = x) : sh 0 x = x := by
  unfold sh
  have : (kids x).map (· + ((0 : Nat) : Int)) = kids x := by
    conv => rhs; rw [← List.map_id (kids x)]
    apply List.map_congr_left
    intro k _
    simp
  rw [this, h]
end Go.Proofs.YtjakeidbajkdcaaGreatDoor.T
/- In a tree in order what does not count is zero; so laid at the beginning it is the list itself. -/
namespace Go.Proofs.YtjakeidbajkdcaaGreatDoor.T
/-- What does not count of a node is zero. -/
def neat (x : Nd) : Prop := wk x (kids x) = x
theorem wk_neat {x : Nd} {ks : List Int} (h : ks.length = (kids x).length) : neat (wk x ks) := by unfold neat; rw [kids_wk h, wk_two h]
theorem cp_neat {l : List Nd} (hk : kidsOk l) : ∀ i, i < l.length → ∀ out : List Nd, (∀ x ∈ out, neat x) → ∀ x ∈ cp l i out, neat x := by
  intro i
  induction i using Nat.strongRecOn with
  | ind i ih =>
    intro hi out ho
    have hx : l[i]? = some (l[i]'hi) := List.getElem?_eq_getElem hi
    obtain ⟨x, hx'⟩ : ∃ x, l[i]'hi = x := ⟨_, rfl⟩
    rw [hx'] at hx
    have ha : ahead i x := fun k hk' => hk i x hx k hk'
    have key : ∀ ks : List Int, (∀ k ∈ ks, 0 ≤ k ∧ k < (i : Int)) → ∀ y ∈ (cps l (out, []) ks).1, neat y := by
      intro ks
      induction ks using snocInd with
      | h0 => intro _; exact ho
      | h1 ks k ih2 =>
        intro hks
        have hkk := hks k (by simp)
        rw [cps_snoc]
        exact ih k.toNat (toNat_lt hkk) (by omega) _ (ih2 fun k' hk' => hks k' (by simp [hk']))
    have hlen : (cps l (out, []) (kids x)).2.length = (kids x).length := by rw [cps_len2]; simp
    rw [cp_eq hx ha out]
    intro y hy
    rcases List.mem_append.1 hy with hy | hy
    · exact key _ (fun k hk' => ha k hk') y hy
    · obtain rfl := List.mem_singleton.1 hy
      exact wk_neat hlen
theorem ord_neat {e : List Nd} (h : inOrd e) : ∀ x ∈ e, neat x := by
  obtain ⟨h1, h2, h3⟩ := h
  have hl : 0 < e.length := List.length_pos_iff.2 h1
  have := cp_neat h2 (e.length - 1) (by omega) [] (by simp)
  rwa [h3] at this
theorem lay_nil {e : List Nd} (h : inOrd e) : lay [] e = e := by
  have h1 := ord_neat h
  rw [lay, List.nil_append]
  conv => rhs; rw [← List.map_id e]
  exact List.map_congr_left fun x hx => sh_zero (h1 x hx)
theorem lastK_eq {a : List Nd} {y : Nd} {m : List Nd} (h : a = m ++ [y]) : lastK a = y.kind ∧ lastP a = y.pos := by subst h; simp [lastK, lastP]
/-- The root of a tree that is laid behind others. -/
theorem lay_last (N : List Nd) {a : List Nd} (h : a ≠ []) : ∃ y, (lay N a)[(lay N a).length - 1]? = some y ∧ y.kind = lastK a ∧ y.pos = lastP a := by
  induction a using snocInd with
  | h0 => exact absurd rfl h
  | h1 m y _ =>
    obtain ⟨h1, h2⟩ := lastK_eq (a := m ++ [y]) rfl
    refine ⟨sh N.length y, ?_, h1.symm, h2.symm⟩
    rw [lay_len, lay, List.map_append, ← List.append_assoc]
    have e : N.length + (m ++ [y]).length - 1 = (N ++ m.map (sh N.length)).length := by simp
    rw [e]
    simp
end Go.Proofs.YtjakeidbajkdcaaGreatDoor.T
/- The program's reader, as a function over plain states: what each of its calls makes of the tokens left, the error, the nodes. By fuel for what is nested; none where the fuel or the room ends. -/
namespace Go.Proofs.YtjakeidbajkdcaaGreatDoor.A
open T
/-- A reader's state: the tokens left, the end, whether they were let go, the error and its place, the nodes, how deep it is nested. -/
structure PS where
  l : List Tk
  E : Int
  dead : Bool
  err : Int
  place : Int
  N : List Nd
  d : Nat
/-- What is next. -/
def PS.pk (s : PS) : Tk := match s.l with | [] => ⟨0, ⟨#[]⟩, 0, s.E⟩ | t :: _ => t
def PS.nx (s : PS) : PS := { s with l := s.l.tail }
def PS.no (s : PS) (p e : Int) : PS := { s with l := [], E := 0, dead := true, err := if s.err = 0 then e else s.err, place := if s.err = 0 then p else s.place }
def PS.is (s : PS) (k : Int) (x : List UInt8) : Bool := isT k x s.l
def PS.tk (s : PS) (k : Int) (x : List UInt8) : PS := if s.is k x = true then s.nx else s
def PS.must (s : PS) (k : Int) (x : List UInt8) : PS := if s.is k x = true then s.nx else s.no s.pk.p 5
def PS.txt (s : PS) (k : Int) : ByteArray × PS := if s.pk.k = k then (s.pk.s, s.nx) else (⟨#[]⟩, s.no s.pk.p 5)
def PS.lab (s : PS) (k : Int) (fs : List Fld) : ByteArray × PS :=
  if fs.length = 30 then ((s.txt k).1, (s.txt k).2.no s.pk.p 8) else if (fs.any fun y => y.nm.toList == (s.txt k).1.toList) = true then ((s.txt k).1, (s.txt k).2.no s.pk.p 5) else s.txt k
abbrev Ans := Option (Nat × PS)
def PS.add (s : PS) (n : Nd) : Ans := if s.N.length < 1000000 then some (s.N.length, { s with N := s.N ++ [n] }) else none
/-- The primitive of a sign. -/
def prim (x : ByteArray) : Int :=
  if x.toList = [60] then 5 else if x.toList = [61, 61] then 6 else if x.toList = [43] then 1 else if x.toList = [45] then 2 else if x.toList = [94] then 7 else if x.toList = [42] then 3 else if x.toList = [47] then 4 else 0
def anyOf (ops : List (List UInt8)) (s : PS) : Bool := ops.any fun o => s.is 7 o
def opP (b : PS → Ans) (a : Nat) (s : PS) : Ans := (b s.nx).bind fun r => r.2.add { mk 10 s.pk.p with n := prim s.pk.s, a := a, b := r.1 }
def loopP (ops : List (List UInt8)) (b : PS → Ans) : Nat → Nat → PS → Ans
  | 0, _, _ => none
  | n + 1, a, s => if anyOf ops s = true then (opP b a s).bind fun r => loopP ops b n r.1 r.2 else some (a, s)
def postL : Nat → Nat → PS → Ans
  | 0, _, _ => none
  | n + 1, a, s => if s.is 7 s_dot = true then ((s.nx.txt 2).2.add { mk 12 s.pk.p with nm := (s.nx.txt 2).1, a := a }).bind fun r => postL n r.1 r.2 else some (a, s)
def appL (post : PS → Ans) : Nat → Nat → PS → Ans
  | 0, _, _ => none
  | n + 1, a, s => if begins s.l = true then match s.N[a]? with
    | none => none
    | some x => (post s).bind fun r => (r.2.add { mk 6 x.pos with a := a, b := r.1 }).bind fun q => appL post n q.1 q.2
    else some (a, s)
def leafN (s : PS) : Nd × PS :=
  if s.is 1 w_true = true then ({ mk 2 s.pk.p with n := 1 }, s.nx) else if s.is 1 w_false = true then (mk 2 s.pk.p, s.nx)
  else if s.pk.k = 4 then ({ mk 1 s.pk.p with n := s.pk.n }, s.nx) else if s.pk.k = 5 then ({ mk 3 s.pk.p with s := s.pk.s }, s.nx)
  else if s.pk.k = 2 then ({ mk 4 s.pk.p with nm := s.pk.s }, s.nx) else (mk 0 s.pk.p, s.no s.pk.p 5)
def recL (X : PS → Ans) (p : Int) : Nat → List Fld → PS → Ans
  | 0, _, _ => none
  | n + 1, fs, s => if fs.length < 1000 then (X ((s.lab 2 fs).2.must 7 s_eqs)).bind fun r =>
      if r.2.is 7 s_comma = true then recL X p n (fs ++ [⟨(s.lab 2 fs).1, ⟨#[]⟩, r.1⟩]) r.2.nx
      else (r.2.must 7 s_rbra).add { mk 11 p with l := fs ++ [⟨(s.lab 2 fs).1, ⟨#[]⟩, r.1⟩] }
    else none
def recP (X : PS → Ans) (p : Int) (s : PS) : Ans := if s.is 7 s_rbra = true then s.nx.add (mk 11 p) else recL X p (s.l.length + 2) [] s
def casL (X : PS → Ans) (p : Int) (a : Nat) : Nat → List Fld → PS → Ans
  | 0, _, _ => none
  | n + 1, fs, s => if fs.length < 1000 then (X (((s.lab 3 fs).2.txt 2).2.must 7 s_arrow)).bind fun r =>
      if r.2.is 7 s_bar = true then casL X p a n (fs ++ [⟨(s.lab 3 fs).1, ((s.lab 3 fs).2.txt 2).1, r.1⟩]) r.2.nx
      else (r.2.must 1 w_end).add { mk 14 p with a := a, l := fs ++ [⟨(s.lab 3 fs).1, ((s.lab 3 fs).2.txt 2).1, r.1⟩] }
    else none
def casP (X : PS → Ans) (p : Int) (s : PS) : Ans := (X s).bind fun r => casL X p r.1 ((r.2.must 1 w_of).l.length + 2) [] (r.2.must 1 w_of)
def atomP (X : PS → Ans) (s : PS) : Ans :=
  if s.is 7 s_lpar = true then (X s.nx).bind fun r => some (r.1, r.2.must 7 s_rpar)
  else if s.is 7 s_lbra = true then recP X s.pk.p s.nx
  else if s.is 1 w_case = true then casP X s.pk.p s.nx
  else (leafN s).2.add (leafN s).1
def postP (X : PS → Ans) (s : PS) : Ans := (atomP X s).bind fun r => postL (r.2.l.length + 1) r.1 r.2
def appP (X : PS → Ans) (s : PS) : Ans :=
  if s.pk.k = 3 then (postP X (s.txt 3).2).bind fun r => r.2.add { mk 13 s.pk.p with nm := (s.txt 3).1, a := r.1 }
  else (postP X s).bind fun r => appL (postP X) (r.2.l.length + 1) r.1 r.2
def o_prod : List (List UInt8) := [[42], [47]]
def o_sum : List (List UInt8) := [[43], [45], [94]]
def o_cmp : List (List UInt8) := [[60], [61, 61]]
def prodP (X : PS → Ans) (s : PS) : Ans := (appP X s).bind fun r => loopP o_prod (appP X) (r.2.l.length + 1) r.1 r.2
def sumP (X : PS → Ans) (s : PS) : Ans := (prodP X s).bind fun r => loopP o_sum (prodP X) (r.2.l.length + 1) r.1 r.2
def cmpP (X : PS → Ans) (s : PS) : Ans := (sumP X s).bind fun r => if anyOf o_cmp r.2 = true then opP (sumP X) r.1 r.2 else some r
def funP (X : PS → Ans) (p : Int) (s : PS) : Ans := (X ((s.txt 2).2.must 7 s_arrow)).bind fun r => r.2.add { mk 5 p with nm := (s.txt 2).1, a := r.1 }
/-- Behind let, and rec: k is the node's kind. -/
def bindK (X : PS → Ans) (p k : Int) (s : PS) : Ans :=
  (X ((s.txt 2).2.must 7 s_eqs)).bind fun r =>
    if k = 8 then match r.2.N[r.1]? with
      | none => none
      | some x => (X ((if x.kind = 5 then r.2 else r.2.no ((s.txt 2).2.must 7 s_eqs).pk.p 5).must 1 w_in)).bind fun q => q.2.add { mk k p with nm := (s.txt 2).1, a := r.1, b := q.1 }
    else (X (r.2.must 1 w_in)).bind fun q => q.2.add { mk k p with nm := (s.txt 2).1, a := r.1, b := q.1 }
def bindP (X : PS → Ans) (p : Int) (s : PS) : Ans := if s.is 1 w_rec = true then bindK X p 8 s.nx else bindK X p 7 s
def ifP (X : PS → Ans) (p : Int) (s : PS) : Ans :=
  (X s).bind fun r => (X (r.2.must 1 w_then)).bind fun q => (X (q.2.must 1 w_else)).bind fun u => u.2.add { mk 9 p with a := r.1, b := q.1, c := u.1 }
def innerP (X : PS → Ans) (p : Int) (s : PS) : Ans :=
  if s.is 1 w_fun = true then funP X p s.nx else if s.is 1 w_let = true then bindP X p s.nx else if s.is 1 w_if = true then ifP X p s.nx else cmpP X s
/-- The state in which an expr is read. -/
def PS.deep (s : PS) : PS := { (if s.d = 100 then s.no s.pk.p 6 else s) with d := s.d + 1 }
def PS.up (s : PS) : PS := { s with d := s.d - 1 }
def exprP : Nat → PS → Ans
  | 0, _ => none
  | f + 1, s => if s.d < 1000 then (innerP (exprP f) s.pk.p s.deep).bind fun r => some (r.1, r.2.up) else none
end Go.Proofs.YtjakeidbajkdcaaGreatDoor.A
/- How deep it is nested, no row turns. -/
namespace Go.Proofs.YtjakeidbajkdcaaGreatDoor.A
open T
theorem bnd {α β : Type} {o : Option α} {f : α → Option β} {r : β} (h : o.bind f = some r) : ∃ a, o = some a ∧ f a = some r := Option.bind_eq_some_iff.1 h
/-- A row that keeps the depth. -/
def Kd (X : PS → Ans) : Prop := ∀ s r, X s = some r → r.2.d = s.d
theorem nx_d (s : PS) : s.nx.d = s.d := rfl
theorem must_d (s : PS) (k : Int) (x : List UInt8) : (s.must k x).d = s.d := by unfold PS.must; split <;> rfl
theorem txt_d (s : PS) (k : Int) : (s.txt k).2.d = s.d := by unfold PS.txt; split <;> rfl
theorem lab_d (s : PS) (k : Int) (fs : List Fld) : (s.lab k fs).2.d = s.d := by
  unfold PS.lab
  split
  · exact txt_d s k
  · split
    · exact txt_d s k
    · exact txt_d s k
theorem add_d {s : PS} {n : Nd} {r : Nat × PS} (h : s.add n = some r) : r.2.d = s.d := by
  unfold PS.add at h
  split at h
  · cases h; rfl
  · cases h
theorem leaf_d (s : PS) : (leafN s).2.d = s.d := by
  unfold leafN
  repeat' split
  all_goals rfl
theorem op_d {X : PS → Ans} (hX : Kd X) {a : Nat} {s : PS} {r : Nat × PS} (h : opP X a s = some r) : r.2.d = s.d := by
  obtain ⟨q, h1, h2⟩ := bnd h
  exact (add_d h2).trans ((hX _ _ h1).trans (nx_d s))
theorem loop_d {X : PS → Ans} (hX : Kd X) (ops : List (List UInt8)) : ∀ n a s r, loopP ops X n a s = some r → r.2.d = s.d := by
  intro n
  induction n with
  | zero => intro a s r h; cases h
  | succ n ih =>
    intro a s r h
    rw [loopP] at h
    split at h
    · obtain ⟨q, h1, h2⟩ := bnd h
      exact (ih _ _ _ h2).trans (op_d hX h1)
    · cases h; rfl
theorem postL_d : ∀ n a s r, postL n a s = some r → r.2.d = s.d := by
  intro n
  induction n with
  | zero => intro a s r h; cases h
  | succ n ih =>
    intro a s r h
    rw [postL] at h
    split at h
    · obtain ⟨q, h1, h2⟩ := bnd h
      exact (ih _ _ _ h2).trans ((add_d h1).trans ((txt_d _ _).trans (nx_d s)))
    · cases h; rfl
theorem appL_d {X : PS → Ans} (hX : Kd X) : ∀ n a s r, appL X n a s = some r → r.2.d = s.d := by
  intro n
  induction n with
  | zero => intro a s r h; cases h
  | succ n ih =>
    intro a s r h
    rw [appL] at h
    split at h
    · split at h
      · cases h
      · obtain ⟨q, h1, h2⟩ := bnd h
        obtain ⟨u, h3, h4⟩ := bnd h2
        exact (ih _ _ _ h4).trans ((add_d h3).trans (hX _ _ h1))
    · cases h; rfl
theorem recL_d {X : PS → Ans} (hX : Kd X) (p : Int) : ∀ n fs s r, recL X p n fs s = some r → r.2.d = s.d := by
  intro n
  induction n with
  | zero => intro fs s r h; cases h
  | succ n ih =>
    intro fs s r h
    rw [recL] at h
    split at h
    · obtain ⟨q, h1, h2⟩ := bnd h
      have e1 : q.2.d = s.d := (hX _ _ h1).trans ((must_d _ _ _).trans (lab_d _ _ _))
      simp only at h2
      split at h2
      · exact (ih _ _ _ h2).trans ((nx_d _).trans e1)
      · exact (add_d h2).trans ((must_d _ _ _).trans e1)
    · cases h
theorem casL_d {X : PS → Ans} (hX : Kd X) (p : Int) (a : Nat) : ∀ n fs s r, casL X p a n fs s = some r → r.2.d = s.d := by
  intro n
  induction n with
  | zero => intro fs s r h; cases h
  | succ n ih =>
    intro fs s r h
    rw [casL] at h
    split at h
    · obtain ⟨q, h1, h2⟩ := bnd h
      have e1 : q.2.d = s.d := (hX _ _ h1).trans ((must_d _ _ _).trans ((txt_d _ _).trans (lab_d _ _ _)))
      simp only at h2
      split at h2
      · exact (ih _ _ _ h2).trans ((nx_d _).trans e1)
      · exact (add_d h2).trans ((must_d _ _ _).trans e1)
    · cases h
theorem atom_d {X : PS → Ans} (hX : Kd X) : Kd (atomP X) := by
  intro s r h
  unfold atomP at h
  split at h
  · obtain ⟨q, h1, h2⟩ := bnd h
    cases h2
    exact (must_d _ _ _).trans ((hX _ _ h1).trans (nx_d s))
  split at h
  · unfold recP at h
    split at h
    · exact (add_d h).trans rfl
    · exact (recL_d hX _ _ _ _ _ h).trans rfl
  split at h
  · obtain ⟨q, h1, h2⟩ := bnd h
    exact (casL_d hX _ _ _ _ _ _ h2).trans ((must_d _ _ _).trans ((hX _ _ h1).trans (nx_d s)))
  · exact (add_d h).trans (leaf_d s)
theorem post_d {X : PS → Ans} (hX : Kd X) : Kd (postP X) := by
  intro s r h
  obtain ⟨q, h1, h2⟩ := bnd h
  exact (postL_d _ _ _ _ h2).trans (atom_d hX _ _ h1)
theorem app_d {X : PS → Ans} (hX : Kd X) : Kd (appP X) := by
  intro s r h
  unfold appP at h
  split at h
  · obtain ⟨q, h1, h2⟩ := bnd h
    exact (add_d h2).trans ((post_d hX _ _ h1).trans (txt_d _ _))
  · obtain ⟨q, h1, h2⟩ := bnd h
    exact (appL_d (post_d hX) _ _ _ _ h2).trans (post_d hX _ _ h1)
theorem prod_d {X : PS → Ans} (hX : Kd X) : Kd (prodP X) := by
  intro s r h
  obtain ⟨q, h1, h2⟩ := bnd h
  exact (loop_d (app_d hX) _ _ _ _ _ h2).trans (app_d hX _ _ h1)
theorem sum_d {X : PS → Ans} (hX : Kd X) : Kd (sumP X) := by
  intro s r h
  obtain ⟨q, h1, h2⟩ := bnd h
  exact (loop_d (prod_d hX) _ _ _ _ _ h2).trans (prod_d hX _ _ h1)
theorem cmp_d {X : PS → Ans} (hX : Kd X) : Kd (cmpP X) := by
  intro s r h
  obtain ⟨q, h1, h2⟩ := bnd h
  split at h2
  · exact (op_d (sum_d hX) h2).trans (sum_d hX _ _ h1)
  · cases h2; exact sum_d hX _ _ h1
theorem fun_d {X : PS → Ans} (hX : Kd X) (p : Int) : Kd (funP X p) := by
  intro s r h
  obtain ⟨q, h1, h2⟩ := bnd h
  exact (add_d h2).trans ((hX _ _ h1).trans ((must_d _ _ _).trans (txt_d _ _)))
theorem bindK_d {X : PS → Ans} (hX : Kd X) (p k : Int) : Kd (bindK X p k) := by
  intro s r h
  obtain ⟨q, h1, h2⟩ := bnd h
  have e1 : q.2.d = s.d := (hX _ _ h1).trans ((must_d _ _ _).trans (txt_d _ _))
  simp only at h2
  split at h2
  · split at h2
    · cases h2
    · obtain ⟨u, h3, h4⟩ := bnd h2
      refine (add_d h4).trans ((hX _ _ h3).trans ((must_d _ _ _).trans ?_))
      split
      · exact e1
      · exact e1
  · obtain ⟨u, h3, h4⟩ := bnd h2
    exact (add_d h4).trans ((hX _ _ h3).trans ((must_d _ _ _).trans e1))
theorem bind_d {X : PS → Ans} (hX : Kd X) (p : Int) : Kd (bindP X p) := by
  intro s r h
  unfold bindP at h
  split at h
  · exact (bindK_d hX _ _ _ _ h).trans (nx_d s)
  · exact bindK_d hX _ _ _ _ h
theorem if_d {X : PS → Ans} (hX : Kd X) (p : Int) : Kd (ifP X p) := by
  intro s r h
  obtain ⟨q, h1, h2⟩ := bnd h
  obtain ⟨u, h3, h4⟩ := bnd h2
  obtain ⟨t, h5, h6⟩ := bnd h4
  exact (add_d h6).trans ((hX _ _ h5).trans ((must_d _ _ _).trans ((hX _ _ h3).trans ((must_d _ _ _).trans (hX _ _ h1)))))
theorem inner_d {X : PS → Ans} (hX : Kd X) (p : Int) : Kd (innerP X p) := by
  intro s r h
  unfold innerP at h
  split at h
  · exact (fun_d hX _ _ _ h).trans (nx_d s)
  split at h
  · exact (bind_d hX _ _ _ h).trans (nx_d s)
  split at h
  · exact (if_d hX _ _ _ h).trans (nx_d s)
  · exact cmp_d hX _ _ h
theorem deep_d (s : PS) : s.deep.d = s.d + 1 := rfl
theorem expr_d : ∀ f, Kd (exprP f) := by
  intro f
  induction f with
  | zero => intro s r h; cases h
  | succ f ih =>
    intro s r h
    rw [exprP] at h
    split at h
    · obtain ⟨q, h1, h2⟩ := bnd h
      cases h2
      have := inner_d ih _ _ _ h1
      rw [deep_d] at this
      show q.2.d - 1 = s.d
      omega
    · cases h
end Go.Proofs.YtjakeidbajkdcaaGreatDoor.A
