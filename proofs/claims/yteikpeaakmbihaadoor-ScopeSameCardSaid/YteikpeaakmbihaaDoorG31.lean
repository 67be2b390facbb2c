/- Joined by program: PEq, PSameN, PEqF. -/
import Derived.Test.YteikpeaakmbihaaDoorG19
import Derived.Laws.StructEq
/- Are two rows of parts the same? -/
namespace Go.Proofs.YteikpeaakmbihaaDoor.T
open Go.RowKit
/-- Are two parts the same? -/
def fe (f g : Fld) : Bool := (f.nm.toList == g.nm.toList) && ((f.vr.toList == g.vr.toList) && (f.pl == g.pl))
/-- Are these all the same, one by one, as far as the first ones go? -/
def les : List Fld → List Fld → Bool
  | [], _ => true
  | _ :: _, [] => false
  | f :: l, g :: m => fe f g && les l m
theorem les_yes {l m : List Fld} (h : ∀ (j : Nat) (f g : Fld), l[j]? = some f → m[j]? = some g → fe f g = true) (hl : l.length = m.length) : les l m = true := by
  induction l generalizing m with
  | nil => rfl
  | cons f l ih =>
    cases m with
    | nil => simp at hl
    | cons g m =>
      rw [les, h 0 f g rfl rfl, Bool.true_and]
      exact ih (fun j a b h1 h2 => h (j + 1) a b (by simpa using h1) (by simpa using h2)) (by simpa using hl)
theorem les_no {l m : List Fld} {j : Nat} {f g : Fld} (h1 : l[j]? = some f) (h2 : m[j]? = some g) (hf : fe f g = false) : les l m = false := by
  induction l generalizing m j with
  | nil => simp at h1
  | cons a l ih =>
    cases m with
    | nil => simp at h2
    | cons b m =>
      cases j with
      | zero =>
        simp at h1 h2
        subst h1 h2
        rw [les, hf]; rfl
      | succ j =>
        rw [les, ih (by simpa using h1) (by simpa using h2)]; simp
set_option maxRecDepth 100000 in
set_option maxHeartbeats 4000000 in
theorem eq_pos (l m : List Fld) (L c1 b1 o1 c2 b2 o2 : Nat) (HL : Hid (l.length = L)) (HM : Hid (m.length = L)) (hL : L ≤ 1000000) (w : World) (HF : Hid (FldsAt w b1 o1 l)) (HG : Hid (FldsAt w b2 o2 m)) :
    Calls Tryd.prog 75 #[.slice (some ⟨b1, o1, none⟩) L c1, .slice (some ⟨b2, o2, none⟩) L c2] w fun e w' => e = .returned (.bool (les l m)) ∧ Below w.heap.size w w' := by
  go_enter Tryd.func75, Tryd.ntmps75
  go_wp2
  go_loopw [13] (fun i wr => ∃ q : Nat, i = .int .i64 (q : Int) ∧ q ≤ L ∧ Hid (∀ (j : Nat) (f g : Fld), j < q → l[j]? = some f → m[j]? = some g → fe f g = true) ∧ Hid (Below w.heap.size w wr ∧ wr.heap = w.heap)) (fun i _ => L - (intOf i).toNat)
  case atStart => exact ⟨0, rfl, Nat.zero_le _, Lib.hid (fun j f g h => absurd h (by omega)), Lib.hid ⟨Below.refl _ _, rfl⟩⟩
  case round =>
    obtain ⟨q, rfl, hq, HA, HB⟩ := hrel
    by_cases hlt : q < L
    · obtain ⟨f, hf⟩ : ∃ f, l[q]? = some f := ⟨_, List.getElem?_eq_getElem (by rw [HL.out]; exact hlt)⟩
      obtain ⟨g, hg⟩ : ∃ g, m[q]? = some g := ⟨_, List.getElem?_eq_getElem (by rw [HM.out]; exact hlt)⟩
      have hcell : ∀ b k, wr.cell? ⟨b, k, none⟩ = w.cell? ⟨b, k, none⟩ := fun b k => by simp only [World.cell?, HB.out.2]
      obtain ⟨z0, z1, z2⟩ := HF.out q f hf
      obtain ⟨y0, y1, y2⟩ := HG.out q g hg
      rw [← hcell] at z0 z1 z2 y0 y1 y2
      have HX := Lib.hid hf
      have HY := Lib.hid hg
      clear hcell hf hg
      have hr : ∀ (t : Bool), fe f g = t → (t = true → f.nm.toList = g.nm.toList ∧ f.vr.toList = g.vr.toList ∧ f.pl = g.pl) ∧ (t = false → ¬ (f.nm.toList = g.nm.toList ∧ f.vr.toList = g.vr.toList ∧ f.pl = g.pl)) := by
        intro t ht
        unfold fe at ht
        constructor
        · rintro rfl
          simpa using ht
        · rintro rfl
          simpa using ht
      by_cases a1 : f.nm.toList = g.nm.toList
      · by_cases a2 : f.vr.toList = g.vr.toList
        · by_cases a3 : f.pl = g.pl
          · have HY1 : Hid (fe f g = true) := Lib.hid (by simp [fe, a1, a2, a3])
            have HN : Hid (∀ (j : Nat) (f g : Fld), j < q + 1 → l[j]? = some f → m[j]? = some g → fe f g = true) := Lib.hid (by
              intro j f' g' hj hf' hg'
              by_cases e : j = q
              · subst e
                rw [HX.out] at hf'; rw [HY.out] at hg'
                injection hf' with hf'; injection hg' with hg'
                subst hf' hg'; exact HY1.out
              · exact HA.out j f' g' (by omega) hf' hg')
            clear hr
            go_wp2_with fail
            go_region
            all_goals
              go_wp2
              go_roundw
              case rel => exact ⟨q + 1, by go_num, by omega, HN, Lib.hid ⟨HB.out.1.drew, HB.out.2⟩⟩
              case measure => simp [intOf]; omega
          · have HY1 : Hid (les l m = false) := Lib.hid (les_no HX.out HY.out (by simp [fe, a3]))
            clear hr
            go_wp2_with fail
            go_region
            all_goals
              go_wp2
              go_ret
              exact ⟨ret_b HY1.out.symm, HB.out.1.drew⟩
        · have HY1 : Hid (les l m = false) := Lib.hid (les_no HX.out HY.out (by simp [fe, a2]))
          clear hr
          go_wp2_with fail
          go_region
          all_goals
            go_wp2
            go_ret
            exact ⟨ret_b HY1.out.symm, HB.out.1.drew⟩
      · have HY1 : Hid (les l m = false) := Lib.hid (les_no HX.out HY.out (by simp [fe, a1]))
        clear hr
        go_wp2_with fail
        go_region
        all_goals
          go_wp2
          go_ret
          exact ⟨ret_b HY1.out.symm, HB.out.1.drew⟩
    · obtain rfl : q = L := by omega
      have HR : Hid (les l m = true) := Lib.hid (les_yes (fun j f g h1 h2 => HA.out j f g (by have := lt_of_some h1; rw [HL.out] at this; exact this) h1 h2) (by rw [HL.out, HM.out]))
      go_wp2
      go_ret
      exact ⟨ret_b HR.out.symm, HB.out.1⟩
/-- Are two rows of parts the same? -/
def lf (l m : List Fld) : Bool := (l.length == m.length) && les l m
set_option maxHeartbeats 1000000 in
theorem eq_any (l m : List Fld) (v u : Value) (w : World) (hv : Flds w.heap.size w v l) (hu : Flds w.heap.size w u m) (hL : l.length ≤ 1000000) (_hM : m.length ≤ 1000000) :
    Calls Tryd.prog 75 #[v, u] w fun e w' => e = .returned (.bool (lf l m)) ∧ Below w.heap.size w w' := by
  obtain ⟨A, c1, rfl, _, _, hq⟩ := hv
  obtain ⟨C, c2, rfl, _, _, hr⟩ := hu
  by_cases he : l.length = m.length
  · have hb : lf l m = les l m := by rw [lf, he]; simp
    rw [hb, ← he]
    by_cases h0 : 0 < l.length
    · obtain ⟨b1, o1, rfl, _, h1⟩ := hq h0
      obtain ⟨b2, o2, rfl, _, h2⟩ := hr (by omega)
      exact eq_pos l m _ c1 b1 o1 c2 b2 o2 (Lib.hid rfl) (Lib.hid he.symm) hL w (Lib.hid h1) (Lib.hid h2)
    · obtain rfl : l = [] := List.eq_nil_of_length_eq_zero (by omega)
      have e0 : les [] m = true := rfl
      rw [e0]
      clear hq hr hb
      go_enter Tryd.func75, Tryd.ntmps75
      go_wp2
      go_loop [13] (fun i => i = .int .i64 0) (fun _ => 0)
      case atStart => exact rfl
      case round =>
        obtain rfl := hrel
        go_wp2
        go_ret
        exact ⟨rfl, Below.refl _ _⟩
  · have hb : lf l m = false := by rw [lf]; simp [he]
    rw [hb]
    have hne : ((l.length : Int) != (m.length : Int)) = true := by simpa using (by omega : ¬ (l.length : Int) = (m.length : Int))
    have hne2 : ¬ l.length = m.length := he
    clear hq hr hb
    go_enter Tryd.func75, Tryd.ntmps75
    go_wp2
    go_ret
    exact ⟨rfl, Below.refl _ _⟩
end Go.Proofs.YteikpeaakmbihaaDoor.T
/- isSame, the program's: are two nodes the same, but for Pos? -/
namespace Go.Proofs.YteikpeaakmbihaaDoor.T
open Go.RowKit
def sn (x y : Nd) : Bool := (x.kind == y.kind) && ((x.a == y.a) && ((x.b == y.b) && ((x.c == y.c) && ((x.n == y.n) && ((x.nm.toList == y.nm.toList) && ((x.s.toList == y.s.toList) && lf x.l y.l))))))
set_option maxRecDepth 100000 in
set_option maxHeartbeats 8000000 in
theorem same_any (x y : Nd) (v u : Value) (w : World) (hv : Flds w.heap.size w v x.l) (hu : Flds w.heap.size w u y.l) (hL : x.l.length ≤ 1000000) (hM : y.l.length ≤ 1000000) :
    Calls Tryd.prog 50 #[.agg (ndArr x v), .agg (ndArr y u)] w fun e w' => e = .returned (.bool (sn x y)) ∧ Below w.heap.size w w' := by
  have HE : Hid (∀ w1, Below w.heap.size w w1 → Calls Tryd.prog 75 #[v, u] w1 fun e w' => e = .returned (.bool (lf x.l y.l)) ∧ Below w1.heap.size w1 w') := Lib.hid fun w1 hb => eq_any x.l y.l v u w1 ((hv.below hb).mono hb.size) ((hu.below hb).mono hb.size) hL hM
  obtain ⟨t, ht⟩ : ∃ t, lf x.l y.l = t := ⟨_, rfl⟩
  rw [ht] at HE
  have HSN : Hid (sn x y = ((x.kind == y.kind) && ((x.a == y.a) && ((x.b == y.b) && ((x.c == y.c) && ((x.n == y.n) && ((x.nm.toList == y.nm.toList) && ((x.s.toList == y.s.toList) && t)))))))) := Lib.hid (by rw [sn, ht])
  rw [HSN.out]
  clear ht HSN hL hM
  obtain ⟨A, c1, rfl, _⟩ := hv
  obtain ⟨C, c2, rfl, _⟩ := hu
  obtain ⟨k, a, b, c, n, nm, s, l, pos⟩ := x
  obtain ⟨k', a', b', c', n', nm', s', l', pos'⟩ := y
  unfold ndArr
  simp only at HE ⊢
  have HB2 : Hid (Below w.heap.size w ((w.alloc (.cells #[.int .i64 k, .int .i64 a, .int .i64 b, .int .i64 c, .int .i64 n, .string nm, .string s, .slice A l.length c1, .int .i64 pos] 27)).alloc (.cells #[.int .i64 k', .int .i64 a', .int .i64 b', .int .i64 c', .int .i64 n', .string nm', .string s', .slice C l'.length c2, .int .i64 pos'] 27))) := Lib.hid (((Below.refl _ w).alloc (Nat.le_refl _) _).alloc (by simp) _)
  cases h0 : (k == k') with
  | false =>
    go_enter Tryd.func50, Tryd.ntmps50
    go_wp2
    go_ret
    exact ⟨ret_b (by simp), HB2.out⟩
  | true =>
    cases h1 : (a == a') with
    | false =>
      go_enter Tryd.func50, Tryd.ntmps50
      go_wp2
      go_ret
      exact ⟨ret_b (by simp), HB2.out⟩
    | true =>
      cases h2 : (b == b') with
      | false =>
        go_enter Tryd.func50, Tryd.ntmps50
        go_wp2
        go_ret
        exact ⟨ret_b (by simp), HB2.out⟩
      | true =>
        cases h3 : (c == c') with
        | false =>
          go_enter Tryd.func50, Tryd.ntmps50
          go_wp2
          go_ret
          exact ⟨ret_b (by simp), HB2.out⟩
        | true =>
          cases h4 : (n == n') with
          | false =>
            go_enter Tryd.func50, Tryd.ntmps50
            go_wp2
            go_ret
            exact ⟨ret_b (by simp), HB2.out⟩
          | true =>
            cases h5 : (nm.toList == nm'.toList) with
            | false =>
              go_enter Tryd.func50, Tryd.ntmps50
              go_wp2
              go_ret
              exact ⟨ret_b (by simp), HB2.out⟩
            | true =>
              cases h6 : (s.toList == s'.toList) with
              | false =>
                go_enter Tryd.func50, Tryd.ntmps50
                go_wp2
                go_ret
                exact ⟨ret_b (by simp), HB2.out⟩
              | true =>
                go_enter Tryd.func50, Tryd.ntmps50
                go_wp2_with (go_at_call 75; refine (HE.out _ HB2.out).mono ?_; rintro e w1 ⟨rfl, hb⟩; have HB := Lib.hid hb; clear hb)
                go_ret
                exact ⟨ret_b (by simp), HB2.out.trans (HB.out.mono (by simp; omega))⟩
end Go.Proofs.YteikpeaakmbihaaDoor.T
/- slices.EqualFunc over nodes: are two trees' nodes the same, but for Pos? -/
namespace Go.Proofs.YteikpeaakmbihaaDoor.T
open Go.RowKit
def lns : List Nd → List Nd → Bool
  | [], _ => true
  | _ :: _, [] => false
  | x :: l, y :: m => sn x y && lns l m
theorem lns_yes {l m : List Nd} (h : ∀ (j : Nat) (x y : Nd), l[j]? = some x → m[j]? = some y → sn x y = true) (hl : l.length = m.length) : lns l m = true := by
  induction l generalizing m with
  | nil => rfl
  | cons f l ih =>
    cases m with
    | nil => simp at hl
    | cons g m =>
      rw [lns, h 0 f g rfl rfl, Bool.true_and]
      exact ih (fun j a b h1 h2 => h (j + 1) a b (by simpa using h1) (by simpa using h2)) (by simpa using hl)
theorem lns_no {l m : List Nd} {j : Nat} {x y : Nd} (h1 : l[j]? = some x) (h2 : m[j]? = some y) (hf : sn x y = false) : lns l m = false := by
  induction l generalizing m j with
  | nil => simp at h1
  | cons a l ih =>
    cases m with
    | nil => simp at h2
    | cons b m =>
      cases j with
      | zero =>
        simp at h1 h2
        subst h1 h2
        rw [lns, hf]; rfl
      | succ j =>
        rw [lns, ih (by simpa using h1) (by simpa using h2)]; simp
/-- Are all nodes the same, but for Pos? -/
def ln (l m : List Nd) : Bool := (l.length == m.length) && lns l m
set_option maxRecDepth 100000 in
set_option maxHeartbeats 8000000 in
theorem eqf_pos (l m : List Nd) (L c1 b1 o1 c2 b2 o2 : Nat) (HL : Hid (l.length = L)) (HM : Hid (m.length = L)) (hL : L ≤ 1000000) (w : World) (hb1 : b1 < w.heap.size) (hb2 : b2 < w.heap.size) (HF : Hid (NdsAt w.heap.size w b1 o1 l)) (HG : Hid (NdsAt w.heap.size w b2 o2 m)) (HS1 : Hid (∀ x ∈ l, x.l.length ≤ 1000000)) (HS2 : Hid (∀ x ∈ m, x.l.length ≤ 1000000)) :
    Calls Tryd.prog 49 #[.slice (some ⟨b1, o1, none⟩) L c1, .slice (some ⟨b2, o2, none⟩) L c2, .func (.func 50) #[] #[]] w fun e w' => e = .returned (.bool (lns l m)) ∧ Below w.heap.size w w' := by
  go_enter Tryd.func49, Tryd.ntmps49
  go_wp2
  go_loopw [17] (fun i wr => ∃ q : Nat, i = .int .i64 (q : Int) ∧ q ≤ L ∧ Hid (∀ (j : Nat) (x y : Nd), j < q → l[j]? = some x → m[j]? = some y → sn x y = true) ∧ Hid (Below w.heap.size w wr)) (fun i _ => L - (intOf i).toNat)
  case atStart => exact ⟨0, rfl, Nat.zero_le _, Lib.hid (fun j f g h => absurd h (by omega)), Lib.hid (Below.refl _ _)⟩
  case round =>
    obtain ⟨q, rfl, hq, HA, HB⟩ := hrel
    have hsz := HB.out.size
    by_cases hlt : q < L
    · obtain ⟨x, hx⟩ : ∃ x, l[q]? = some x := ⟨_, List.getElem?_eq_getElem (by rw [HL.out]; exact hlt)⟩
      obtain ⟨y, hy⟩ : ∃ y, m[q]? = some y := ⟨_, List.getElem?_eq_getElem (by rw [HM.out]; exact hlt)⟩
      obtain ⟨fv, hfl, m0, m1, m2, m3, m4, m5, m6, m7, m8⟩ := (HF.out.below HB.out hb1) q x hx
      obtain ⟨gv, hgl, n0, n1, n2, n3, n4, n5, n6, n7, n8⟩ := (HG.out.below HB.out hb2) q y hy
      have HE : Hid (∀ w1, Below wr.heap.size wr w1 → Calls Tryd.prog 50 #[.agg (ndArr x fv), .agg (ndArr y gv)] w1 fun e w' => e = .returned (.bool (sn x y)) ∧ Below w1.heap.size w1 w') := Lib.hid fun w1 hb => same_any x y fv gv w1 (((hfl.mono hsz).below hb).mono hb.size) (((hgl.mono hsz).below hb).mono hb.size) (HS1.out x (List.mem_of_getElem? hx)) (HS2.out y (List.mem_of_getElem? hy))
      obtain ⟨FA, fc, rfl, _⟩ := hfl
      obtain ⟨GA, gc, rfl, _⟩ := hgl
      have HB2 : Hid (Below wr.heap.size wr ((wr.alloc (.cells (ndArr x (.slice FA x.l.length fc)) 27)).alloc (.cells (ndArr y (.slice GA y.l.length gc)) 27))) := Lib.hid (((Below.refl _ wr).alloc (Nat.le_refl _) _).alloc (by simp) _)
      have HX := Lib.hid hx
      have HY := Lib.hid hy
      obtain ⟨t, ht⟩ : ∃ t, sn x y = t := ⟨_, rfl⟩
      rw [ht] at HE
      have HT := Lib.hid ht
      have hl1 : b1 < wr.heap.size := by omega
      have hl2 : b2 < wr.heap.size := by omega
      have hl3 : b2 < wr.heap.size + 1 := by omega
      clear hx hy ht
      cases t with
      | false =>
        go_wp2_with (go_at_call 50; refine (HE.out _ HB2.out).mono ?_; rintro e w1 ⟨rfl, hb⟩; have HBB := Lib.hid hb; clear hb)
        go_ret
        exact ⟨ret_b (lns_no HX.out HY.out HT.out).symm, HB.out.trans ((HB2.out.trans (HBB.out.mono (by simp; omega))).mono hsz)⟩
      | true =>
        go_wp2_with (go_at_call 50; refine (HE.out _ HB2.out).mono ?_; rintro e w1 ⟨rfl, hb⟩; have HBB := Lib.hid hb; clear hb)
        go_roundw
        case rel =>
          refine ⟨q + 1, by go_num, by omega, Lib.hid ?_, Lib.hid (HB.out.trans ((HB2.out.trans (HBB.out.mono (by simp; omega))).mono hsz))⟩
          intro j f' g' hj hf' hg'
          by_cases e : j = q
          · subst e
            rw [HX.out] at hf'; rw [HY.out] at hg'
            injection hf' with hf'; injection hg' with hg'
            subst hf' hg'; exact HT.out
          · exact HA.out j f' g' (by omega) hf' hg'
        case measure => simp [intOf]; omega
    · obtain rfl : q = L := by omega
      have HR : Hid (lns l m = true) := Lib.hid (lns_yes (fun j f g h1 h2 => HA.out j f g (by have := lt_of_some h1; rw [HL.out] at this; exact this) h1 h2) (by rw [HL.out, HM.out]))
      go_wp2
      go_ret
      exact ⟨ret_b HR.out.symm, HB.out⟩
set_option maxHeartbeats 1000000 in
theorem eqf_any (l m : List Nd) (v u : Value) (w : World) (hv : Nodes w.heap.size w v l) (hu : Nodes w.heap.size w u m) (hL : l.length ≤ 1000000) (_hM : m.length ≤ 1000000) (hS1 : ∀ x ∈ l, x.l.length ≤ 1000000) (hS2 : ∀ x ∈ m, x.l.length ≤ 1000000) :
    Calls Tryd.prog 49 #[v, u, .func (.func 50) #[] #[]] w fun e w' => e = .returned (.bool (ln l m)) ∧ Below w.heap.size w w' := by
  obtain ⟨A, c1, rfl, _, _, hq⟩ := hv
  obtain ⟨C, c2, rfl, _, _, hr⟩ := hu
  by_cases he : l.length = m.length
  · have hb : ln l m = lns l m := by rw [ln, he]; simp
    rw [hb, ← he]
    by_cases h0 : 0 < l.length
    · obtain ⟨b1, o1, rfl, hb1, h1⟩ := hq h0
      obtain ⟨b2, o2, rfl, hb2, h2⟩ := hr (by omega)
      exact eqf_pos l m _ c1 b1 o1 c2 b2 o2 (Lib.hid rfl) (Lib.hid he.symm) hL w hb1 hb2 (Lib.hid h1) (Lib.hid h2) (Lib.hid hS1) (Lib.hid hS2)
    · obtain rfl : l = [] := List.eq_nil_of_length_eq_zero (by omega)
      have e0 : lns [] m = true := rfl
      rw [e0]
      clear hq hr hb hS1 hS2
      go_enter Tryd.func49, Tryd.ntmps49
      go_wp2
      go_loop [17] (fun i => i = .int .i64 0) (fun _ => 0)
      case atStart => exact rfl
      case round =>
        obtain rfl := hrel
        go_wp2
        go_ret
        exact ⟨rfl, Below.refl _ _⟩
  · have hb : ln l m = false := by rw [ln]; simp [he]
    rw [hb]
    have hne : ((l.length : Int) != (m.length : Int)) = true := by simpa using (by omega : ¬ (l.length : Int) = (m.length : Int))
    have hne2 : ¬ l.length = m.length := he
    clear hq hr hb hS1 hS2
    go_enter Tryd.func49, Tryd.ntmps49
    go_wp2
    go_ret
    exact ⟨rfl, Below.refl _ _⟩
end Go.Proofs.YteikpeaakmbihaaDoor.T
