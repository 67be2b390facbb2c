/- The walk of the law LexAll. -/
import Derived.Test.YtekbfgjlkmldgaaDoorLNew
namespace Go.Proofs.YtekbfgjlkmldgaaDoor.L
open Go.RowKit
theorem its_pos : ∀ (f : Nat) (s : ByteArray) (a : Nat) (x : Item), x ∈ its f s a → a ≤ x.2 ∧ x.2 < s.size
  | 0, _, _, x, h => by simp [its] at h
  | f + 1, s, a, x, h => by
    rw [its] at h
    split at h
    · rename_i ha
      split at h
      · rename_i he
        rcases List.mem_cons.1 h with rfl | h
        · exact ⟨Nat.le_refl _, ha⟩
        · have h1 := its_pos f s _ x h
          have h2 := nx_ge s (a + (tok (s.extract a s.size)).long)
          omega
      · rw [List.mem_singleton.1 h]; exact ⟨Nat.le_refl _, ha⟩
    · simp at h
theorem its_inc : ∀ (f : Nat) (s : ByteArray) (a k : Nat) (x y : Item), (its f s a)[k]? = some x → (its f s a)[k + 1]? = some y → x.2 < y.2
  | 0, _, _, k, x, y, h, _ => by simp [its] at h
  | f + 1, s, a, k, x, y, h, h' => by
    rw [its] at h h'
    by_cases ha : a < s.size
    · rw [if_pos ha] at h h'
      by_cases he : (tok (s.extract a s.size)).e = 0
      · rw [if_pos he] at h h'
        rw [List.getElem?_cons_succ] at h'
        cases k with
        | zero =>
          rw [List.getElem?_cons_zero] at h
          have hm := List.mem_of_getElem? h'
          have h1 := its_pos _ _ _ _ hm
          have h2 := rest_long s a ha he
          have h3 := nx_ge s (a + (tok (s.extract a s.size)).long)
          rw [← Option.some.inj h]
          show a < y.2
          omega
        | succ k =>
          rw [List.getElem?_cons_succ] at h
          exact its_inc f s _ k x y h h'
      · rw [if_neg he] at h'
        simp at h'
    · rw [if_neg ha] at h
      simp at h
theorem new0 {B : Nat} (w : World) (v : Value) (n : Int) (C : List Value) (h : w.ownsRow B 28 4 v 0 C) :
    Calls Tryd.prog 14 #[v, .int .i64 n] w fun e w' => ∃ b A c', e = .returned (.pointer (some ⟨b, 0, none⟩)) ∧ Rd w' b A 0 c' n ∧ Below w.heap.size w w' := by
  rcases h.2 with ⟨rfl, _⟩ | ⟨g, cap, cur, rfl, _, hh, _⟩
  · exact new_nil w n
  · exact new_zero w _ cap n (Array.getElem?_eq_some_iff.1 hh).1
theorem next_any (w : World) (b g o m c : Nat) (n : Int) (x : Item) (h : Rd w b (some ⟨g, o, none⟩) (m + 1) (c + 1) n) (hx : At4 w g o x) (hg : g < w.heap.size) (hm : m + 1 ≤ 1000000) (hmc : m ≤ c) :
    Calls Tryd.prog 10 #[.pointer (some ⟨b, 0, none⟩)] w fun e w' => e = .returned (.agg #[.int .i64 x.1.k, .string x.1.t, .int .i64 x.1.n, .int .i64 (x.2 : Int)]) ∧ Below b w w' ∧ ∃ A, Rd w' b A m c n ∧ (0 < m → A = some ⟨g, o + 4, none⟩) := by
  by_cases hc : 0 < c
  · exact (next_rd w b g o m c n x h hx hg hm hc).mono fun e w' ⟨h1, h2, h3⟩ => ⟨h1, h2, _, h3, fun _ => rfl⟩
  · obtain rfl : c = 0 := by omega
    obtain rfl : m = 0 := by omega
    exact (next_last w b g o n x h hx hg).mono fun e w' ⟨h1, h2, h3⟩ => ⟨h1, h2, _, h3, fun h => absurd h (by omega)⟩
theorem at4_b {W W' : World} {g o b : Nat} {x : Item} (h : At4 W g o x) (hb : Below b W W') (hg : g < b) : At4 W' g o x :=
  ⟨(hb.cell (p := ⟨g, _, none⟩) hg).trans h.1, (hb.cell (p := ⟨g, _, none⟩) hg).trans h.2.1, (hb.cell (p := ⟨g, _, none⟩) hg).trans h.2.2.1, (hb.cell (p := ⟨g, _, none⟩) hg).trans h.2.2.2⟩
set_option maxRecDepth 100000 in
set_option maxHeartbeats 4000000 in
theorem lexall_err (s t : ByteArray) (hs : s.size ≤ 140737488351232) (ht : s.extract 0 (min (s.size : Int) 600).toNat = t) (W : World) (hO : Hid (On W.heap.size W)) (p e : Int) (he : (e != 0) = true) (C : List Value) (HA : Hid (∀ w1, On w1.heap.size w1 → Calls Tryd.prog 6 #[.string t] w1 fun x w' => ∃ v, x = .returned (.tuple #[v, .int .i64 p, .int .i64 e]) ∧ w'.ownsRow w1.heap.size 28 4 v 0 C ∧ Below w1.heap.size w1 w')) :
    Calls Tryd.prog 4 #[.string s] W fun x w' => x = .returned (.bool true) ∧ Below W.heap.size W w' := by
  have HS := Lib.hid hs
  have HT := Lib.hid ht
  clear ht
  go_enter Tryd.func4, Tryd.ntmps4
  go_wp2_with (first
    | (go_at_call 8; refine (works_any _ hO.out).mono ?_; rintro x w1 ⟨rfl, hb⟩; have HB1 := Lib.hid hb; clear hb)
    | (go_at_call 9; refine (peek_nil _).mono ?_; rintro x w2 ⟨rfl, hb⟩; have HB2 := Lib.hid (HB1.out.trans (hb.mono HB1.out.size)); clear hb)
    | (go_at_call 10; (with_reducible refine (next_nil _).mono ?_); rintro x w3 ⟨rfl, hb⟩; have HB3 := Lib.hid (HB2.out.trans (hb.mono HB2.out.size)); clear hb)
    | (go_at_call 11; refine (is_nil _).mono ?_; rintro x w' ⟨rfl, rfl⟩)
    | (go_at_call 12; refine (take_nil _).mono ?_; rintro x w' ⟨rfl, rfl⟩)
    | (go_at_call 13; (with_reducible refine (done_nil _).mono ?_); rintro x w' ⟨rfl, rfl⟩)
    | (go_at_call 5; refine (short_is HT.out HS.out _).mono ?_; rintro x w' ⟨rfl, rfl⟩)
    | (go_at_call 6; refine (HA.out _ ((hO.out.on HB3.out).up HB3.out.size)).mono ?_; rintro x w4 ⟨v, rfl, hrow, hb⟩; obtain ⟨A, c, rfl⟩ := row_form hrow; have HB4 := Lib.hid (HB3.out.trans (hb.mono HB3.out.size)); clear hb hrow))
  go_ret
  exact ⟨rfl, HB4.out⟩
set_option maxRecDepth 100000 in
set_option maxHeartbeats 4000000 in
theorem lexall_zero (s t : ByteArray) (hs : s.size ≤ 140737488351232) (ht : s.extract 0 (min (s.size : Int) 600).toNat = t) (W : World) (hO : Hid (On W.heap.size W)) (p : Int) (C : List Value) (HA : Hid (∀ w1, On w1.heap.size w1 → Calls Tryd.prog 6 #[.string t] w1 fun x w' => ∃ v, x = .returned (.tuple #[v, .int .i64 p, .int .i64 0]) ∧ w'.ownsRow w1.heap.size 28 4 v 0 C ∧ Below w1.heap.size w1 w')) :
    Calls Tryd.prog 4 #[.string s] W fun x w' => x = .returned (.bool true) ∧ Below W.heap.size W w' := by
  have HS := Lib.hid hs
  have HT := Lib.hid ht
  clear ht
  go_enter Tryd.func4, Tryd.ntmps4
  go_wp2_with (first
    | (go_at_call 8; refine (works_any _ hO.out).mono ?_; rintro x w1 ⟨rfl, hb⟩; have HB1 := Lib.hid hb; clear hb)
    | (go_at_call 9; refine (peek_nil _).mono ?_; rintro x w2 ⟨rfl, hb⟩; have HB2 := Lib.hid (HB1.out.trans (hb.mono HB1.out.size)); clear hb)
    | (go_at_call 10; (with_reducible refine (next_nil _).mono ?_); rintro x w3 ⟨rfl, hb⟩; have HB3 := Lib.hid (HB2.out.trans (hb.mono HB2.out.size)); clear hb)
    | (go_at_call 11; refine (is_nil _).mono ?_; rintro x w' ⟨rfl, rfl⟩)
    | (go_at_call 12; refine (take_nil _).mono ?_; rintro x w' ⟨rfl, rfl⟩)
    | (go_at_call 13; (with_reducible refine (done_nil _).mono ?_); rintro x w' ⟨rfl, rfl⟩)
    | (go_at_call 5; refine (short_is HT.out HS.out _).mono ?_; rintro x w' ⟨rfl, rfl⟩)
    | (go_at_call 6; refine (HA.out _ ((hO.out.on HB3.out).up HB3.out.size)).mono ?_; rintro x w4 ⟨v, rfl, hrow, hb⟩; have HN := Lib.hid (new0 w4 v p C hrow); obtain ⟨A, c, rfl⟩ := row_form hrow; have HB4 := Lib.hid (HB3.out.trans (hb.mono HB3.out.size)); clear hb hrow)
    | (go_at_call 14; refine HN.out.mono ?_; rintro x w5 ⟨b, A', c', rfl, hrd, hb⟩; have HRD := Lib.hid hrd; have HB5 := Lib.hid (HB4.out.trans (hb.mono HB4.out.size)); clear hb hrd))
  go_loop [8] (fun i => i = .int .i64 0) (fun _ => 0)
  case atStart => exact rfl
  case round =>
    obtain rfl := hrel
    go_wp2_with (first
      | (go_at_call 13; refine (done_end _ _ _ _ _ HRD.out).mono ?_; rintro x w' ⟨rfl, rfl⟩)
      | (go_at_call 10; refine (next_end _ _ _ _ _ HRD.out).mono ?_; rintro x w6 ⟨rfl, hb⟩; have HB6 := Lib.hid (HB5.out.trans (hb.mono HB5.out.size)); clear hb))
    go_ret
    exact ⟨rfl, HB6.out⟩
set_option maxRecDepth 100000 in
set_option maxHeartbeats 4000000 in
theorem lexall_pos (s t : ByteArray) (hs : s.size ≤ 140737488351232) (ht : s.extract 0 (min (s.size : Int) 600).toNat = t) (W : World) (hO : Hid (On W.heap.size W)) (p : Int) (l : List Item) (L : Nat) (HL : Hid (l.length = L)) (hL : 0 < L) (hLm : L ≤ 1000000) (HPOS : Hid (∀ (k : Nat) (x : Item), l[k]? = some x → (x.2 : Int) < p)) (HINC : Hid (∀ (k : Nat) (x y : Item), l[k]? = some x → l[k + 1]? = some y → x.2 < y.2)) (HA : Hid (∀ w1, On w1.heap.size w1 → Calls Tryd.prog 6 #[.string t] w1 fun x w' => ∃ v, x = .returned (.tuple #[v, .int .i64 p, .int .i64 0]) ∧ w'.ownsRow w1.heap.size 28 4 v l.length (cellsL l) ∧ Below w1.heap.size w1 w')) :
    Calls Tryd.prog 4 #[.string s] W fun x w' => x = .returned (.bool true) ∧ Below W.heap.size W w' := by
  have HS := Lib.hid hs
  have HT := Lib.hid ht
  clear ht
  go_enter Tryd.func4, Tryd.ntmps4
  go_wp2_with (first
    | (go_at_call 8; refine (works_any _ hO.out).mono ?_; rintro x w1 ⟨rfl, hb⟩; have HB1 := Lib.hid hb; clear hb)
    | (go_at_call 9; refine (peek_nil _).mono ?_; rintro x w2 ⟨rfl, hb⟩; have HB2 := Lib.hid (HB1.out.trans (hb.mono HB1.out.size)); clear hb)
    | (go_at_call 10; (with_reducible refine (next_nil _).mono ?_); rintro x w3 ⟨rfl, hb⟩; have HB3 := Lib.hid (HB2.out.trans (hb.mono HB2.out.size)); clear hb)
    | (go_at_call 11; refine (is_nil _).mono ?_; rintro x w' ⟨rfl, rfl⟩)
    | (go_at_call 12; refine (take_nil _).mono ?_; rintro x w' ⟨rfl, rfl⟩)
    | (go_at_call 13; (with_reducible refine (done_nil _).mono ?_); rintro x w' ⟨rfl, rfl⟩)
    | (go_at_call 5; refine (short_is HT.out HS.out _).mono ?_; rintro x w' ⟨rfl, rfl⟩)
    | (go_at_call 6; refine (HA.out _ ((hO.out.on HB3.out).up HB3.out.size)).mono ?_; rintro x w4 ⟨v, rfl, hrow, hb⟩; obtain ⟨g1, c1, rfl⟩ := row_pos hrow (by rw [HL.out]; exact hL); have G1 := row_lt hrow; have H1 := Lib.hid (holdsT_of hrow); have HN := Lib.hid (new_pos w4 ⟨g1, 0, none⟩ l L c1 p HL hL hLm G1 (Lib.hid (World.ownsRow.cells hrow (g := g1) rfl))); rw [HL.out]; have HB4 := Lib.hid (HB3.out.trans (hb.mono HB3.out.size)); clear hb hrow)
    | (go_at_call 14; refine HN.out.mono ?_; rintro x w5 ⟨b, g, c', rfl, hrd, hcc, hh, hgw, hgb, hb⟩; have HRD := Lib.hid hrd; have H2 := Lib.hid hh; have H1' := Lib.hid (holdsT_below H1.out hb G1); have HB5 := Lib.hid (HB4.out.trans (hb.mono HB4.out.size)); have hg1b : g1 < b := (by omega); have hWb : W.heap.size ≤ b := (by have := HB4.out.size; omega); clear hb hrd hh))
  go_loopw [8] (fun i wr => ∃ (k : Nat) (A : Option Addr), i = .int .i64 (k : Int) ∧ k ≤ L ∧ Hid (Rd wr b A (L - k) (c' - k) p) ∧ Hid (k < L → A = some ⟨g, k * 4, none⟩) ∧ Hid (Below b w5 wr)) (fun i _ => L - (intOf i).toNat)
  case atStart => exact ⟨0, _, rfl, by omega, HRD, Lib.hid (fun _ => rfl), Lib.hid (Below.refl _ _)⟩
  case round =>
    obtain ⟨k, A, rfl, hk, HD, HAD, HBW⟩ := hrel
    by_cases hlt : k < L
    · obtain ⟨x, hx⟩ : ∃ x, l[k]? = some x := ⟨_, List.getElem?_eq_getElem (by rw [HL.out]; exact hlt)⟩
      obtain rfl := HAD.out hlt
      obtain ⟨m, hm⟩ : ∃ m, L - k = m + 1 := ⟨L - k - 1, by omega⟩
      obtain ⟨c, hc⟩ : ∃ c, c' - k = c + 1 := ⟨c' - k - 1, by omega⟩
      have hrd := HD.out
      rw [hm, hc] at hrd
      have hbl := Blk.lt HRD.out
      have hws := HBW.out.size
      have HNX := Lib.hid (next_any wr b g (k * 4) m c p x hrd (at4_b (H2.out k x hx) HBW.out hgb) (by omega) (by omega) (by omega))
      have HBX := Lib.hid (fun (w6 : World) (T : Obj) (hb : Below b wr w6) => (HBW.out.trans hb).alloc (by have := hb.size; omega) T)
      have hpos := HPOS.out k x hx
      have hd1 : decide ((x.2 : Int) < 0) = false := decide_eq_false (by omega)
      have hd2 : decide (p ≤ (x.2 : Int)) = false := decide_eq_false (by omega)
      have HX := Lib.hid hx
      have HM := Lib.hid hm
      have HCC := Lib.hid hc
      clear hrd hx hm hc hpos
      by_cases hk0 : k = 0
      · have hd3 : decide ((0 : Int) < (k : Int)) = false := decide_eq_false (by omega)
        have hd3' : decide (0 < k) = false := decide_eq_false (by omega)
        clear hk0
        go_wp2_with (go_at_call 10; refine HNX.out.mono ?_; rintro z w6 ⟨rfl, hb, A', hrd', hA'⟩; obtain ⟨a0, a1, a2, a3⟩ := at4_b (H1'.out k x HX.out) (HBX.out w6 (.cells #[.int .i64 x.1.k, .string x.1.t, .int .i64 x.1.n, .int .i64 (x.2 : Int)] 28) hb) hg1b; have HBN := Lib.hid (HBX.out w6 (.cells #[.int .i64 x.1.k, .string x.1.t, .int .i64 x.1.n, .int .i64 (x.2 : Int)] 28) hb); have HR' := Lib.hid hrd'; have HA' := Lib.hid hA'; clear hb hrd' hA')
        go_quiet (fail)
        go_wp2
        go_roundw
        case rel =>
          refine ⟨k + 1, A', by go_num, by omega, ?_, ?_, Lib.hid (below_drewN HBN.out nq)⟩
          · have e1 : L - (k + 1) = m := by have := HM.out; omega
            have e2 : c' - (k + 1) = c := by have := HCC.out; omega
            rw [e1, e2]; exact Lib.hid ((Below.heap_alloc w6 _ b (Blk.lt HR'.out)).trans HR'.out)
          · exact Lib.hid fun h => by rw [HA'.out (by have := HM.out; omega), show (k + 1) * 4 = k * 4 + 4 by omega]
        case measure => simp [intOf]; omega
      · obtain ⟨y, hy⟩ : ∃ y, l[k - 1]? = some y := ⟨_, List.getElem?_eq_getElem (by rw [HL.out]; omega)⟩
        have hyx : y.2 < x.2 := HINC.out (k - 1) y x hy (by rw [show k - 1 + 1 = k by omega]; exact HX.out)
        have hd3 : decide ((0 : Int) < (k : Int)) = true := decide_eq_true (by omega)
        have hd3' : decide (0 < k) = true := decide_eq_true (by omega)
        have hd4 : decide ((x.2 : Int) ≤ (y.2 : Int)) = false := decide_eq_false (by omega)
        have hd4' : decide (x.2 ≤ y.2) = false := decide_eq_false (by omega)
        have hk1 : (1 : Int) ≤ (k : Int) := by omega
        have hk1' : (0 : Int) ≤ (k : Int) - 1 := by omega
        have hk2 : (k : Int) - 1 < (L : Int) := by omega
        have hk3 : ((k : Int) - 1).toNat = k - 1 := by omega
        have HY := Lib.hid hy
        clear hk0 hy hyx
        go_wp2_with (go_at_call 10; refine HNX.out.mono ?_; rintro z w6 ⟨rfl, hb, A', hrd', hA'⟩; obtain ⟨a0, a1, a2, a3⟩ := at4_b (H1'.out k x HX.out) (HBX.out w6 (.cells #[.int .i64 x.1.k, .string x.1.t, .int .i64 x.1.n, .int .i64 (x.2 : Int)] 28) hb) hg1b; obtain ⟨_, _, _, p3⟩ := at4_b (H1'.out (k - 1) y HY.out) (HBX.out w6 (.cells #[.int .i64 x.1.k, .string x.1.t, .int .i64 x.1.n, .int .i64 (x.2 : Int)] 28) hb) hg1b; have HBN := Lib.hid (HBX.out w6 (.cells #[.int .i64 x.1.k, .string x.1.t, .int .i64 x.1.n, .int .i64 (x.2 : Int)] 28) hb); have HR' := Lib.hid hrd'; have HA' := Lib.hid hA'; clear hb hrd' hA')
        go_quiet (fail)
        go_wp2
        go_roundw
        case rel =>
          refine ⟨k + 1, A', by go_num, by omega, ?_, ?_, Lib.hid (below_drewN HBN.out nq)⟩
          · have e1 : L - (k + 1) = m := by have := HM.out; omega
            have e2 : c' - (k + 1) = c := by have := HCC.out; omega
            rw [e1, e2]; exact Lib.hid ((Below.heap_alloc w6 _ b (Blk.lt HR'.out)).trans HR'.out)
          · exact Lib.hid fun h => by rw [HA'.out (by have := HM.out; omega), show (k + 1) * 4 = k * 4 + 4 by omega]
        case measure => simp [intOf]; omega
    · obtain rfl : k = L := by omega
      have hrd := HD.out
      rw [Nat.sub_self] at hrd
      have HRE := Lib.hid hrd
      clear hrd
      go_wp2_with (first
        | (go_at_call 13; refine (done_end _ _ _ _ _ HRE.out).mono ?_; rintro x w' ⟨rfl, rfl⟩)
        | (go_at_call 10; refine (next_end _ _ _ _ _ HRE.out).mono ?_; rintro x w6 ⟨rfl, hb⟩; have HB6 := Lib.hid (HB5.out.trans ((HBW.out.mono hWb).trans (hb.mono (Nat.le_trans HB5.out.size HBW.out.size)))); clear hb))
      go_ret
      exact ⟨rfl, HB6.out⟩
theorem err_cases (t : ByteArray) : (err t ≠ 0 ∧ toks t = []) ∨ (err t = 0 ∧ toks t = items t ∧ place t = t.size) := by
  cases h : wrong t with
  | none => right; rw [err, toks, place, h]; exact ⟨rfl, rfl, rfl⟩
  | some x =>
    left
    have := List.find?_some h
    rw [err, toks, h]
    exact ⟨by simpa [isBad] using this, rfl⟩
theorem lexall_any (s : ByteArray) (hs : s.size ≤ 140737488351232) (W : World) (hO : On W.heap.size W) :
    Calls Tryd.prog 4 #[.string s] W fun x w' => x = .returned (.bool true) ∧ Below W.heap.size W w' := by
  obtain ⟨t, ht⟩ : ∃ t, s.extract 0 (min (s.size : Int) 600).toNat = t := ⟨_, rfl⟩
  have hts : t.size ≤ 600 := by rw [← ht, size_extract]; omega
  have hA : ∀ w1, On w1.heap.size w1 → Calls Tryd.prog 6 #[.string t] w1 (AllPost t w1.heap.size w1) := fun w1 h => all_any t (by omega) w1 h
  unfold AllPost at hA
  rcases err_cases t with ⟨he, h0⟩ | ⟨he, hi, hp⟩
  · rw [h0] at hA
    exact lexall_err s t hs ht W (Lib.hid hO) _ _ (by simpa using he) _ (Lib.hid hA)
  · rw [he] at hA
    have hl := toks_len t
    by_cases hL : 0 < (toks t).length
    · refine lexall_pos s t hs ht W (Lib.hid hO) _ (toks t) _ (Lib.hid rfl) hL (by omega) (Lib.hid fun k x h => ?_) (Lib.hid fun k x y h h' => ?_) (Lib.hid hA)
      · rw [hi] at h
        have := its_pos _ _ _ _ (List.mem_of_getElem? h)
        rw [hp]; omega
      · rw [hi] at h h'
        exact its_inc _ _ _ _ _ _ h h'
    · have h0 : (toks t).length = 0 := by omega
      rw [h0] at hA
      exact lexall_zero s t hs ht W (Lib.hid hO) _ _ (Lib.hid hA)
end Go.Proofs.YtekbfgjlkmldgaaDoor.L
