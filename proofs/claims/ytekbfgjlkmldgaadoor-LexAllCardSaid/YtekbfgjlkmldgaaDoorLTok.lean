/- The walk of the law LexTokens. -/
import Derived.Test.YtekbfgjlkmldgaaDoorLWorks
import Derived.Test.YtekbfgjlkmldgaaDoorLAllR
namespace Go.Proofs.YtekbfgjlkmldgaaDoor.L
open Go.RowKit
theorem short_is {s t : ByteArray} (h : s.extract 0 (min (s.size : Int) 600).toNat = t) (hs : s.size ≤ 140737488351232) (w : World) :
    Calls Tryd.prog 5 #[.string s] w fun e w' => e = .returned (.string t) ∧ w = w' := by
  go_enter Tryd.func5, Tryd.ntmps5
  go_wp2
  go_ret
  exact ⟨rfl, rfl⟩
theorem row_form {W : World} {base : Nat} {e : TypeId} {size : Nat} {v : Value} {k : Nat} {xs : List Value} (h : W.ownsRow base e size v k xs) : ∃ A cap, v = .slice A k cap := by
  rcases h.2 with ⟨rfl, h0⟩ | ⟨g, cap, _, rfl, _⟩
  · exact ⟨none, 0, by rw [h0]⟩
  · exact ⟨_, _, rfl⟩
theorem row_pos {W : World} {base : Nat} {e : TypeId} {size : Nat} {v : Value} {k : Nat} {xs : List Value} (h : W.ownsRow base e size v k xs) (hk : 0 < k) : ∃ g cap, v = .slice (some ⟨g, 0, none⟩) k cap := by
  obtain ⟨j, rfl⟩ : ∃ j, k = j + 1 := ⟨k - 1, by omega⟩
  exact ownsRow_succ h
/-- The slice of block g holds these tokens. -/
def HoldsT (w : World) (g : Nat) (l : List Item) : Prop := ∀ j x, l[j]? = some x → w.cell? ⟨g, j * 4, none⟩ = some (.int .i64 x.1.k) ∧ w.cell? ⟨g, j * 4 + 1, none⟩ = some (.string x.1.t) ∧ w.cell? ⟨g, j * 4 + 2, none⟩ = some (.int .i64 x.1.n) ∧ w.cell? ⟨g, j * 4 + 3, none⟩ = some (.int .i64 (x.2 : Int))
theorem holdsT_of {W : World} {base : Nat} {l : List Item} {g cap : Nat} (h : W.ownsRow base 28 4 (.slice (some ⟨g, 0, none⟩) l.length cap) l.length (cellsL l)) : HoldsT W g l := fun j x hx => by
  obtain ⟨c0, c1, c2, c3⟩ := cells_at l j x hx
  have a0 := World.ownsRow.cells h (g := g) rfl _ _ c0
  have a1 := World.ownsRow.cells h (g := g) rfl _ _ c1
  have a2 := World.ownsRow.cells h (g := g) rfl _ _ c2
  have a3 := World.ownsRow.cells h (g := g) rfl _ _ c3
  rw [Addr.add_lit, Nat.zero_add] at a0 a1 a2 a3
  exact ⟨a0, a1, a2, a3⟩
theorem holdsT_below {W W' : World} {g : Nat} {l : List Item} (h : HoldsT W g l) (hb : Below W.heap.size W W') (hg : g < W.heap.size) : HoldsT W' g l := fun j x hx => by
  obtain ⟨a0, a1, a2, a3⟩ := h j x hx
  exact ⟨(hb.cell (p := ⟨g, _, none⟩) hg).trans a0, (hb.cell (p := ⟨g, _, none⟩) hg).trans a1, (hb.cell (p := ⟨g, _, none⟩) hg).trans a2, (hb.cell (p := ⟨g, _, none⟩) hg).trans a3⟩
theorem row_lt {W : World} {base : Nat} {e : TypeId} {size k cap g : Nat} {xs : List Value} (h : W.ownsRow base e size (.slice (some ⟨g, 0, none⟩) k cap) k xs) : g < W.heap.size := by
  rcases h.2 with ⟨h, _⟩ | ⟨g', cap', cur, h, _, hh, _⟩
  · cases h
  · cases h; exact (Array.getElem?_eq_some_iff.1 hh).1
set_option maxRecDepth 100000 in
set_option maxHeartbeats 2000000 in
theorem tokens_pos (s t : ByteArray) (hs : s.size ≤ 140737488351232) (ht : s.extract 0 (min (s.size : Int) 600).toNat = t) (l : List Item) (p e : Int) (L : Nat) (HL : Hid (l.length = L)) (hL : 0 < L) (hLm : L ≤ 1000000) (W : World) (hO : Hid (On W.heap.size W))
    (HA : Hid (∀ w1, On w1.heap.size w1 → Calls Tryd.prog 6 #[.string t] w1 fun x w' => ∃ v, x = .returned (.tuple #[v, .int .i64 p, .int .i64 e]) ∧ w'.ownsRow w1.heap.size 28 4 v l.length (cellsL l) ∧ Below w1.heap.size w1 w'))
    (HR : Hid (∀ w1, Calls Tryd.prog 7 #[.string t] w1 fun x w' => ∃ v, x = .returned (.tuple #[v, .int .i64 p, .int .i64 e]) ∧ w'.ownsRow w1.heap.size 28 4 v l.length (cellsL l) ∧ Below w1.heap.size w1 w')) :
    Calls Tryd.prog 3 #[.string s] W fun x w' => x = .returned (.bool true) ∧ Below W.heap.size W w' := by
  have HS := Lib.hid hs
  have HT := Lib.hid ht
  clear ht
  go_enter Tryd.func3, Tryd.ntmps3
  go_wp2_with (first
    | (go_at_call 5; refine (short_is HT.out HS.out _).mono ?_; rintro x w' ⟨rfl, rfl⟩)
    | (go_at_call 6; refine (HA.out _ hO.out).mono ?_; rintro x w1 ⟨v, rfl, hrow, hb⟩; obtain ⟨g, c, rfl⟩ := row_pos hrow (by rw [HL.out]; exact hL); have H1 := Lib.hid (holdsT_of hrow); have G1 := row_lt hrow; rw [HL.out]; have HB1 := Lib.hid hb; clear hb hrow)
    | (go_at_call 7; refine (HR.out _).mono ?_; rintro x w2 ⟨v, rfl, hrow, hb⟩; obtain ⟨g2, c2, rfl⟩ := row_pos hrow (by rw [HL.out]; exact hL); have H2 := Lib.hid (holdsT_of hrow); have H1' := Lib.hid (holdsT_below H1.out hb G1); rw [HL.out]; have HB2 := Lib.hid (HB1.out.trans (hb.mono HB1.out.size)); clear hb hrow))
  go_loopw [9] (fun i wr => ∃ k m : Nat, k ≤ L ∧ i = .int .i64 (k : Int) ∧ wr = w2.drewN m) (fun i _ => L - (intOf i).toNat)
  case atStart => exact ⟨0, 0, by omega, rfl, rfl⟩
  case round =>
    obtain ⟨k, m, hk, rfl, rfl⟩ := hrel
    by_cases hlt : k < L
    · obtain ⟨x, hx⟩ : ∃ x, l[k]? = some x := ⟨_, List.getElem?_eq_getElem (by rw [HL.out]; exact hlt)⟩
      obtain ⟨a0, a1, a2, a3⟩ := H1'.out k x hx
      obtain ⟨b0, b1, b2, b3⟩ := H2.out k x hx
      clear hx
      go_wp2
      go_quiet (fail)
      go_wp2
      go_roundw
      case rel => exact ⟨k + 1, m + nq, by omega, by go_num, rfl⟩
      case measure => simp [intOf]; omega
    · obtain rfl : k = L := by omega
      go_wp2_with (go_at_call 8; refine (works_any _ ((hO.out.on (below_drewN HB2.out m)).up (Nat.le_trans HB2.out.size (Nat.le_refl _)))).mono ?_; rintro x w' ⟨rfl, hb⟩)
      go_ret
      exact ⟨rfl, (below_drewN HB2.out m).trans (hb.mono HB2.out.size)⟩
set_option maxRecDepth 100000 in
set_option maxHeartbeats 2000000 in
theorem tokens_zero (s t : ByteArray) (hs : s.size ≤ 140737488351232) (ht : s.extract 0 (min (s.size : Int) 600).toNat = t) (p e : Int) (C : List Value) (W : World) (hO : Hid (On W.heap.size W))
    (HA : Hid (∀ w1, On w1.heap.size w1 → Calls Tryd.prog 6 #[.string t] w1 fun x w' => ∃ v, x = .returned (.tuple #[v, .int .i64 p, .int .i64 e]) ∧ w'.ownsRow w1.heap.size 28 4 v 0 C ∧ Below w1.heap.size w1 w'))
    (HR : Hid (∀ w1, Calls Tryd.prog 7 #[.string t] w1 fun x w' => ∃ v, x = .returned (.tuple #[v, .int .i64 p, .int .i64 e]) ∧ w'.ownsRow w1.heap.size 28 4 v 0 C ∧ Below w1.heap.size w1 w')) :
    Calls Tryd.prog 3 #[.string s] W fun x w' => x = .returned (.bool true) ∧ Below W.heap.size W w' := by
  have HS := Lib.hid hs
  have HT := Lib.hid ht
  clear ht
  go_enter Tryd.func3, Tryd.ntmps3
  go_wp2_with (first
    | (go_at_call 5; refine (short_is HT.out HS.out _).mono ?_; rintro x w' ⟨rfl, rfl⟩)
    | (go_at_call 6; refine (HA.out _ hO.out).mono ?_; rintro x w1 ⟨v, rfl, hrow, hb⟩; obtain ⟨A1, c1, rfl⟩ := row_form hrow; have HB1 := Lib.hid hb; clear hb hrow)
    | (go_at_call 7; refine (HR.out _).mono ?_; rintro x w2 ⟨v, rfl, hrow, hb⟩; obtain ⟨A2, c2, rfl⟩ := row_form hrow; have HB2 := Lib.hid (HB1.out.trans (hb.mono HB1.out.size)); clear hb hrow))
  go_loop [9] (fun i => i = .int .i64 0) (fun _ => 0)
  case atStart => exact rfl
  case round =>
    obtain rfl := hrel
    go_wp2_with (go_at_call 8; refine (works_any _ ((hO.out.on HB2.out).up HB2.out.size)).mono ?_; rintro x w' ⟨rfl, hb⟩)
    go_ret
    exact ⟨rfl, HB2.out.trans (hb.mono HB2.out.size)⟩
theorem tokens_any (s : ByteArray) (hs : s.size ≤ 140737488351232) (W : World) (hO : On W.heap.size W) :
    Calls Tryd.prog 3 #[.string s] W fun x w' => x = .returned (.bool true) ∧ Below W.heap.size W w' := by
  obtain ⟨t, ht⟩ : ∃ t, s.extract 0 (min (s.size : Int) 600).toNat = t := ⟨_, rfl⟩
  have hts : t.size ≤ 600 := by rw [← ht, size_extract]; omega
  have hA : ∀ w1, On w1.heap.size w1 → Calls Tryd.prog 6 #[.string t] w1 (AllPost t w1.heap.size w1) := fun w1 h => all_any t (by omega) w1 h
  have hR : ∀ w1 : World, Calls Tryd.prog 7 #[.string t] w1 (AllPost t w1.heap.size w1) := fun w1 => rall_any t (by omega) w1 (Nat.le_refl _)
  unfold AllPost at hA hR
  have hl := toks_len t
  by_cases hL : 0 < (toks t).length
  · exact tokens_pos s t hs ht _ _ _ _ (Lib.hid rfl) hL (by omega) W (Lib.hid hO) (Lib.hid hA) (Lib.hid hR)
  · have h0 : (toks t).length = 0 := by omega
    rw [h0] at hA hR
    exact tokens_zero s t hs ht _ _ _ W (Lib.hid hO) (Lib.hid hA) (Lib.hid hR)
end Go.Proofs.YtekbfgjlkmldgaaDoor.L
