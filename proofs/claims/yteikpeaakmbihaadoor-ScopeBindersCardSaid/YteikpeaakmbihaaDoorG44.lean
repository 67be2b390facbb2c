/- Joined by program: STexts. -/
import Derived.Test.YteikpeaakmbihaaDoorG43
import Derived.Deep.RegionHeld3
/- Two rows that hold the same texts; two rows of binders. -/
namespace Go.Proofs.YteikpeaakmbihaaDoor.T
open Go.RowKit Go.Shelf
theorem str_cell {W : World} {B n c j : Nat} {A : Option Addr} {X : List ByteArray} {s : ByteArray} (h : W.ownsRow B 9 1 (.slice A n c) n (X.map Value.string)) (hj : X[j]? = some s) : ∃ g, A = some ⟨g, 0, none⟩ ∧ W.cell? ⟨g, j, none⟩ = some (.string s) := by
  rcases h.2 with ⟨h1, h0⟩ | ⟨g, cap, cur, h1, _⟩
  · exfalso
    have := h.1
    rw [List.length_map, h0] at this
    have := (List.getElem?_eq_some_iff.1 hj).1
    omega
  · cases h1
    refine ⟨g, rfl, ?_⟩
    have := World.ownsRow.cells h (g := g) rfl j (.string s) (by rw [List.getElem?_map, hj]; rfl)
    rwa [Addr.add_lit, Nat.zero_add] at this
set_option maxRecDepth 100000 in
set_option maxHeartbeats 4000000 in
theorem stexts_any (X : List ByteArray) (v u : Value) (B B' n : Nat) (w : World) (hn : n ≤ 1000000) (HL : Hid (X.length = n)) (HV : Hid (w.ownsRow B 9 1 v n (X.map Value.string))) (HU : Hid (w.ownsRow B' 9 1 u n (X.map Value.string))) :
    Calls Tryd.prog 38 #[v, u] w fun e w' => e = .returned (.bool true) ∧ Below w.heap.size w w' := by
  obtain ⟨A, c, rfl, _⟩ := row_slice HV.out
  obtain ⟨A', c', rfl, _⟩ := row_slice HU.out
  go_enter Tryd.func38, Tryd.ntmps38
  go_wp2
  go_loopw [5] (fun i wr => ∃ q : Nat, i = .int .i64 (q : Int) ∧ q ≤ n ∧ Hid (Below w.heap.size w wr)) (fun i _ => n - (intOf i).toNat)
  case atStart => exact ⟨0, rfl, Nat.zero_le _, Lib.hid (Below.refl _ _)⟩
  case round =>
    obtain ⟨q, rfl, hq, HB⟩ := hrel
    by_cases hlt : q < n
    · obtain ⟨s, hs⟩ : ∃ s, X[q]? = some s := ⟨_, List.getElem?_eq_getElem (by rw [HL.out]; exact hlt)⟩
      obtain ⟨g, rfl, h1⟩ := str_cell (World.ownsRow.kept HV.out (grown_of HB.out) (ne_none _)) hs
      obtain ⟨g', rfl, h2⟩ := str_cell (World.ownsRow.kept HU.out (grown_of HB.out) (ne_none _)) hs
      have e1 : (s.toList != s.toList) = false := by simp
      clear hs
      go_upto_region 6 with fail
      go_region_held3 (fun W => W.cell? ⟨g, q, none⟩ = some (.string s) ∧ W.cell? ⟨g', q, none⟩ = some (.string s)) (first | exact ⟨h1, h2⟩) (fail)
      all_goals
        go_wp2_with fail
        go_roundw
        case rel => exact ⟨q + 1, by go_num, by omega, Lib.hid HB.out.drew⟩
        case measure => simp [intOf]; omega
    · obtain rfl : q = n := by omega
      go_wp2
      go_ret
      exact ⟨rfl, HB.out⟩
/-- slices.Equal of two rows of binders. -/
def BeqPost (X Y : List (Int × Int)) (w : World) (e : Ending) (w' : World) : Prop := e = .returned (.bool (X == Y)) ∧ Below w.heap.size w w'
theorem beq_no {X Y : List (Int × Int)} {q : Nat} {p r : Int × Int} (hp : X[q]? = some p) (hr : Y[q]? = some r) (h : p ≠ r) : (X == Y) = false := by
  rw [beq_eq_false_iff_ne]
  intro e
  rw [e, hr] at hp
  exact h (Option.some.inj hp).symm
/-- A row of binders, or none. -/
def BV (W : World) (A : Option Addr) (X : List (Int × Int)) : Prop := ∀ (q : Nat) (p : Int × Int), X[q]? = some p → ∃ g, A = some ⟨g, 0, none⟩ ∧ W.cell? ⟨g, q * 2, none⟩ = some (.int .i64 p.1) ∧ W.cell? ⟨g, q * 2 + 1, none⟩ = some (.int .i64 p.2)
set_option maxRecDepth 100000 in
set_option maxHeartbeats 8000000 in
theorem seq_any (X Y : List (Int × Int)) (A A' : Option Addr) (n m c c' : Nat) (w : World) (hn : n ≤ 1000000) (hm : m ≤ 1000000) (HX : Hid (X.length = n)) (HY : Hid (Y.length = m)) (HV : Hid (BV w A X)) (HU : Hid (BV w A' Y)) :
    Calls Tryd.prog 65 #[.slice A n c, .slice A' m c'] w (BeqPost X Y w) := by
  by_cases hnm : n = m
  · subst hnm
    go_enter Tryd.func65, Tryd.ntmps65
    go_wp2
    go_loopw [13] (fun i wr => ∃ q : Nat, i = .int .i64 (q : Int) ∧ q ≤ n ∧ Hid (Below w.heap.size w wr) ∧ Hid (∀ a, wr.cell? a = w.cell? a) ∧ Hid (X.take q = Y.take q)) (fun i _ => n - (intOf i).toNat)
    case atStart => exact ⟨0, rfl, Nat.zero_le _, Lib.hid (Below.refl _ _), Lib.hid fun _ => rfl, Lib.hid rfl⟩
    case round =>
      obtain ⟨q, rfl, hq, HB, HC, HT⟩ := hrel
      by_cases hlt : q < n
      · obtain ⟨⟨P1, P2⟩, hp⟩ : ∃ s, X[q]? = some s := ⟨_, List.getElem?_eq_getElem (by rw [HX.out]; exact hlt)⟩
        obtain ⟨⟨R1, R2⟩, hr⟩ : ∃ s, Y[q]? = some s := ⟨_, List.getElem?_eq_getElem (by rw [HY.out]; exact hlt)⟩
        obtain ⟨g, rfl, h1, h2⟩ := HV.out q _ hp
        obtain ⟨g', rfl, h3, h4⟩ := HU.out q _ hr
        rw [← HC.out] at h1 h2 h3 h4
        simp only at h1 h2 h3 h4
        have HNE : Hid (¬ (P1 = R1 ∧ P2 = R2) → (X == Y) = false) := Lib.hid fun h => beq_no hp hr fun e => h ⟨congrArg Prod.fst e, congrArg Prod.snd e⟩
        have HEQ : Hid (P1 = R1 → P2 = R2 → X.take (q + 1) = Y.take (q + 1)) := Lib.hid fun e1 e2 => by rw [take_snoc _ _ _ hp, take_snoc _ _ _ hr, HT.out, e1, e2]
        clear hp hr
        have HC2 : Hid (∀ a, wr.drew.cell? a = w.cell? a) := Lib.hid fun a => HC.out a
        cases t1 : (P1 == R1) with
        | true =>
          obtain rfl : P1 = R1 := by simpa using t1
          cases t2 : (P2 == R2) with
          | true =>
            obtain rfl : P2 = R2 := by simpa using t2
            have HT2 := Lib.hid (HEQ.out rfl rfl)
            go_upto_region 6 with fail
            go_region_held3 (fun W => W.cell? ⟨g, q * 2, none⟩ = some (.int .i64 P1) ∧ W.cell? ⟨g, q * 2 + 1, none⟩ = some (.int .i64 P2) ∧ W.cell? ⟨g', q * 2, none⟩ = some (.int .i64 P1) ∧ W.cell? ⟨g', q * 2 + 1, none⟩ = some (.int .i64 P2)) (first | exact ⟨h1, h2, h3, h4⟩) (fail)
            all_goals
              go_wp2_with fail
              go_roundw
              case rel => exact ⟨q + 1, by go_num, by omega, Lib.hid HB.out.drew, HC2, HT2⟩
              case measure => simp [intOf]; omega
          | false =>
            have HF := Lib.hid (HNE.out fun h => by have := h.2; subst this; simp at t2)
            go_upto_region 6 with fail
            go_region_held3 (fun W => W.cell? ⟨g, q * 2, none⟩ = some (.int .i64 P1) ∧ W.cell? ⟨g, q * 2 + 1, none⟩ = some (.int .i64 P2) ∧ W.cell? ⟨g', q * 2, none⟩ = some (.int .i64 P1) ∧ W.cell? ⟨g', q * 2 + 1, none⟩ = some (.int .i64 R2)) (first | exact ⟨h1, h2, h3, h4⟩) (fail)
            all_goals
              go_wp2_with fail
              go_ret
              exact ⟨by rw [HF.out]; rfl, HB.out.drew⟩
        | false =>
          have HF := Lib.hid (HNE.out fun h => by have := h.1; subst this; simp at t1)
          go_upto_region 6 with fail
          go_region_held3 (fun W => W.cell? ⟨g, q * 2, none⟩ = some (.int .i64 P1) ∧ W.cell? ⟨g, q * 2 + 1, none⟩ = some (.int .i64 P2) ∧ W.cell? ⟨g', q * 2, none⟩ = some (.int .i64 R1) ∧ W.cell? ⟨g', q * 2 + 1, none⟩ = some (.int .i64 R2)) (first | exact ⟨h1, h2, h3, h4⟩) (fail)
          all_goals
            go_wp2_with fail
            go_ret
            exact ⟨by rw [HF.out]; rfl, HB.out.drew⟩
      · obtain rfl : q = n := by omega
        have HE : Hid ((X == Y) = true) := Lib.hid (by
          have h := HT.out
          rw [List.take_of_length_le (by rw [HX.out]; exact Nat.le_refl _), List.take_of_length_le (by rw [HY.out]; exact Nat.le_refl _)] at h
          rw [h]; simp)
        go_wp2
        go_ret
        exact ⟨by rw [HE.out]; rfl, HB.out⟩
  · have HF : Hid ((X == Y) = false) := Lib.hid (by
      rw [beq_eq_false_iff_ne]
      intro e
      have h1 := HX.out
      have h2 := HY.out
      rw [e] at h1
      omega)
    have b1 : (n != m) = true := by simpa using hnm
    have b2 : ((n : Int) != (m : Int)) = true := by simp; omega
    go_enter Tryd.func65, Tryd.ntmps65
    go_wp2
    go_ret
    exact ⟨by rw [HF.out]; rfl, Below.refl _ _⟩
end Go.Proofs.YteikpeaakmbihaaDoor.T
