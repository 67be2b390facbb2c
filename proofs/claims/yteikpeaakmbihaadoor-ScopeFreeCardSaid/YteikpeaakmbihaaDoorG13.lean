/- Joined by program: MMaps. -/
import Derived.Test.YteikpeaakmbihaaDoorG11
import Derived.Maps.OwnSet
import Derived.StringKeys
import Derived.Deep.Draws
/- Sets of texts: setOf and has, Twice, the program's and the document's: each tells what it should; what lay below is as it was. -/
namespace Go.Proofs.YteikpeaakmbihaaDoor.M
open Go.RowKit Go.Maps Go.WideMaps
def keyOfT (s : ByteArray) : Lit := .string s.data.toList
/-- The set of some texts. -/
def SS (ss : List ByteArray) : DataW Unit := setOf (.agg []) (ss.map keyOfT)
theorem SS_zero (ss : List ByteArray) : SS (ss.take 0) = .map [] := by simp [SS, setOf]
theorem SS_succ (ss : List ByteArray) (k : Nat) (hk : k < ss.length) : SS (ss.take (k + 1)) = (SS (ss.take k)).put (keyOfT (ss.getD k ⟨#[]⟩)) (.agg []) := by
  unfold SS
  rw [List.take_succ_eq_append_getElem hk, List.map_append, List.map_singleton, setOf_snoc, List.getD_eq_getElem?_getD, List.getElem?_eq_getElem hk]; rfl
theorem key_lit (ss : List ByteArray) : ∀ x ∈ ss.map keyOfT, WideAt.IsKeyLit x := fun x hx => by obtain ⟨s, _, rfl⟩ := List.mem_map.1 hx; trivial
theorem has_SS (s : ByteArray) (ss : List ByteArray) : Maps.has (SS ss) (keyOfT s) = inB s ss := by
  unfold SS
  rw [has_setOf _ _ _ (key_lit ss), List.any_map, inB]
  congr 1
  funext t
  show (t.data.toList == s.data.toList) = _
  rw [ByteArray.toList_eq, ByteArray.toList_eq]
theorem size_succ (ss : List ByteArray) (k : Nat) (hk : k < ss.length) : Maps.size (SS (ss.take (k + 1))) = if inB (ss.getD k ⟨#[]⟩) (ss.take k) then Maps.size (SS (ss.take k)) else Maps.size (SS (ss.take k)) + 1 := by
  have e := size_put (k := keyOfT (ss.getD k ⟨#[]⟩)) (show Tidy (SS (ss.take k)) from tidy_setOf _ _ (key_lit _)) (.agg [])
  rw [SS_succ ss k hk, e, has_SS]
theorem size_zero (ss : List ByteArray) : Maps.size (SS (ss.take 0)) = 0 := by rw [SS_zero]; rfl
theorem size_up (ss : List ByteArray) (k : Nat) : ∀ m, k + m ≤ ss.length → Maps.size (SS (ss.take (k + m))) ≤ Maps.size (SS (ss.take k)) + m
  | 0, _ => Nat.le_refl _
  | m + 1, h => by
    have ih := size_up ss k m (by omega)
    have e := size_succ ss (k + m) (by omega)
    rw [← Nat.add_assoc, e]
    split <;> omega
/-- Do two stand there that are the same? -/
def tw (ss : List ByteArray) : Bool := decide (Maps.size (SS ss) < ss.length)
theorem tw_yes {ss : List ByteArray} {k : Nat} (hk : k < ss.length) (hs : Maps.size (SS (ss.take k)) = k) (h : inB (ss.getD k ⟨#[]⟩) (ss.take k) = true) : tw ss = true := by
  have e := size_succ ss k hk
  rw [h, if_pos rfl] at e
  have u := size_up ss (k + 1) (ss.length - (k + 1)) (by omega)
  rw [show k + 1 + (ss.length - (k + 1)) = ss.length by omega, List.take_length] at u
  simp only [tw, decide_eq_true_eq]; omega
theorem tw_no {ss : List ByteArray} (hs : Maps.size (SS (ss.take ss.length)) = ss.length) : tw ss = false := by
  rw [List.take_length] at hs
  simp only [tw, decide_eq_false_iff_not]; omega
theorem law9 : Keyed Tryd.prog 9 := string_keyed Tryd.underlying9
theorem zero41 (w : World) : (zeroValue 137).run Tryd.prog w = .ok (.agg #[]) w := by kernel_rfl
theorem key_ok {s : ByteArray} (h : s.size ≤ maxLen) : keyOf Tryd.prog 9 (.string s) = some (keyOfT s) := keyOf_string_mk Tryd.underlying9 h
/-- No text is longer than can be. -/
def Short (ss : List ByteArray) : Prop := ∀ s ∈ ss, s.size ≤ maxLen
theorem Short.at {ss : List ByteArray} (h : Short ss) (k : Nat) : (ss.getD k ⟨#[]⟩).size ≤ maxLen := by
  by_cases hk : k < ss.length
  · rw [List.getD_eq_getElem?_getD, List.getElem?_eq_getElem hk]; exact h _ (List.getElem_mem hk)
  · rw [List.getD_eq_getElem?_getD, List.getElem?_eq_none (by omega)]; exact Nat.zero_le _
theorem owns_on {w w' : World} {b n : Nat} {D : DataW Unit} (h : w.ownsMap Tryd.prog 9 unitElem b n D) (hb : Below w.heap.size w w') : w'.ownsMap Tryd.prog 9 unitElem b n D := by
  have hl := h.lt
  obtain ⟨es, clock, e, r⟩ := h
  exact ⟨es, clock, by rw [hb.block b hl]; exact e, r⟩
theorem Holds.on {w w' : World} {g : Nat} {ss : List ByteArray} (h : Holds w g ss) (hg : g < w.heap.size) (hb : Below w.heap.size w w') : Holds w' g ss := fun j hj => (hb.cell (p := ⟨g, j, none⟩) hg).trans (h j hj)
set_option maxHeartbeats 1000000 in
set_option maxRecDepth 100000 in
theorem set_any (ss : List ByteArray) (g c : Nat) (w : World) (hm : ss.length ≤ 140737488351232) (hz : Short ss) (hg : g < w.heap.size) (hh : Hid (Holds w g ss)) :
    Calls Tryd.prog 109 #[.slice (some ⟨g, 0, none⟩) ss.length c] w fun e w' => e = .returned (.map (some w.heap.size)) ∧ w'.ownsMap Tryd.prog 9 unitElem w.heap.size ss.length (SS ss) ∧ Below w.heap.size w w' := by
  have hmm := @run_makeMap Tryd.prog
  go_enter Tryd.func109, Tryd.ntmps109
  go_wp2
  go_loopw [5, 9] (fun _ i wr => ∃ k : Nat, k ≤ ss.length ∧ i = .int .i64 k ∧ wr.ownsMap Tryd.prog 9 (unitElem (H := Unit)) w.heap.size k (SS (ss.take k)) ∧ Below w.heap.size w wr)
    (fun _ i _ => ss.length - (intOf i).toNat)
  case atStart => exact ⟨0, Nat.zero_le _, rfl, by rw [SS_zero]; exact World.ownsMap_made _ _ _ _, (Below.refl _ _).alloc (Nat.le_refl _) _⟩
  case round =>
    obtain ⟨k, hk, rfl, hown, hnx⟩ := hrel
    by_cases hlt : k < ss.length
    · have hcx : wr.cell? ⟨g, k, none⟩ = some (.string (ss.getD k ⟨#[]⟩)) := (hnx.cell (p := ⟨g, k, none⟩) hg).trans (hh.out k hlt)
      have hkey := key_ok (Short.at hz k)
      have HS := Lib.hid (SS_succ ss k hlt)
      obtain ⟨t, ht⟩ : ∃ t, ss.getD k ⟨#[]⟩ = t := ⟨_, rfl⟩
      rw [ht] at hcx hkey HS
      clear ht
      go_wp2_with (first
        | (at_mapUpdate; refine wpList_mapUpdate_own _ rfl _ _ _ 135 rfl 9 137 law9 Tryd.underlying135 (unitElem (H := Unit)) w.heap.size k _ rfl hown (by unfold maxLen; omega) _ _ _ rfl rfl hkey _ [] unitElem_mk ?_; intro w1 hown1 hgrow1)
        | go_in)
      go_roundw
      case rel => exact ⟨k + 1, by omega, by go_num, HS.out.symm ▸ hown1, hnx.grown hgrow1 hnx.size (fun j hj => by cases hj; exact Nat.le_refl _)⟩
      case measure => simp [intOf]; omega
    · obtain rfl : k = ss.length := by omega
      go_wp2
      go_ret
      exact ⟨rfl, by rw [List.take_length] at hown; exact hown, hnx⟩
set_option maxHeartbeats 400000 in
theorem twice_any (ss : List ByteArray) (g c : Nat) (w : World) (hm : ss.length ≤ 140737488351232) (hz : Short ss) (hg : g < w.heap.size) (hh : Hid (Holds w g ss)) :
    Calls Tryd.prog 107 #[.slice (some ⟨g, 0, none⟩) ss.length c] w fun e w' => e = .returned (.bool (tw ss)) ∧ Below w.heap.size w w' := by
  go_enter Tryd.func107, Tryd.ntmps107
  go_wp2_with (first
    | (go_at_call 109; refine (set_any ss g c _ hm hz hg hh).mono ?_; rintro e w1 ⟨rfl, hown, hb⟩)
    | (at_len; refine wpList_len_own _ rfl _ 135 rfl 9 137 Tryd.underlying135 (unitElem (H := Unit)) w.heap.size ss.length (SS ss) rfl hown ?_))
  go_ret
  exact ⟨ret_bool (by simp [tw]), hb⟩
theorem in_is {s : ByteArray} {ss : List ByteArray} {b : Bool} {g n c : Nat} (h : inB s (ss.take n) = b) (w : World) (hn : n ≤ ss.length) (hm : ss.length ≤ 140737488351232) (hh : Hid (Holds w g ss)) :
    Calls Tryd.prog 90 #[.string s, .slice (some ⟨g, 0, none⟩) n c] w fun e w' => e = .returned (.bool b) ∧ w = w' := by subst h; exact in_any s ss g n c w hn hm hh
theorem Holds.drewN {w : World} {g : Nat} {ss : List ByteArray} (h : Holds w g ss) (n : Nat) : Holds (w.drewN n) g ss := fun j hj => by rw [World.cell?_drewN]; exact h j hj
theorem below_drewN {B : Nat} {a w : World} (h : Below B a w) (n : Nat) : Below B a (w.drewN n) := ⟨h.os, h.tape, h.output, h.size, h.block⟩
set_option maxHeartbeats 1000000 in
theorem rtwice_any (ss : List ByteArray) (g c : Nat) (w : World) (hcap : ss.length ≤ c) (hm : ss.length ≤ 140737488351232) (hh : Hid (Holds w g ss)) :
    Calls Tryd.prog 83 #[.slice (some ⟨g, 0, none⟩) ss.length c] w fun e w' => e = .returned (.bool (tw ss)) ∧ Below w.heap.size w w' := by
  go_enter Tryd.func83, Tryd.ntmps83
  go_wp2
  go_loopw [3] (fun i wr => ∃ k : Nat, k ≤ ss.length ∧ i = .int .i64 k ∧ Hid (Maps.size (SS (ss.take k)) = k) ∧ Hid (Holds wr g ss) ∧ Below w.heap.size w wr) (fun i _ => ss.length - (intOf i).toNat)
  case atStart => exact ⟨0, Nat.zero_le _, rfl, Lib.hid (size_zero ss), hh, Below.refl _ _⟩
  case round =>
    obtain ⟨k, hk, rfl, HZ, HH, hbw⟩ := hrel
    by_cases hlt : k < ss.length
    · have hc := HH.out k hlt
      have HY := Lib.hid (tw_yes hlt HZ.out)
      have HS := Lib.hid (size_succ ss k hlt)
      obtain ⟨t, ht⟩ : ∃ t, ss.getD k ⟨#[]⟩ = t := ⟨_, rfl⟩
      rw [ht] at hc HY HS
      clear ht
      have h0 : (0 : Int) ≤ k := by omega
      have h1 : (k : Int) < ss.length := by omega
      have h2 : (k : Int) ≤ c := by omega
      have HB : ∃ b, Hid (inB t (ss.take k) = b) := ⟨_, rfl⟩
      obtain ⟨b, HB⟩ := HB
      cases b with
      | true =>
        go_wp2
        go_quiet ((go_at_call 90; exact Calls.quiet_of_same ((in_is HB.out _ (by omega) hm (Lib.hid (HH.out.drewN _))).mono fun _ _ ⟨he, hw⟩ => ⟨he, hw.symm⟩)))
        go_wp2
        go_ret
        exact ⟨ret_bool (HY.out HB.out).symm, below_drewN hbw _⟩
      | false =>
        go_wp2
        go_quiet ((go_at_call 90; exact Calls.quiet_of_same ((in_is HB.out _ (by omega) hm (Lib.hid (HH.out.drewN _))).mono fun _ _ ⟨he, hw⟩ => ⟨he, hw.symm⟩)))
        go_wp2
        go_roundw
        case rel => exact ⟨k + 1, by omega, by go_num, Lib.hid (by rw [HS.out, HB.out, HZ.out]; rfl), Lib.hid (HH.out.drewN _), below_drewN hbw _⟩
        case measure => simp [intOf]; omega
    · obtain rfl : k = ss.length := by omega
      go_wp2
      go_ret
      exact ⟨ret_bool (tw_no HZ.out).symm, hbw⟩
end Go.Proofs.YteikpeaakmbihaaDoor.M
