/- Joined by program. -/
import Derived.Test.YtjakeidbajkdcaaGreatDoorH15
import Derived.Test.YtjakeidbajkdcaaGreatDoorH00
import Derived.Test.YtjakeidbajkdcaaGreatDoorH16
import Derived.Test.YtjakeidbajkdcaaGreatDoorH10
import Derived.Test.YtjakeidbajkdcaaGreatDoorH14
set_option maxRecDepth 100000
set_option maxHeartbeats 8000000
namespace Go.Proofs.YtjakeidbajkdcaaGreatDoor.T
open Go.RowKit Go.Shelf
theorem fit_cut {x : Nd} (h : Fit x) : Small (cut x) /\ Clonable (cut x) := by
  obtain ⟨h1, h2, h3, h4⟩ := h
  have e : reachBytes = 140737488351232 := rfl
  rw [e] at h1 h2
  have h5 : (cut x).l.length <= 60 := by simp only [cut, List.length_take]; omega
  have h6 : ∀ f ∈ (cut x).l, f.nm.size <= 140737488351232 /\ f.vr.size <= 140737488351232 := fun f hf => h4 f (List.mem_of_mem_take hf)
  refine ⟨⟨?_, ?_, by omega, fun f hf => ?_⟩, ⟨?_, ?_, by omega, fun f hf => ?_⟩⟩
  · show x.nm.size <= _; omega
  · show x.s.size <= _; omega
  · have := h6 f hf; omega
  · show x.nm.size <= _; omega
  · show x.s.size <= _; omega
  · have := h6 f hf; omega
theorem fit_few {l : List Nd} (h : ∀ x ∈ l, Fit x) : ∀ x ∈ few l, Small x /\ Clonable x := fun x hx => by
  obtain ⟨y, hy, rfl⟩ := List.mem_map.1 hx
  exact fit_cut (h y (List.mem_of_mem_take hy))
def Rw (W : World) (g : Nat) (K : List Int) : Prop := Row0 W g K /\ g < W.heap.size
theorem Rw.of {B g c : Nat} {W : World} {K : List Int} (h : Ints B W (.slice (some ⟨g, 0, none⟩) K.length c) K) : Rw W g K := ⟨ints_cells h, (World.ownsRow.lt h g rfl).2⟩
open Go.RowKit Go.Shelf
theorem own_slice_len {B L : Nat} {W : World} {v : Value} {ps : List (Nd × Value)} {l m : List Nd} (h : OwnN B W v ps) (hps : ps.map Prod.fst = l) (hm : l = m) (hL : m.length = L) : ∃ A c, v = .slice A L c := by
  obtain ⟨A, c, h⟩ := own_slice h
  refine ⟨A, c, ?_⟩
  rw [h, <- hL, <- hm, <- hps, List.length_map]
open Go.RowKit
theorem ne_f {x y : Int} (h : (x == y) = false) : (x != y) = true := by simp [bne, h]
theorem ne_t {x y : Int} (h : (x == y) = true) : (x != y) = false := by simp [bne, h]
theorem nb_f {x y : List UInt8} (h : (x == y) = false) : (x != y) = true := by simp [bne, h]
theorem nb_t {x y : List UInt8} (h : (x == y) = true) : (x != y) = false := by simp [bne, h]
theorem rsn_len (k a b c n pos k' a' b' c' n' pos' : Int) (nm s nm' s' : ByteArray) (_l _l' : List Fld) (A C : Option Addr) (L M c1 c2 : Nat) (w : World) (h0 : (k == k') = true) (h1 : (a == a') = true) (h2 : (b == b') = true) (h3 : (c == c') = true) (h4 : (n == n') = true) (h5 : (nm.toList == nm'.toList) = true) (h6 : (s.toList == s'.toList) = true) (hne : ¬ L = M) :
    Calls Tryz.prog 59 #[.agg #[.int .i64 k, .int .i64 a, .int .i64 b, .int .i64 c, .int .i64 n, .string nm, .string s, .slice A L c1, .int .i64 pos], .agg #[.int .i64 k', .int .i64 a', .int .i64 b', .int .i64 c', .int .i64 n', .string nm', .string s', .slice C M c2, .int .i64 pos']] w fun e w' => e = .returned (.bool false) /\ Below w.heap.size w w' := by
  have hb : ((L : Int) != (M : Int)) = true := by simpa using (by omega : ¬ (L : Int) = (M : Int))
  have g0 := ne_t h0
  have g1 := ne_t h1
  have g2 := ne_t h2
  have g3 := ne_t h3
  have g4 := ne_t h4
  have g5 := nb_t h5
  have g6 := nb_t h6
  have HB2 : Hid (Below w.heap.size w ((w.alloc (.cells #[.int .i64 k, .int .i64 a, .int .i64 b, .int .i64 c, .int .i64 n, .string nm, .string s, .slice A L c1, .int .i64 pos] 37)).alloc (.cells #[.int .i64 k', .int .i64 a', .int .i64 b', .int .i64 c', .int .i64 n', .string nm', .string s', .slice C M c2, .int .i64 pos'] 37))) := Lib.hid (((Below.refl _ w).alloc (Nat.le_refl _) _).alloc (by simp) _)
  go_enter Tryz.func59, Tryz.ntmps59
  go_wp2
  go_ret
  exact ⟨rfl, HB2.out⟩
theorem rsn_pos (k a b c n pos k' a' b' c' n' pos' : Int) (nm s nm' s' : ByteArray) (l l' : List Fld) (A C : Option Addr) (L c1 c2 : Nat) (w : World) (h0 : (k == k') = true) (h1 : (a == a') = true) (h2 : (b == b') = true) (h3 : (c == c') = true) (h4 : (n == n') = true) (h5 : (nm.toList == nm'.toList) = true) (h6 : (s.toList == s'.toList) = true)
    (HL : Hid (l.length = L)) (HM : Hid (l'.length = L)) (hL : L <= 1000000) (HP : Hid (0 < L -> ∃ b1 o1 b2 o2, A = some (⟨b1, o1, none⟩ : Addr) /\ C = some (⟨b2, o2, none⟩ : Addr) /\ b1 < w.heap.size /\ b2 < w.heap.size /\ FldsAt w b1 o1 l /\ FldsAt w b2 o2 l')) :
    Calls Tryz.prog 59 #[.agg #[.int .i64 k, .int .i64 a, .int .i64 b, .int .i64 c, .int .i64 n, .string nm, .string s, .slice A L c1, .int .i64 pos], .agg #[.int .i64 k', .int .i64 a', .int .i64 b', .int .i64 c', .int .i64 n', .string nm', .string s', .slice C L c2, .int .i64 pos']] w fun e w' => e = .returned (.bool (les l l')) /\ Below w.heap.size w w' := by
  have g0 := ne_t h0
  have g1 := ne_t h1
  have g2 := ne_t h2
  have g3 := ne_t h3
  have g4 := ne_t h4
  have g5 := nb_t h5
  have g6 := nb_t h6
  obtain ⟨W2, hW2⟩ : ∃ W2, ((w.alloc (.cells #[.int .i64 k, .int .i64 a, .int .i64 b, .int .i64 c, .int .i64 n, .string nm, .string s, .slice A L c1, .int .i64 pos] 37)).alloc (.cells #[.int .i64 k', .int .i64 a', .int .i64 b', .int .i64 c', .int .i64 n', .string nm', .string s', .slice C L c2, .int .i64 pos'] 37)) = W2 := ⟨_, rfl⟩
  have HB2 : Hid (Below w.heap.size w W2) := Lib.hid (by rw [<- hW2]; exact ((Below.refl _ w).alloc (Nat.le_refl _) _).alloc (by simp) _)
  have HX0 : Hid (W2.heap[w.heap.size]? = some (.cells #[.int .i64 k, .int .i64 a, .int .i64 b, .int .i64 c, .int .i64 n, .string nm, .string s, .slice A L c1, .int .i64 pos] 37 (0, 0))) := Lib.hid (by rw [<- hW2]; exact nextAt (newAt rfl))
  have HY0 : Hid (W2.heap[w.heap.size + 1]? = some (.cells #[.int .i64 k', .int .i64 a', .int .i64 b', .int .i64 c', .int .i64 n', .string nm', .string s', .slice C L c2, .int .i64 pos'] 37 (0, 0))) := Lib.hid (by rw [<- hW2]; exact newAt (by simp))
  have HW2 := Lib.hid hW2
  clear hW2
  go_enter Tryz.func59, Tryz.ntmps59
  go_wp2
  go_loopw [5] (fun i wr => ∃ q : Nat, i = .int .i64 (q : Int) /\ q <= L /\ Hid (∀ (j : Nat) (f g : Fld), j < q -> l[j]? = some f -> l'[j]? = some g -> fe f g = true) /\ Hid (Below w.heap.size w wr /\ wr.heap = W2.heap)) (fun i _ => L - (intOf i).toNat)
  case atStart => exact ⟨0, rfl, Nat.zero_le _, Lib.hid (fun j f g h => absurd h (by omega)), Lib.hid (by rw [HW2.out]; exact ⟨HB2.out, rfl⟩)⟩
  case round =>
    obtain ⟨q, rfl, hq, HA, HB⟩ := hrel
    have hx0 : wr.heap[w.heap.size]? = some (.cells #[.int .i64 k, .int .i64 a, .int .i64 b, .int .i64 c, .int .i64 n, .string nm, .string s, .slice A L c1, .int .i64 pos] 37 (0, 0)) := by rw [HB.out.2]; exact HX0.out
    have hy0 : wr.heap[w.heap.size + 1]? = some (.cells #[.int .i64 k', .int .i64 a', .int .i64 b', .int .i64 c', .int .i64 n', .string nm', .string s', .slice C L c2, .int .i64 pos'] 37 (0, 0)) := by rw [HB.out.2]; exact HY0.out
    have cx : wr.cell? ⟨w.heap.size, 7, none⟩ = some (.slice A L c1) := (Blk_cell hx0 7).trans rfl
    have cy : wr.cell? ⟨w.heap.size + 1, 7, none⟩ = some (.slice C L c2) := (Blk_cell hy0 7).trans rfl
    clear hx0 hy0
    by_cases hlt : q < L
    · obtain ⟨b1, o1, b2, o2, rfl, rfl, hb1, hb2, hf1, hf2⟩ := HP.out (by omega)
      obtain ⟨f, hf⟩ : ∃ f, l[q]? = some f := ⟨_, List.getElem?_eq_getElem (by rw [HL.out]; exact hlt)⟩
      obtain ⟨g, hg⟩ : ∃ g, l'[q]? = some g := ⟨_, List.getElem?_eq_getElem (by rw [HM.out]; exact hlt)⟩
      obtain ⟨z0, z1, z2⟩ := (hf1.below HB.out.1 hb1) q f hf
      obtain ⟨y0, y1, y2⟩ := (hf2.below HB.out.1 hb2) q g hg
      have HX := Lib.hid hf
      have HY := Lib.hid hg
      clear hf hg hf1 hf2
      by_cases a1 : f.nm.toList = g.nm.toList
      · by_cases a2 : f.vr.toList = g.vr.toList
        · by_cases a3 : f.pl = g.pl
          · have HY1 : Hid (fe f g = true) := Lib.hid (by simp [fe, a1, a2, a3])
            have HN : Hid (∀ (j : Nat) (f g : Fld), j < q + 1 -> l[j]? = some f -> l'[j]? = some g -> fe f g = true) := Lib.hid (by
              intro j f' g' hj hf' hg'
              by_cases e : j = q
              · subst e
                rw [HX.out] at hf'; rw [HY.out] at hg'
                injection hf' with hf'; injection hg' with hg'
                subst hf' hg'; exact HY1.out
              · exact HA.out j f' g' (by omega) hf' hg')
            go_wp2_with fail
            go_region
            all_goals
              go_wp2
              go_roundw
              case rel => exact ⟨q + 1, by go_num, by omega, HN, Lib.hid ⟨HB.out.1.drew, HB.out.2⟩⟩
              case measure => simp [intOf]; omega
          · have HY1 : Hid (les l l' = false) := Lib.hid (les_no HX.out HY.out (by simp [fe, a3]))
            go_wp2_with fail
            go_region
            all_goals
              go_wp2
              go_ret
              exact ⟨ret_b HY1.out.symm, HB.out.1.drew⟩
        · have HY1 : Hid (les l l' = false) := Lib.hid (les_no HX.out HY.out (by simp [fe, a2]))
          go_wp2_with fail
          go_region
          all_goals
            go_wp2
            go_ret
            exact ⟨ret_b HY1.out.symm, HB.out.1.drew⟩
      · have HY1 : Hid (les l l' = false) := Lib.hid (les_no HX.out HY.out (by simp [fe, a1]))
        go_wp2_with fail
        go_region
        all_goals
          go_wp2
          go_ret
          exact ⟨ret_b HY1.out.symm, HB.out.1.drew⟩
    · obtain rfl : q = L := by omega
      have HR : Hid (les l l' = true) := Lib.hid (les_yes (fun j f g h1 h2 => HA.out j f g (by have := lt_of_some h1; rw [HL.out] at this; exact this) h1 h2) (by rw [HL.out, HM.out]))
      go_wp2
      go_ret
      exact ⟨ret_b HR.out.symm, HB.out.1⟩
theorem rsn_any (x y : Nd) (v u : Value) (w : World) (hv : Flds w.heap.size w v x.l) (hu : Flds w.heap.size w u y.l) (hL : x.l.length <= 1000000) :
    Calls Tryz.prog 59 #[.agg (ndArr x v), .agg (ndArr y u)] w fun e w' => e = .returned (.bool (sn x y)) /\ Below w.heap.size w w' := by
  obtain ⟨A, c1, rfl, _, _, hq⟩ := hv
  obtain ⟨C, c2, rfl, _, _, hr⟩ := hu
  obtain ⟨k, a, b, c, n, nm, s, l, pos⟩ := x
  obtain ⟨k', a', b', c', n', nm', s', l', pos'⟩ := y
  unfold ndArr
  simp only [sn] at hq hr hL ⊢
  have HB2 : Hid (Below w.heap.size w ((w.alloc (.cells #[.int .i64 k, .int .i64 a, .int .i64 b, .int .i64 c, .int .i64 n, .string nm, .string s, .slice A l.length c1, .int .i64 pos] 37)).alloc (.cells #[.int .i64 k', .int .i64 a', .int .i64 b', .int .i64 c', .int .i64 n', .string nm', .string s', .slice C l'.length c2, .int .i64 pos'] 37))) := Lib.hid (((Below.refl _ w).alloc (Nat.le_refl _) _).alloc (by simp) _)
  cases h0 : (k == k') with
  | false =>
    have g0 := ne_f h0
    clear hq hr hL
    go_enter Tryz.func59, Tryz.ntmps59
    go_wp2
    go_ret
    exact ⟨ret_b (by simp), HB2.out⟩
  | true =>
    have g0 := ne_t h0
    cases h1 : (a == a') with
    | false =>
      have g1 := ne_f h1
      clear hq hr hL
      go_enter Tryz.func59, Tryz.ntmps59
      go_wp2
      go_ret
      exact ⟨ret_b (by simp), HB2.out⟩
    | true =>
      have g1 := ne_t h1
      cases h2 : (b == b') with
      | false =>
        have g2 := ne_f h2
        clear hq hr hL
        go_enter Tryz.func59, Tryz.ntmps59
        go_wp2
        go_ret
        exact ⟨ret_b (by simp), HB2.out⟩
      | true =>
        have g2 := ne_t h2
        cases h3 : (c == c') with
        | false =>
          have g3 := ne_f h3
          clear hq hr hL
          go_enter Tryz.func59, Tryz.ntmps59
          go_wp2
          go_ret
          exact ⟨ret_b (by simp), HB2.out⟩
        | true =>
          have g3 := ne_t h3
          cases h4 : (n == n') with
          | false =>
            have g4 := ne_f h4
            clear hq hr hL
            go_enter Tryz.func59, Tryz.ntmps59
            go_wp2
            go_ret
            exact ⟨ret_b (by simp), HB2.out⟩
          | true =>
            have g4 := ne_t h4
            cases h5 : (nm.toList == nm'.toList) with
            | false =>
              have g5 := nb_f h5
              clear hq hr hL
              go_enter Tryz.func59, Tryz.ntmps59
              go_wp2
              go_ret
              exact ⟨ret_b (by simp), HB2.out⟩
            | true =>
              have g5 := nb_t h5
              cases h6 : (s.toList == s'.toList) with
              | false =>
                have g6 := nb_f h6
                clear hq hr hL
                go_enter Tryz.func59, Tryz.ntmps59
                go_wp2
                go_ret
                exact ⟨ret_b (by simp), HB2.out⟩
              | true =>
                have g6 := nb_t h6
                by_cases he : l.length = l'.length
                · have e1 : lf l l' = les l l' := by rw [lf, he]; simp
                  simp only [Bool.true_and, e1]
                  rw [<- he]
                  refine rsn_pos k a b c n pos k' a' b' c' n' pos' nm s nm' s' l l' A C l.length c1 c2 w h0 h1 h2 h3 h4 h5 h6 (Lib.hid rfl) (Lib.hid he.symm) hL (Lib.hid fun h => ?_)
                  obtain ⟨b1, o1, rfl, hb1, hf1⟩ := hq h
                  obtain ⟨b2, o2, rfl, hb2, hf2⟩ := hr (by omega)
                  exact ⟨b1, o1, b2, o2, rfl, rfl, hb1, hb2, hf1, hf2⟩
                · have e1 : lf l l' = false := by rw [lf]; simp [he]
                  simp only [Bool.true_and, e1]
                  exact rsn_len k a b c n pos k' a' b' c' n' pos' nm s nm' s' l l' A C _ _ c1 c2 w h0 h1 h2 h3 h4 h5 h6 he
end Go.Proofs.YtjakeidbajkdcaaGreatDoor.T
