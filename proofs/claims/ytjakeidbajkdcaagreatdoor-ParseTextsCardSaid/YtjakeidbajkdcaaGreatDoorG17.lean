/- Joined by program. -/
import Derived.Test.YtjakeidbajkdcaaGreatDoorG15
import Derived.Test.YtjakeidbajkdcaaGreatDoorG01
import Derived.Test.YtjakeidbajkdcaaGreatDoorG16
import Derived.Test.YtjakeidbajkdcaaGreatDoorG10
import Derived.Test.YtjakeidbajkdcaaGreatDoorG14
set_option maxRecDepth 100000
set_option maxHeartbeats 8000000
namespace Go.Proofs.YtjakeidbajkdcaaGreatDoor.T
open Go.RowKit Go.Shelf
def Rw (W : World) (g : Nat) (K : List Int) : Prop := Row0 W g K /\ g < W.heap.size
theorem Rw.of {B g c : Nat} {W : World} {K : List Int} (h : Ints B W (.slice (some ⟨g, 0, none⟩) K.length c) K) : Rw W g K := ⟨zcr h, (World.ownsRow.lt h g rfl).2⟩
theorem Rw.next {W W' : World} {g : Nat} {K : List Int} (h : Rw W g K) (hb : Below W.heap.size W W') : Rw W' g K :=
 ⟨fun j z hz => (hb.cell (p := ⟨g, j, none⟩) h.2).trans (h.1 j z hz), lltl h.2 hb.size⟩
theorem Rw.drew {W : World} {g : Nat} {K : List Int} (h : Rw W g K) : Rw W.drew g K := ⟨Row0.drew h.1, h.2⟩
theorem zre {f : Nat} {x : Nd} {K : List Int} {n : Nat} {W : World} {v : Value} (h : Calls Tryz.prog f #[.agg (ndArr x v)] W (KidsPost K W.heap.size W)) (hn : K.length = n) :
  Calls Tryz.prog f #[.agg #[.int .i64 x.kind, .int .i64 x.a, .int .i64 x.b, .int .i64 x.c, .int .i64 x.n, .string x.nm, .string x.s, v, .int .i64 x.pos]] W fun e W' => ∃ g c, e = .returned (.slice (some ⟨g, 0, none⟩) n c) /\ Rw W' g K /\ Below W.heap.size W W' := by
 subst hn
 refine Calls.mono h ?_
 rintro e W' ⟨g, c, rfl, hi, hb⟩
 exact ⟨g, c, rfl, Rw.of hi, hb⟩
def MSt (w W : World) (A : Option Addr) (k L : Nat) (ml : List Nd) (x : Nd) (v : Value) : Prop :=
 Below w.heap.size w W /\ Nodes W.heap.size W (.slice A L k) ml /\ W.heap[w.heap.size]? = some (.cells #[.slice A L k] 25 (0, 0)) /\ W.heap[w.heap.size + 1]? = some (.cells (ndArr x v) 37 (0, 0)) /\ Flds W.heap.size W v (cut x).l
theorem MSt.next {w W W' : World} {A : Option Addr} {k L : Nat} {ml : List Nd} {x : Nd} {v : Value} (h : MSt w W A k L ml x v) (hb : Below W.heap.size W W') : MSt w W' A k L ml x v :=
 ⟨zfa h.1 hb (lrf _), (h.2.1.below hb).mono hb.size, zdn h.2.2.1 hb, zdn h.2.2.2.1 hb, (h.2.2.2.2.below hb).mono hb.size⟩
theorem MSt.drew {w W : World} {A : Option Addr} {k L : Nat} {ml : List Nd} {x : Nd} {v : Value} (h : MSt w W A k L ml x v) : MSt w W.drew A k L ml x v := h.next (br _ _).drew
open Go.RowKit Go.Shelf
theorem zht {B L : Nat} {W : World} {v : Value} {ps : List (Nd × Value)} {l m : List Nd} (h : OwnN B W v ps) (hps : ps.map Prod.fst = l) (hm : l = m) (hL : m.length = L) : ∃ A c, v = .slice A L c := by
 obtain ⟨A, c, h⟩ := zgo h
 refine ⟨A, c, ?_⟩
 rw [h, <- hL, <- hm, <- hps, List.length_map]
open Go.RowKit
theorem ne_f {x y : Int} (h : (x == y) = false) : (x != y) = true := by simp [bne, h]
theorem ne_t {x y : Int} (h : (x == y) = true) : (x != y) = false := by simp [bne, h]
theorem nb_f {x y : List UInt8} (h : (x == y) = false) : (x != y) = true := by simp [bne, h]
theorem nb_t {x y : List UInt8} (h : (x == y) = true) : (x != y) = false := by simp [bne, h]
theorem zvp (k a b c n pos k' a' b' c' n' pos' : Int) (nm s nm' s' : ByteArray) (_l _l' : List Fld) (A C : Option Addr) (L M c1 c2 : Nat) (w : World) (h0 : (k == k') = true) (h1 : (a == a') = true) (h2 : (b == b') = true) (h3 : (c == c') = true) (h4 : (n == n') = true) (h5 : (nm.toList == nm'.toList) = true) (h6 : (s.toList == s'.toList) = true) (hne : ¬ L = M) :
  Calls Tryz.prog 59 #[.agg #[.int .i64 k, .int .i64 a, .int .i64 b, .int .i64 c, .int .i64 n, .string nm, .string s, .slice A L c1, .int .i64 pos], .agg #[.int .i64 k', .int .i64 a', .int .i64 b', .int .i64 c', .int .i64 n', .string nm', .string s', .slice C M c2, .int .i64 pos']] w fun e w' => e = .returned (.bool false) /\ Below w.heap.size w w' := by
 have hb : ((L : Int) != (M : Int)) = true := by simpa using (by omega : ¬ (L : Int) = (M : Int))
 have g0 := ne_t h0
 have g1 := ne_t h1
 have g2 := ne_t h2
 have g3 := ne_t h3
 have g4 := ne_t h4
 have g5 := nb_t h5
 have g6 := nb_t h6
 have HB2 : Hid (Below w.heap.size w ((w.alloc (.cells #[.int .i64 k, .int .i64 a, .int .i64 b, .int .i64 c, .int .i64 n, .string nm, .string s, .slice A L c1, .int .i64 pos] 37)).alloc (.cells #[.int .i64 k', .int .i64 a', .int .i64 b', .int .i64 c', .int .i64 n', .string nm', .string s', .slice C M c2, .int .i64 pos'] 37))) := jj ((baw w _).alloc (by simp) _)
 go_enter Tryz.func59, Tryz.ntmps59
 go_wp2
 go_ret
 exact ⟨rfl, HB2.out⟩
theorem zu9 (k a b c n pos k' a' b' c' n' pos' : Int) (nm s nm' s' : ByteArray) (l l' : List Fld) (A C : Option Addr) (L c1 c2 : Nat) (w : World) (h0 : (k == k') = true) (h1 : (a == a') = true) (h2 : (b == b') = true) (h3 : (c == c') = true) (h4 : (n == n') = true) (h5 : (nm.toList == nm'.toList) = true) (h6 : (s.toList == s'.toList) = true)
  (HL : Hid (l.length = L)) (HM : Hid (l'.length = L)) (hL : L <= 1000000) (HP : Hid (0 < L -> ∃ b1 o1 b2 o2, A = some (⟨b1, o1, none⟩ : Addr) /\ C = some (⟨b2, o2, none⟩ : Addr) /\ b1 < w.heap.size /\ b2 < w.heap.size /\ FldsAt w b1 o1 l /\ FldsAt w b2 o2 l')) :
  Calls Tryz.prog 59 #[.agg #[.int .i64 k, .int .i64 a, .int .i64 b, .int .i64 c, .int .i64 n, .string nm, .string s, .slice A L c1, .int .i64 pos], .agg #[.int .i64 k', .int .i64 a', .int .i64 b', .int .i64 c', .int .i64 n', .string nm', .string s', .slice C L c2, .int .i64 pos']] w fun e w' => e = .returned (.bool (les l l')) /\ Below w.heap.size w w' := by
 have g0 := ne_t h0
 have g1 := ne_t h1
 have g2 := ne_t h2
 have g3 := ne_t h3
 have g4 := ne_t h4
 have g5 := nb_t h5
 have g6 := nb_t h6
 obtain ⟨W2, hW2⟩ : ∃ W2, ((w.alloc (.cells #[.int .i64 k, .int .i64 a, .int .i64 b, .int .i64 c, .int .i64 n, .string nm, .string s, .slice A L c1, .int .i64 pos] 37)).alloc (.cells #[.int .i64 k', .int .i64 a', .int .i64 b', .int .i64 c', .int .i64 n', .string nm', .string s', .slice C L c2, .int .i64 pos'] 37)) = W2 := ⟨_, rfl⟩
 have HB2 : Hid (Below w.heap.size w W2) := jj (by rw [<- hW2]; exact (baw w _).alloc (by simp) _)
 have HX0 : Hid (W2.heap[w.heap.size]? = some (.cells #[.int .i64 k, .int .i64 a, .int .i64 b, .int .i64 c, .int .i64 n, .string nm, .string s, .slice A L c1, .int .i64 pos] 37 (0, 0))) := jj (by rw [<- hW2]; exact nextAt (newAt rfl))
 have HY0 : Hid (W2.heap[w.heap.size + 1]? = some (.cells #[.int .i64 k', .int .i64 a', .int .i64 b', .int .i64 c', .int .i64 n', .string nm', .string s', .slice C L c2, .int .i64 pos'] 37 (0, 0))) := jj (by rw [<- hW2]; exact newAt (by simp))
 have HW2 := jj hW2
 clear hW2
 go_enter Tryz.func59, Tryz.ntmps59
 go_wp2
 go_loopw [5] (fun i wr => ∃ q : Nat, i = .int .i64 (q : Int) /\ q <= L /\ Hid (∀ (j : Nat) (f g : Fld), j < q -> l[j]? = some f -> l'[j]? = some g -> fe f g = true) /\ Hid (Below w.heap.size w wr /\ wr.heap = W2.heap)) (fun i _ => L - (intOf i).toNat)
 case atStart => exact ⟨0, rfl, Nat.zero_le _, jj (fun j f g h => absurd h (by omega)), jj (by rw [HW2.out]; exact ⟨HB2.out, rfl⟩)⟩
 case round =>
  obtain ⟨q, rfl, hq, HA, HB⟩ := hrel
  have hx0 : wr.heap[w.heap.size]? = some (.cells #[.int .i64 k, .int .i64 a, .int .i64 b, .int .i64 c, .int .i64 n, .string nm, .string s, .slice A L c1, .int .i64 pos] 37 (0, 0)) := by rw [HB.out.2]; exact HX0.out
  have hy0 : wr.heap[w.heap.size + 1]? = some (.cells #[.int .i64 k', .int .i64 a', .int .i64 b', .int .i64 c', .int .i64 n', .string nm', .string s', .slice C L c2, .int .i64 pos'] 37 (0, 0)) := by rw [HB.out.2]; exact HY0.out
  have cx : wr.cell? ⟨w.heap.size, 7, none⟩ = some (.slice A L c1) := (zaa hx0 7).trans rfl
  have cy : wr.cell? ⟨w.heap.size + 1, 7, none⟩ = some (.slice C L c2) := (zaa hy0 7).trans rfl
  clear hx0 hy0
  by_cases hlt : q < L
  ·obtain ⟨b1, o1, b2, o2, rfl, rfl, hb1, hb2, hf1, hf2⟩ := HP.out (by omega)
   obtain ⟨f, hf⟩ : ∃ f, l[q]? = some f := ⟨_, List.getElem?_eq_getElem (by rw [HL.out]; exact hlt)⟩
   obtain ⟨g, hg⟩ : ∃ g, l'[q]? = some g := ⟨_, List.getElem?_eq_getElem (by rw [HM.out]; exact hlt)⟩
   obtain ⟨z0, z1, z2⟩ := (hf1.below HB.out.1 hb1) q f hf
   obtain ⟨y0, y1, y2⟩ := (hf2.below HB.out.1 hb2) q g hg
   have HX := jj hf
   have HY := jj hg
   clear hf hg hf1 hf2
   by_cases a1 : f.nm.toList = g.nm.toList
   ·by_cases a2 : f.vr.toList = g.vr.toList
    ·by_cases a3 : f.pl = g.pl
     ·have HY1 : Hid (fe f g = true) := jj (by simp [fe, a1, a2, a3])
      have HN : Hid (∀ (j : Nat) (f g : Fld), j < q + 1 -> l[j]? = some f -> l'[j]? = some g -> fe f g = true) := jj (by
       intro j f' g' hj hf' hg'
       by_cases e : j = q
       ·subst e
        rw [HX.out] at hf'; rw [HY.out] at hg'
        injection hf' with hf'; injection hg' with hg'
        subst hf' hg'; exact HY1.out
       ·exact HA.out j f' g' (by omega) hf' hg')
      go_wp2_with fail
      go_region
      all_goals
       go_wp2
       go_roundw
       case rel => exact ⟨q + 1, by go_num, by omega, HN, jj ⟨HB.out.1.drew, HB.out.2⟩⟩
       case measure => simp [intOf]; omega
     ·have HY1 : Hid (les l l' = false) := jj (zo4 HX.out HY.out (by simp [fe, a3]))
      go_wp2_with fail
      go_region
      all_goals
       go_wp2
       go_ret
       exact ⟨zag HY1.out.symm, HB.out.1.drew⟩
    ·have HY1 : Hid (les l l' = false) := jj (zo4 HX.out HY.out (by simp [fe, a2]))
     go_wp2_with fail
     go_region
     all_goals
      go_wp2
      go_ret
      exact ⟨zag HY1.out.symm, HB.out.1.drew⟩
   ·have HY1 : Hid (les l l' = false) := jj (zo4 HX.out HY.out (by simp [fe, a1]))
    go_wp2_with fail
    go_region
    all_goals
     go_wp2
     go_ret
     exact ⟨zag HY1.out.symm, HB.out.1.drew⟩
  ·obtain rfl : q = L := by omega
   have HR : Hid (les l l' = true) := jj (zno (fun j f g h1 h2 => HA.out j f g (by have := zaz h1; rw [HL.out] at this; exact this) h1 h2) (by rw [HL.out, HM.out]))
   go_wp2
   go_ret
   exact ⟨zag HR.out.symm, HB.out.1⟩
theorem zva (x y : Nd) (v u : Value) (w : World) (hv : Flds w.heap.size w v x.l) (hu : Flds w.heap.size w u y.l) (hL : x.l.length <= 1000000) :
  Calls Tryz.prog 59 #[.agg (ndArr x v), .agg (ndArr y u)] w fun e w' => e = .returned (.bool (sn x y)) /\ Below w.heap.size w w' := by
 obtain ⟨A, c1, rfl, _, _, hq⟩ := hv
 obtain ⟨C, c2, rfl, _, _, hr⟩ := hu
 obtain ⟨k, a, b, c, n, nm, s, l, pos⟩ := x
 obtain ⟨k', a', b', c', n', nm', s', l', pos'⟩ := y
 unfold ndArr
 simp only [sn] at hq hr hL ⊢
 have HB2 : Hid (Below w.heap.size w ((w.alloc (.cells #[.int .i64 k, .int .i64 a, .int .i64 b, .int .i64 c, .int .i64 n, .string nm, .string s, .slice A l.length c1, .int .i64 pos] 37)).alloc (.cells #[.int .i64 k', .int .i64 a', .int .i64 b', .int .i64 c', .int .i64 n', .string nm', .string s', .slice C l'.length c2, .int .i64 pos'] 37))) := jj ((baw w _).alloc (by simp) _)
 cases h0 : (k == k') with
 | false =>
  have g0 := ne_f h0
  clear hq hr hL
  go_enter Tryz.func59, Tryz.ntmps59
  go_wp2
  go_ret
  exact ⟨zag (by simp), HB2.out⟩
 | true =>
  have g0 := ne_t h0
  cases h1 : (a == a') with
  | false =>
   have g1 := ne_f h1
   clear hq hr hL
   go_enter Tryz.func59, Tryz.ntmps59
   go_wp2
   go_ret
   exact ⟨zag (by simp), HB2.out⟩
  | true =>
   have g1 := ne_t h1
   cases h2 : (b == b') with
   | false =>
    have g2 := ne_f h2
    clear hq hr hL
    go_enter Tryz.func59, Tryz.ntmps59
    go_wp2
    go_ret
    exact ⟨zag (by simp), HB2.out⟩
   | true =>
    have g2 := ne_t h2
    cases h3 : (c == c') with
    | false =>
     have g3 := ne_f h3
     clear hq hr hL
     go_enter Tryz.func59, Tryz.ntmps59
     go_wp2
     go_ret
     exact ⟨zag (by simp), HB2.out⟩
    | true =>
     have g3 := ne_t h3
     cases h4 : (n == n') with
     | false =>
      have g4 := ne_f h4
      clear hq hr hL
      go_enter Tryz.func59, Tryz.ntmps59
      go_wp2
      go_ret
      exact ⟨zag (by simp), HB2.out⟩
     | true =>
      have g4 := ne_t h4
      cases h5 : (nm.toList == nm'.toList) with
      | false =>
       have g5 := nb_f h5
       clear hq hr hL
       go_enter Tryz.func59, Tryz.ntmps59
       go_wp2
       go_ret
       exact ⟨zag (by simp), HB2.out⟩
      | true =>
       have g5 := nb_t h5
       cases h6 : (s.toList == s'.toList) with
       | false =>
        have g6 := nb_f h6
        clear hq hr hL
        go_enter Tryz.func59, Tryz.ntmps59
        go_wp2
        go_ret
        exact ⟨zag (by simp), HB2.out⟩
       | true =>
        have g6 := nb_t h6
        by_cases he : l.length = l'.length
        ·have e1 : lf l l' = les l l' := by rw [lf, he]; simp
         simp only [Bool.true_and, e1]
         rw [<- he]
         refine zu9 k a b c n pos k' a' b' c' n' pos' nm s nm' s' l l' A C l.length c1 c2 w h0 h1 h2 h3 h4 h5 h6 (jj rfl) (jj he.symm) hL (jj fun h => ?_)
         obtain ⟨b1, o1, rfl, hb1, hf1⟩ := hq h
         obtain ⟨b2, o2, rfl, hb2, hf2⟩ := hr (by omega)
         exact ⟨b1, o1, b2, o2, rfl, rfl, hb1, hb2, hf1, hf2⟩
        ·have e1 : lf l l' = false := by rw [lf]; simp [he]
         simp only [Bool.true_and, e1]
         exact zvp k a b c n pos k' a' b' c' n' pos' nm s nm' s' l l' A C _ _ c1 c2 w h0 h1 h2 h3 h4 h5 h6 he
end Go.Proofs.YtjakeidbajkdcaaGreatDoor.T
