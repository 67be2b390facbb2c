/- Joined by program: LIter. -/
import Derived.Test.YtjakeidbajkdcaaGreatDoorG34
import Derived.RangeFuncNested
import Derived.RangeFuncBound
import Derived.RangeFuncCalls
import Derived.RangeFuncLeaves
import Derived.Shelf.Abstract
import Derived.Shelf.RegionOpen
import Derived.WalkKit
import Derived.OwnWalkIn
import Derived.TacticsInMore
import Derived.LoopNIn
import Derived.LoopIn
/- tokens: the function that tells a text's tokens, one by one: for every loop's body. -/
namespace Go.Proofs.YtjakeidbajkdcaaGreatDoor.L
open Go.RowKit Go.Shelf
attribute [local go_sem] Oper.semAt_some
/-- What a round that goes on keeps: what lay below block B, and block Bn. -/
def Kp (B Bn : Nat) (A C : World) : Prop := Below B A C ∧ C.heap[Bn]? = A.heap[Bn]?
theorem Kp.trans {B Bn : Nat} {X Y Z : World} (h : Kp B Bn X Y) (k : Kp B Bn Y Z) : Kp B Bn X Z := ⟨h.1.trans k.1, k.2.trans h.2⟩
theorem grown_below {w w' : World} (h : Below w.heap.size w w') (row : Option Nat) : w.grownBy w' row := ⟨h.os, h.tape, h.output, h.size, fun k hk _ => h.block k hk⟩
def enc (x : Item) : Array Value := #[.agg #[.int .i64 x.1.k, .string x.1.t, .int .i64 x.1.n, .int .i64 (x.2 : Int)], .int .i64 x.1.e]
set_option maxHeartbeats 1000000 in
theorem tokens_in (n : Nat) (s : ByteArray) (w : World) :
    CallsIn Fence.wide n Tryz.prog 44 #[.string s] w fun e w' => e = .returned (.func (.func 78) #[] #[.pointer (some ⟨w.heap.size, 0, none⟩)]) ∧ w' = w.alloc (.cells #[.string s] 9) := by
  refine callsIn_of_wp Tryz.func44 rfl trivial ?_ rfl
  simp only [Tryz.ntmps44, List.size_toArray, List.length_cons, List.length_nil, Nat.reduceAdd, Nat.reduceSub, Array.replicate_succ, Array.replicate_zero, List.push_toArray, List.append_toArray, List.nil_append, List.cons_append]
  gi_wp2
  go_ret
  exact ⟨rfl, rfl⟩
theorem first_is {B : Nat} {s : ByteArray} {r : R} (hr : tok s = r) (hs : s.size ≤ 140737488351232) (h0 : 0 < s.size) (w : World) (hO : On B w) (hB : B ≤ w.heap.size) :
    Calls Tryz.prog 80 #[.string s] w fun e w' => e = .returned (.tuple #[.agg #[.int .i64 r.k, .string r.t, .int .i64 r.n, .int .i64 0], .int .i64 (r.long : Int), .int .i64 r.e]) ∧ Below w.heap.size w w' := by
  subst hr
  exact first_any s hs h0 w (Nat.le_refl _) (hO.up hB)
set_option maxRecDepth 100000 in
set_option maxHeartbeats 2000000 in
theorem iter_in (n : Nat) (hn : 1 ≤ n) (l Bn B : Nat) (s : ByteArray) (hs : s.size ≤ 140737488351232) (J Jx : List Item → World → Prop) (W : World) (hO : On B W) (hBB : B ≤ W.heap.size) (hBn : Boxed W Bn 9 (.string s)) (D : Nat) (hD : D ≤ W.heap.size) (hJ : AbidesFrom D J)
    (hY : ∀ pre x W, J pre W → pre.length < (items s).length → YieldAt Fence.wide (n - 1) Tryz.prog l (enc x) W fun e W' =>
      (e = .returned (.bool true) ∧ J (pre ++ [x]) W' ∧ Kp B Bn W W') ∨ (e = .returned (.bool false) ∧ Jx (pre ++ [x]) W'))
    (h0 : J [] W) :
    CallsIn Fence.wide n Tryz.prog 78 #[.func (.yield l) #[] #[], .pointer (some ⟨Bn, 0, none⟩)] W fun e W' => (∃ v, e = .returned v) ∧
      ((∃ ys, ys = items s ∧ J ys W') ∨ (∃ pre, pre <+: items s ∧ Jx pre W')) := by
  have hc := hBn.cell
  have hz0 : nx s 0 = gp false s.data.toList := by rw [nx, List.drop_zero]; omega
  refine callsIn_of_wp Tryz.func78 rfl trivial ?_ rfl
  simp only [Tryz.ntmps78, List.size_toArray, List.length_cons, List.length_nil, Nat.reduceAdd, Nat.reduceSub, Array.replicate_succ, Array.replicate_zero, List.push_toArray, List.append_toArray, List.nil_append, List.cons_append]
  have HP := Lib.hid (passed_is hz0.symm hs)
  clear hz0
  gi_wp2_with (refine ⟨trivial, ?_⟩; gi_at_call 79; refine (callsIn_wide.2 (HP.out _)).mono ?_; rintro e w1 ⟨rfl, rfl⟩)
  gi_loopw [3] (fun p wr => ∃ (pre : List Item) (a f : Nat), p = .int .i64 (a : Int) ∧ a ≤ s.size ∧ Hid (s.size < a + f) ∧ Hid (items s = pre ++ its f s a) ∧ J pre wr ∧ Hid (On B wr) ∧ B ≤ wr.heap.size ∧ Boxed wr Bn 9 (.string s) ∧ D ≤ wr.heap.size)
    (fun p _ => s.size - (intOf p).toNat)
  case atStart => exact ⟨[], nx s 0, s.size + 1, rfl, nx_le s 0 (by omega), Lib.hid (by omega), Lib.hid rfl, h0, Lib.hid hO, hBB, hBn, hD⟩
  case round =>
    obtain ⟨pre, a, f, rfl, ha, Hf, HI, hJs, HO, hB1, hBx, hD1⟩ := hrel
    have hc := hBx.cell
    by_cases hlt : a < s.size
    · obtain ⟨x, hx⟩ : ∃ x, s.extract a s.size = x := ⟨_, rfl⟩
      have hxs : x.size = s.size - a := by rw [← hx, size_extract]; omega
      obtain ⟨r, hr⟩ : ∃ r, tok x = r := ⟨_, rfl⟩
      have HX := Lib.hid hxs
      have HR := Lib.hid hr
      clear hr hxs
      by_cases he : r.e = 0
      · have HE := Lib.hid he
        obtain ⟨g, hg1, hg2⟩ := its_ok (f := f) hlt Hf.out (by rw [hx, HR.out]; exact he)
        rw [hx, HR.out] at hg1 hg2
        have hrl := rest_long s a hlt (by rw [hx, HR.out]; exact he)
        rw [hx, HR.out] at hrl
        have hit : items s = (pre ++ [(r, a)]) ++ its g s (nx s (a + r.long)) := by rw [HI.out, hg2]; simp
        have HIT := Lib.hid hit
        have HG := Lib.hid hg1
        have hlen : pre.length < (items s).length := by rw [hit]; simp
        obtain ⟨y, hy'⟩ : ∃ y, s.extract (a + r.long) s.size = y := ⟨_, rfl⟩
        have hyl : gp false y.data.toList = gp false (s.data.toList.drop (a + r.long)) := by rw [← hy', drop_list]
        have hys : y.size ≤ 140737488351232 := by rw [← hy', size_extract]; omega
        have HY2 := Lib.hid (passed_is hyl hys)
        have hnx : nx s (a + r.long) = a + r.long + gp false (s.data.toList.drop (a + r.long)) := rfl
        have hnl := nx_le s (a + r.long) (by omega)
        rw [hnx] at HIT HG hnl
        have hng := gp_le (s.data.toList.drop (a + r.long)) false
        obtain ⟨q, hq⟩ : ∃ q, gp false (s.data.toList.drop (a + r.long)) = q := ⟨_, rfl⟩
        rw [hq] at HIT HG hnl HY2
        clear hit hg1 hg2 hyl hys hnx hng hq
        gi_wp2_with (refine ⟨trivial, ?_⟩; gi_at_call 80; refine (callsIn_wide.2 (first_is HR.out (by rw [HX.out]; omega) (by rw [HX.out]; omega) _ HO.out hB1)).mono ?_; rintro e w1 ⟨rfl, hb1⟩; have hb := hb1.alloc hb1.size (.cells #[.int .i64 r.k, .string r.t, .int .i64 r.n, .int .i64 (a : Int)] 63); have HBB := Lib.hid hb; obtain ⟨fn, tmps, assign, body, hy, hR⟩ := hY pre (r, a) _ (hJ pre _ _ none hJs (grown_below hb none) (fun r e => by cases e)) hlen; have HRR := Lib.hid hR; clear hR hb hb1; dsimp only [enc] at hy; rw [HE.out] at hy)
        refine HRR.out.mono ?_
        rintro e W3 (⟨rfl, hJ3, hk3⟩ | ⟨rfl, hJx3⟩)
        · have hBx3 : Boxed W3 Bn 9 (.string s) := by
            have h1 : W3.heap[Bn]? = _ := hk3.2
            have h2 := HBB.out.block Bn hBx.lt
            exact h1.trans (h2.trans hBx)
          have hc3 := hBx3.cell
          have HO3 : Hid (On B W3) := Lib.hid ((HO.out.on (HBB.out.mono hB1)).on hk3.1)
          have hs3 := hk3.1.size
          have hs4 := HBB.out.size
          have hB3 : B ≤ W3.heap.size := by omega
          have hD3 : D ≤ W3.heap.size := by omega
          clear hs3 hs4 hk3
          gi_wp2_with (refine ⟨trivial, ?_⟩; gi_at_call 79; refine (callsIn_wide.2 (HY2.out _)).mono ?_; rintro e w1 ⟨rfl, rfl⟩)
          go_roundw
          case rel => exact ⟨pre ++ [(r, a)], a + r.long + q, g, by go_num, by omega, HG, HIT, hJ3, HO3, hB3, hBx3, hD3⟩
          case measure => simp [intOf]; omega
        · gi_wp2
          refine bodyPost_ret (results_none rfl _ _ _) rfl ?_
          exact ⟨⟨_, rfl⟩, .inr ⟨pre ++ [(r, a)], by rw [HIT.out]; exact List.prefix_append _ _, hJx3⟩⟩
      · have hne : (r.e != 0) = true := by simpa using he
        have hit : items s = pre ++ [(r, a)] := by rw [HI.out, its_bad hlt Hf.out (by rw [hx, HR.out]; exact he), hx, HR.out]
        have HIT := Lib.hid hit
        have hlen : pre.length < (items s).length := by rw [hit]; simp
        clear hit
        gi_wp2_with (refine ⟨trivial, ?_⟩; gi_at_call 80; refine (callsIn_wide.2 (first_is HR.out (by rw [HX.out]; omega) (by rw [HX.out]; omega) _ HO.out hB1)).mono ?_; rintro e w1 ⟨rfl, hb1⟩; have hb := hb1.alloc hb1.size (.cells #[.int .i64 r.k, .string r.t, .int .i64 r.n, .int .i64 (a : Int)] 63); have HBB := Lib.hid hb; obtain ⟨fn, tmps, assign, body, hy, hR⟩ := hY pre (r, a) _ (hJ pre _ _ none hJs (grown_below hb none) (fun r e => by cases e)) hlen; have HRR := Lib.hid hR; clear hR hb hb1; dsimp only [enc] at hy)
        refine HRR.out.mono ?_
        rintro e W3 (⟨rfl, hJ3, hk3⟩ | ⟨rfl, hJx3⟩)
        · gi_wp2
          refine bodyPost_ret (results_none rfl _ _ _) rfl ?_
          exact ⟨⟨_, rfl⟩, .inl ⟨_, HIT.out.symm, hJ3⟩⟩
        · gi_wp2
          refine bodyPost_ret (results_none rfl _ _ _) rfl ?_
          exact ⟨⟨_, rfl⟩, .inr ⟨pre ++ [(r, a)], by rw [HIT.out]; exact List.prefix_refl _, hJx3⟩⟩
    · have hit : items s = pre := by rw [HI.out, its_end hlt, List.append_nil]
      gi_wp2
      go_end0
      exact ⟨⟨_, rfl⟩, .inl ⟨pre, hit.symm, hJs⟩⟩
end Go.Proofs.YtjakeidbajkdcaaGreatDoor.L
