/- Joined by program. -/
import Derived.Test.YtjakeidbajkdcaaGreatDoorH33
import Derived.RangeFuncNested
import Derived.RangeFuncBound
import Derived.RangeFuncCalls
import Derived.RangeFuncLeaves
import Derived.Shelf.Abstract
import Derived.Shelf.RegionOpen
import Derived.WalkKit
import Derived.OwnWalkIn
import Derived.TacticsInMore
import Derived.LoopNIn
import Derived.LoopIn
import Derived.Maps.AppendAt
import Derived.KernelRfl
set_option maxRecDepth 100000
set_option maxHeartbeats 4000000
namespace Go.Proofs.YtjakeidbajkdcaaGreatDoor.L
open Go.RowKit Go.Shelf
attribute [local go_sem] Oper.semAt_some
def Kp (B Bn : Nat) (A C : World) : Prop := Below B A C /\ C.heap[Bn]? = A.heap[Bn]?
theorem Kp.trans {B Bn : Nat} {X Y Z : World} (h : Kp B Bn X Y) (k : Kp B Bn Y Z) : Kp B Bn X Z := ⟨h.1.trans k.1, k.2.trans h.2⟩
theorem grown_below {w w' : World} (h : Below w.heap.size w w') (row : Option Nat) : w.grownBy w' row := ⟨h.os, h.tape, h.output, h.size, fun k hk _ => h.block k hk⟩
def enc (x : Item) : Array Value := #[.agg #[.int .i64 x.1.k, .string x.1.t, .int .i64 x.1.n, .int .i64 (x.2 : Int)], .int .i64 x.1.e]
theorem tokens_in (n : Nat) (s : ByteArray) (w : World) :
    CallsIn Fence.wide n Tryz.prog 44 #[.string s] w fun e w' => e = .returned (.func (.func 78) #[] #[.pointer (some ⟨w.heap.size, 0, none⟩)]) /\ w' = w.alloc (.cells #[.string s] 9) := by
  refine callsIn_of_wp Tryz.func44 rfl trivial ?_ rfl
  simp only [Tryz.ntmps44, List.size_toArray, List.length_cons, List.length_nil, Nat.reduceAdd, Nat.reduceSub, Array.replicate_succ, Array.replicate_zero, List.push_toArray, List.append_toArray, List.nil_append, List.cons_append]
  gi_wp2
  go_ret
  exact ⟨rfl, rfl⟩
theorem first_is {B : Nat} {s : ByteArray} {r : R} (hr : tok s = r) (hs : s.size <= 140737488351232) (h0 : 0 < s.size) (w : World) (hO : On B w) (hB : B <= w.heap.size) :
    Calls Tryz.prog 80 #[.string s] w fun e w' => e = .returned (.tuple #[.agg #[.int .i64 r.k, .string r.t, .int .i64 r.n, .int .i64 0], .int .i64 (r.long : Int), .int .i64 r.e]) /\ Below w.heap.size w w' := by
  subst hr
  exact first_any s hs h0 w (Nat.le_refl _) (hO.up hB)
theorem iter_in (n : Nat) (hn : 1 <= n) (l Bn B : Nat) (s : ByteArray) (hs : s.size <= 140737488351232) (J Jx : List Item -> World -> Prop) (W : World) (hO : On B W) (hBB : B <= W.heap.size) (hBn : Boxed W Bn 9 (.string s)) (D : Nat) (hD : D <= W.heap.size) (hJ : AbidesFrom D J)
    (hY : ∀ pre x W, J pre W -> pre.length < (items s).length -> YieldAt Fence.wide (n - 1) Tryz.prog l (enc x) W fun e W' =>
      (e = .returned (.bool true) /\ J (pre ++ [x]) W' /\ Kp B Bn W W') ∨ (e = .returned (.bool false) /\ Jx (pre ++ [x]) W'))
    (h0 : J [] W) :
    CallsIn Fence.wide n Tryz.prog 78 #[.func (.yield l) #[] #[], .pointer (some ⟨Bn, 0, none⟩)] W fun e W' => (∃ v, e = .returned v) /\
      ((∃ ys, ys = items s /\ J ys W') ∨ (∃ pre, pre <+: items s /\ Jx pre W')) := by
  have hc := hBn.cell
  have hz0 : nx s 0 = gp false s.data.toList := by rw [nx, List.drop_zero]; omega
  refine callsIn_of_wp Tryz.func78 rfl trivial ?_ rfl
  simp only [Tryz.ntmps78, List.size_toArray, List.length_cons, List.length_nil, Nat.reduceAdd, Nat.reduceSub, Array.replicate_succ, Array.replicate_zero, List.push_toArray, List.append_toArray, List.nil_append, List.cons_append]
  have HP := Lib.hid (passed_is hz0.symm hs)
  clear hz0
  gi_wp2_with (refine ⟨trivial, ?_⟩; gi_at_call 79; refine (callsIn_wide.2 (HP.out _)).mono ?_; rintro e w1 ⟨rfl, rfl⟩)
  gi_loopw [3] (fun p wr => ∃ (pre : List Item) (a f : Nat), p = .int .i64 (a : Int) /\ a <= s.size /\ Hid (s.size < a + f) /\ Hid (items s = pre ++ its f s a) /\ J pre wr /\ Hid (On B wr) /\ B <= wr.heap.size /\ Boxed wr Bn 9 (.string s) /\ D <= wr.heap.size)
    (fun p _ => s.size - (intOf p).toNat)
  case atStart => exact ⟨[], nx s 0, s.size + 1, rfl, nx_le s 0 (by omega), Lib.hid (by omega), Lib.hid rfl, h0, Lib.hid hO, hBB, hBn, hD⟩
  case round =>
    obtain ⟨pre, a, f, rfl, ha, Hf, HI, hJs, HO, hB1, hBx, hD1⟩ := hrel
    have hc := hBx.cell
    by_cases hlt : a < s.size
    · obtain ⟨x, hx⟩ : ∃ x, s.extract a s.size = x := ⟨_, rfl⟩
      have hxs : x.size = s.size - a := by rw [<- hx, size_extract]; omega
      obtain ⟨r, hr⟩ : ∃ r, tok x = r := ⟨_, rfl⟩
      have HX := Lib.hid hxs
      have HR := Lib.hid hr
      clear hr hxs
      by_cases he : r.e = 0
      · have HE := Lib.hid he
        obtain ⟨g, hg1, hg2⟩ := its_ok (f := f) hlt Hf.out (by rw [hx, HR.out]; exact he)
        rw [hx, HR.out] at hg1 hg2
        have hrl := rest_long s a hlt (by rw [hx, HR.out]; exact he)
        rw [hx, HR.out] at hrl
        have hit : items s = (pre ++ [(r, a)]) ++ its g s (nx s (a + r.long)) := by rw [HI.out, hg2]; simp
        have HIT := Lib.hid hit
        have HG := Lib.hid hg1
        have hlen : pre.length < (items s).length := by rw [hit]; simp
        obtain ⟨y, hy'⟩ : ∃ y, s.extract (a + r.long) s.size = y := ⟨_, rfl⟩
        have hyl : gp false y.data.toList = gp false (s.data.toList.drop (a + r.long)) := by rw [<- hy', drop_list]
        have hys : y.size <= 140737488351232 := by rw [<- hy', size_extract]; omega
        have HY2 := Lib.hid (passed_is hyl hys)
        have hnx : nx s (a + r.long) = a + r.long + gp false (s.data.toList.drop (a + r.long)) := rfl
        have hnl := nx_le s (a + r.long) (by omega)
        rw [hnx] at HIT HG hnl
        have hng := gp_le (s.data.toList.drop (a + r.long)) false
        obtain ⟨q, hq⟩ : ∃ q, gp false (s.data.toList.drop (a + r.long)) = q := ⟨_, rfl⟩
        rw [hq] at HIT HG hnl HY2
        clear hit hg1 hg2 hyl hys hnx hng hq
        gi_wp2_with (refine ⟨trivial, ?_⟩; gi_at_call 80; refine (callsIn_wide.2 (first_is HR.out (by rw [HX.out]; omega) (by rw [HX.out]; omega) _ HO.out hB1)).mono ?_; rintro e w1 ⟨rfl, hb1⟩; have hb := hb1.alloc hb1.size (.cells #[.int .i64 r.k, .string r.t, .int .i64 r.n, .int .i64 (a : Int)] 63); have HBB := Lib.hid hb; obtain ⟨fn, tmps, assign, body, hy, hR⟩ := hY pre (r, a) _ (hJ pre _ _ none hJs (grown_below hb none) (fun r e => by cases e)) hlen; have HRR := Lib.hid hR; clear hR hb hb1; dsimp only [enc] at hy; rw [HE.out] at hy)
        refine HRR.out.mono ?_
        rintro e W3 (⟨rfl, hJ3, hk3⟩ | ⟨rfl, hJx3⟩)
        · have hBx3 : Boxed W3 Bn 9 (.string s) := by
            have h1 : W3.heap[Bn]? = _ := hk3.2
            have h2 := HBB.out.block Bn hBx.lt
            exact h1.trans (h2.trans hBx)
          have hc3 := hBx3.cell
          have HO3 : Hid (On B W3) := Lib.hid ((HO.out.on (HBB.out.mono hB1)).on hk3.1)
          have hs3 := hk3.1.size
          have hs4 := HBB.out.size
          have hB3 : B <= W3.heap.size := by omega
          have hD3 : D <= W3.heap.size := by omega
          clear hs3 hs4 hk3
          gi_wp2_with (refine ⟨trivial, ?_⟩; gi_at_call 79; refine (callsIn_wide.2 (HY2.out _)).mono ?_; rintro e w1 ⟨rfl, rfl⟩)
          go_roundw
          case rel => exact ⟨pre ++ [(r, a)], a + r.long + q, g, by go_num, by omega, HG, HIT, hJ3, HO3, hB3, hBx3, hD3⟩
          case measure => simp [intOf]; omega
        · gi_wp2
          refine bodyPost_ret (results_none rfl _ _ _) rfl ?_
          exact ⟨⟨_, rfl⟩, .inr ⟨pre ++ [(r, a)], by rw [HIT.out]; exact List.prefix_append _ _, hJx3⟩⟩
      · have hne : (r.e != 0) = true := by simpa using he
        have hit : items s = pre ++ [(r, a)] := by rw [HI.out, its_bad hlt Hf.out (by rw [hx, HR.out]; exact he), hx, HR.out]
        have HIT := Lib.hid hit
        have hlen : pre.length < (items s).length := by rw [hit]; simp
        clear hit
        gi_wp2_with (refine ⟨trivial, ?_⟩; gi_at_call 80; refine (callsIn_wide.2 (first_is HR.out (by rw [HX.out]; omega) (by rw [HX.out]; omega) _ HO.out hB1)).mono ?_; rintro e w1 ⟨rfl, hb1⟩; have hb := hb1.alloc hb1.size (.cells #[.int .i64 r.k, .string r.t, .int .i64 r.n, .int .i64 (a : Int)] 63); have HBB := Lib.hid hb; obtain ⟨fn, tmps, assign, body, hy, hR⟩ := hY pre (r, a) _ (hJ pre _ _ none hJs (grown_below hb none) (fun r e => by cases e)) hlen; have HRR := Lib.hid hR; clear hR hb hb1; dsimp only [enc] at hy)
        refine HRR.out.mono ?_
        rintro e W3 (⟨rfl, hJ3, hk3⟩ | ⟨rfl, hJx3⟩)
        · gi_wp2
          refine bodyPost_ret (results_none rfl _ _ _) rfl ?_
          exact ⟨⟨_, rfl⟩, .inl ⟨_, HIT.out.symm, hJ3⟩⟩
        · gi_wp2
          refine bodyPost_ret (results_none rfl _ _ _) rfl ?_
          exact ⟨⟨_, rfl⟩, .inr ⟨pre ++ [(r, a)], by rw [HIT.out]; exact List.prefix_refl _, hJx3⟩⟩
    · have hit : items s = pre := by rw [HI.out, its_end hlt, List.append_nil]
      gi_wp2
      go_end0
      exact ⟨⟨_, rfl⟩, .inl ⟨pre, hit.symm, hJs⟩⟩
open Go.RowKit Go.Shelf
attribute [local go_sem] Oper.semAt_some
def Blk (W : World) (B : Nat) (cs : Array Value) (t : TypeId) : Prop := W.heap[B]? = some (.cells cs t (0, 0))
theorem Blk.lt {W : World} {B : Nat} {cs : Array Value} {t : TypeId} (h : Blk W B cs t) : B < W.heap.size := (Array.getElem?_eq_some_iff.1 h).1
theorem Blk.cell {W : World} {B : Nat} {cs : Array Value} {t : TypeId} (h : Blk W B cs t) (j : Nat) : W.cell? ⟨B, j, none⟩ = cs[j]? := by simp [World.cell?, show W.heap[B]? = _ from h]
theorem Blk.new (W : World) (t : TypeId) (cs : Array Value) : Blk (W.alloc (.cells cs t)) W.heap.size cs t := World.alloc_heap_new W _
theorem blk_own {β : Type} (B : Nat) (t : TypeId) (f : β -> Array Value) : Own (fun s W => Blk W B (f s) t) := fun s X Y row hs hg hrow =>
  (hg.block B hs.lt (fun e' => by obtain ⟨o, ho, hc⟩ := hrow B e'.symm; rw [show X.heap[B]? = _ from hs] at ho; cases ho; cases hc)).trans hs
theorem tokInfo : (Tryz.prog.info? 63).map (fun i => (i.zero, i.size, i.bytes)) = some (some (.agg #[.int .i64 0, .string ⟨#[]⟩, .int .i64 0, .int .i64 0]), 4, 40) := by kernel_rfl
def AllPost (s : ByteArray) (B : Nat) (w : World) (e : Ending) (w' : World) : Prop :=
  ∃ v, e = .returned (.tuple #[v, .int .i64 (place s), .int .i64 (err s)]) /\ w'.ownsRow B 63 4 v (toks s).length (cellsL (toks s)) /\ Below B w w'
def II (s : ByteArray) (w : World) (pre : List Item) (W : World) : Prop :=
  ((((∃ v, Boxed W (w.heap.size + 1 + 1 + 1) 45 v /\ W.ownsRow w.heap.size 63 4 v pre.length (cellsL pre) /\ True) /\ (∀ x ∈ pre, x.1.e = 0)) /\ Boxed W w.heap.size 45 (.slice none 0 0)) /\ (Boxed W (w.heap.size + 1) 3 (.int .i64 0) /\ (Boxed W (w.heap.size + 1 + 1) 26 (.int .i64 0) /\ Boxed W (w.heap.size + 1 + 1 + 1 + 1) 9 (.string s)))) /\ Below w.heap.size w W
def IX (w : World) (c : Code) (pre : List Item) (W : World) : Prop :=
  ((c = .ret /\ (∃ p x, pre = p ++ [x] /\ (∀ y ∈ p, y.1.e = 0) /\ x.1.e ≠ 0 /\ Boxed W (w.heap.size + 1) 3 (.int .i64 (x.2 : Int)) /\ Boxed W (w.heap.size + 1 + 1) 26 (.int .i64 x.1.e))) /\ Boxed W w.heap.size 45 (.slice none 0 0)) /\ Below w.heap.size w W
theorem ii_own (s : ByteArray) (w : World) (B : Nat) (hB : w.heap.size <= B) : OwnFrom B (II s w) := by
  unfold II
  exact OwnFrom.and (OwnFrom.and (OwnFrom.and (OwnFrom.and (Own.from (holdsRow_own w.heap.size (w.heap.size + 1 + 1 + 1) 45 63 4 (fun pre : List Item => pre.length) cellsL (fun _ _ => True)) _) (ownFrom_pure _ _)) (Own.from (boxed_own _ _ (fun _ => _)) _)) (OwnFrom.and (Own.from (boxed_own _ _ (fun _ => _)) _) (OwnFrom.and (Own.from (boxed_own _ _ (fun _ => _)) _) (Own.from (boxed_own _ _ (fun _ => _)) _)))) (ownFrom_below (Nat.le_refl _) hB)
theorem ix_own (w : World) (c : Code) (B : Nat) (hB : w.heap.size <= B) : OwnFrom B (IX w c) := by
  unfold IX
  refine OwnFrom.and (OwnFrom.and ?_ (Own.from (boxed_own _ _ (fun _ => _)) _)) (ownFrom_below (Nat.le_refl _) hB)
  rintro pre X Y row ⟨hc, p, x, h1, h2, h3, h4, h5⟩ hg hr
  exact ⟨hc, p, x, h1, h2, h3, boxed_own _ _ (fun _ : Unit => _) () X Y row h4 hg (fun r e => (hr r e).2), boxed_own _ _ (fun _ : Unit => _) () X Y row h5 hg (fun r e => (hr r e).2)⟩
theorem kp_b {B Bn : Nat} {w : World} (hB : B <= w.heap.size) (hBn : Bn < w.heap.size) (W : World) (l : Nat) (o o' : Obj) (hl : w.heap.size <= l) (h : W.heap[l]? = some o) (h1 : o.isCells = false) (h2 : o.isWalk = false) : Kp B Bn W (W.putObj l o') :=
  ⟨belowK_b hB W l o o' hl h h1 h2, World.putObj_heap_other (by omega)⟩
theorem iter_stops (n : Nat) (hn : 1 <= n) (Bn B : Nat) (s : ByteArray) (hs : s.size <= 140737488351232) (w : World) (hO : On B w) (hB : B <= w.heap.size) (hBn : Boxed w Bn 9 (.string s)) :
    SeqStopsK Fence.wide n Tryz.prog 78 #[.pointer (some ⟨Bn, 0, none⟩)] enc (Kp B Bn) (fun ys => ys = items s) (fun pre => pre <+: items s) (items s).length w := fun l J Jx W hW hJ _ hY h0 =>
  iter_in n hn l Bn B s hs J Jx W (hO.on (hW.mono hB)) (Nat.le_trans hB hW.size) ((hW.block Bn hBn.lt).trans hBn) W.heap.size (Nat.le_refl _) hJ hY h0
theorem new_cells (W : World) (t : TypeId) (l : List Value) (j : Nat) (u : Value) (h : l[j]? = some u) : (W.alloc (.cells l.toArray t)).cell? ((⟨W.heap.size, 0, none⟩ : Addr).add j) = some u := by
  rw [Addr.add_lit, Nat.zero_add, Blk.cell (Blk.new W t l.toArray)]
  simpa using h
theorem one1 (x : Item) : ∀ u ∈ cellsOf1 x, u.oneCell' = true := fun u hu => by
  simp [cellsOf1] at hu
  rcases hu with rfl | rfl | rfl | rfl <;> rfl
theorem all_in (n : Nat) (hn : 3 <= n) (s : ByteArray) (hs : s.size <= 1000000) (w : World) (hO : On w.heap.size w) :
    CallsIn Fence.wide n Tryz.prog 24 #[.string s] w (AllPost s w.heap.size w) := by
  have h1 : 1 <= n := by omega
  obtain ⟨i0, hi, hz0, hz1, hz2⟩ := info_parts tokInfo
  refine callsIn_of_wp_marks Tryz.func24 rfl trivial ?_ rfl
  simp only [Tryz.ntmps24, List.size_toArray, List.length_cons, List.length_nil, Nat.reduceAdd, Nat.reduceSub, Array.replicate_succ, Array.replicate_zero, List.push_toArray, List.append_toArray, List.nil_append, List.cons_append]
  gi_wp2_with (refine ⟨trivial, ?_⟩; gi_at_call 44; refine (tokens_in (n - 1) _ _).mono ?_; rintro e w' ⟨rfl, rfl⟩)
  have b2 := ((((Boxed.new w 45 (.slice none 0 0)).alloc (.cells #[.int .i64 0] 3)).alloc (.cells #[.int .i64 0] 26)).alloc (.cells #[.slice none 0 0] 45)).alloc (.cells #[.string s] 9)
  have b3 := (((Boxed.new (w.alloc (.cells #[.slice none 0 0] 45)) 3 (.int .i64 0)).alloc (.cells #[.int .i64 0] 26)).alloc (.cells #[.slice none 0 0] 45)).alloc (.cells #[.string s] 9)
  have b4 := ((Boxed.new ((w.alloc (.cells #[.slice none 0 0] 45)).alloc (.cells #[.int .i64 0] 3)) 26 (.int .i64 0)).alloc (.cells #[.slice none 0 0] 45)).alloc (.cells #[.string s] 9)
  have b5 := (Boxed.new (((w.alloc (.cells #[.slice none 0 0] 45)).alloc (.cells #[.int .i64 0] 3)).alloc (.cells #[.int .i64 0] 26)) 45 (.slice none 0 0)).alloc (.cells #[.string s] 9)
  have b9 := Boxed.new ((((w.alloc (.cells #[.slice none 0 0] 45)).alloc (.cells #[.int .i64 0] 3)).alloc (.cells #[.int .i64 0] 26)).alloc (.cells #[.slice none 0 0] 45)) 9 (.string s)
  simp only [World.size_alloc] at b3 b4 b5 b9
  have hB0 : Below w.heap.size w (((((w.alloc (.cells #[.slice none 0 0] 45)).alloc (.cells #[.int .i64 0] 3)).alloc (.cells #[.int .i64 0] 26)).alloc (.cells #[.slice none 0 0] 45)).alloc (.cells #[.string s] 9)) := (((((Below.refl _ w).alloc (Nat.le_refl _) _).alloc (by simp) _).alloc (by simp; omega) _).alloc (by simp; omega) _).alloc (by simp; omega) _
  have hsz : (((((w.alloc (.cells #[.slice none 0 0] 45)).alloc (.cells #[.int .i64 0] 3)).alloc (.cells #[.int .i64 0] 26)).alloc (.cells #[.slice none 0 0] 45)).alloc (.cells #[.string s] 9)).heap.size = w.heap.size + 5 := by simp
  obtain ⟨W0, hW0⟩ : ∃ W0, ((((w.alloc (.cells #[.slice none 0 0] 45)).alloc (.cells #[.int .i64 0] 3)).alloc (.cells #[.int .i64 0] 26)).alloc (.cells #[.slice none 0 0] 45)).alloc (.cells #[.string s] 9) = W0 := ⟨_, rfl⟩
  rw [hW0] at b2 b3 b4 b5 b9 hB0 hsz ⊢
  clear hW0
  refine wpIn_rangeFunc_ownH (α := Item) rfl h1 (gf := 78) (lb := #[.pointer (some ⟨w.heap.size + 1 + 1 + 1 + 1, 0, none⟩)]) rfl trivial (enters_of Tryz.func78 (by kernel_rfl) rfl)
    (iter_stops (n - 1) (by omega) (w.heap.size + 1 + 1 + 1 + 1) w.heap.size s (by omega) W0 (hO.on hB0) hB0.size b9) Kp.trans (kp_b (by omega) (by omega)) (Below.refl _ _) (fun _ => rfl)
    (II s w) (IX w) (ii_own s w _ (by omega)) (fun c => ix_own w c _ (by omega))
    ⟨⟨⟨⟨⟨_, b5, World.ownsRow_nil _ _ _ _, trivial⟩, by simp⟩, b2⟩, b3, b4, b9⟩, hB0⟩
    (fun x a' W => ∃ Bx, w.heap.size + 1 + 1 + 1 + 1 < Bx /\ Blk W Bx #[.int .i64 x.1.k, .string x.1.t, .int .i64 x.1.n, .int .i64 (x.2 : Int)] 63 /\ a' = { tmps := #[.string s, undef, .pointer (some ⟨w.heap.size, 0, none⟩), .pointer (some ⟨w.heap.size + 1, 0, none⟩), .pointer (some ⟨w.heap.size + 1 + 1, 0, none⟩), .pointer (some ⟨w.heap.size + 1 + 1 + 1, 0, none⟩), .pointer (some ⟨Bx, 0, none⟩), .int .i64 x.1.e, .string s, .func (.func 78) #[] #[.pointer (some ⟨w.heap.size + 1 + 1 + 1 + 1, 0, none⟩)], .agg #[.int .i64 x.1.k, .string x.1.t, .int .i64 x.1.n, .int .i64 (x.2 : Int)], .int .i64 x.1.e, undef, undef, undef, undef, undef, undef, undef, undef, undef, undef, undef, undef], defers := [] })
    (fun x a' _ X Y row hs hg hr => by obtain ⟨Bx, h1, h2, h3⟩ := hs; exact ⟨Bx, h1, blk_own Bx 63 (fun (_ : Unit) => _) () X Y row h2 hg (fun r e => (hr r e).2), h3⟩)
    ?assign ?body ?done ?stop
  case assign =>
    rintro l pre x W K ⟨⟨⟨⟨⟨v, bL, hrow, _⟩, hg⟩, bR⟩, b3, b4, b9⟩, hB⟩ hK
    simp only [enc]
    gi_wp2
    exact hK _ _ ((KeepsOthers.alloc _ _).from _) ⟨(Below.refl _ W).alloc hB.size _, Below.heap_alloc _ _ _ b9.lt⟩ ⟨⟨⟨⟨⟨v, bL.alloc _, hrow.alloc _, trivial⟩, hg⟩, bR.alloc _⟩, b3.alloc _, b4.alloc _, b9.alloc _⟩, hB.alloc hB.size _⟩ ⟨W.heap.size, b9.lt, Blk.new W 63 _, rfl⟩
  case body =>
    rintro l pre x a' W hl ⟨r, hr⟩ ⟨⟨⟨⟨⟨v, bL, hrow, _⟩, hg⟩, bR⟩, b3, b4, b9⟩, hB⟩ ⟨Bx, hBx, bX, rfl⟩ hlt
    obtain ⟨⟨k, t, m, lg, e⟩, pos⟩ := x
    have hX0 : W.cell? ⟨Bx, 0, none⟩ = some (.int .i64 k) := (bX.cell 0).trans rfl
    have hX1 : W.cell? ⟨Bx, 1, none⟩ = some (.string t) := (bX.cell 1).trans rfl
    have hX2 : W.cell? ⟨Bx, 2, none⟩ = some (.int .i64 m) := (bX.cell 2).trans rfl
    have hX3 : W.cell? ⟨Bx, 3, none⟩ = some (.int .i64 (pos : Int)) := (bX.cell 3).trans rfl
    have c2 := bR.cell
    have f2 := bR.frozen
    have c3 := b3.cell
    have f3 := b3.frozen
    have c4 := b4.cell
    have f4 := b4.frozen
    have c5 := bL.cell
    have f5 := bL.frozen
    by_cases he : e = 0
    · subst he
      have hne : ((0 : Int) != 0) = false := rfl
      have hpl : pre.length < 1000000 := by have := items_len s; omega
      have HC : Hid (∀ j u, (cellsOf1 (⟨k, t, m, lg, 0⟩, pos))[j]? = some u -> (W.alloc (.cells #[.int .i64 k, .string t, .int .i64 m, .int .i64 (pos : Int)] 63)).cell? ((⟨W.heap.size, 0, none⟩ : Addr).add j) = some u) := Lib.hid fun j u h => new_cells W 63 (cellsOf1 (⟨k, t, m, lg, 0⟩, pos)) j u h
      gi_wp2_with (gi_at_builtin; refine wpListIn_append_own _ rfl _ _ 45 rfl w.heap.size 63 i0 (.agg #[.int .i64 0, .string ⟨#[]⟩, .int .i64 0, .int .i64 0]) 4 40 Tryz.underlying45 hi hz0 hz1 hz2 rfl (by decide) _ _ _ rfl (hrow.alloc _) ⟨W.heap.size, 0, none⟩ 1 1 (cellsOf1 (⟨k, t, m, lg, 0⟩, pos)) rfl rfl HC.out (one1 _) (by unfold maxLen; omega) (by omega) (by have := hB.size; simp; omega) ?_; intro v' w1 hown' hgrow _; obtain ⟨g', cap', rfl⟩ := ownsRow_succ hown'; obtain ⟨hv1, hv2, hr2, hk2, hb2⟩ := bL.appended (by decide) hrow hB.size (by omega) hown' hgrow; have hc1 := hv1.cell; have hf1 := hv1.frozen)
      have b9' := ((b9.alloc _).kept hgrow (b9.not_row (by decide) hrow)).other (B' := w.heap.size + 1 + 1 + 1) (by omega) (.slice (some ⟨g', 0, none⟩) (pre.length + 1) cap')
      refine ⟨hk2.from _, ⟨hb2, b9'.trans b9.symm⟩, ⟨⟨⟨⟨_, hv2, ?_, trivial⟩, ?_⟩, ((bR.alloc _).kept hgrow (bR.not_row (by decide) hrow)).other (by omega) _⟩, ((b3.alloc _).kept hgrow (b3.not_row (by decide) hrow)).other (by omega) _, ((b4.alloc _).kept hgrow (b4.not_row (by decide) hrow)).other (by omega) _, b9'⟩, hB.trans hb2⟩
      · rw [cells_snoc, List.length_append, List.length_singleton]; exact hr2
      · intro x hx
        rcases List.mem_append.1 hx with h | h
        · exact hg x h
        · rw [List.mem_singleton.1 h]
    · have hne : (e != 0) = true := by simpa using he
      have hmx : Tryz.prog.follows .mixedOrders = true := by kernel_rfl
      gi_wp2
      gi_region_o
      all_goals gi_wp2
      all_goals exact ⟨((((KeepsOthers.setCell _ _ _).trans (KeepsOthers.setCell _ _ _)).trans (KeepsOthers.setCell _ _ _)).trans (KeepsOthers.drew _)).from _,
        ⟨⟨rfl, pre, _, rfl, hg, he, ((b3.other (by omega) _).set _).other (by omega) _, ((b4.other (by omega) _).other (by omega) _).set _⟩, ((bR.set _).other (by omega) _).other (by omega) _⟩,
        (((hB.setCell (p := ⟨w.heap.size, 0, none⟩) (Nat.le_refl _) _).setCell (p := ⟨w.heap.size + 1, 0, none⟩) (by simp) _).setCell (p := ⟨w.heap.size + 1 + 1, 0, none⟩) (by simp; omega) _).drew⟩
  case done =>
    rintro D ys W hD rfl ⟨⟨⟨⟨⟨v, bL, hrow, _⟩, hg⟩, bR⟩, b3, b4, b9⟩, hB⟩ hK
    obtain ⟨A, nn, cc, rfl⟩ : ∃ A nn cc, v = .slice A nn cc := by
      rcases hrow.2 with ⟨rfl, _⟩ | ⟨g, cap, cur, rfl, _⟩
      · exact ⟨_, _, _, rfl⟩
      · exact ⟨_, _, _, rfl⟩
    have c2 := bR.cell
    have f2 := bR.frozen
    have c3 := b3.cell
    have f3 := b3.frozen
    have c4 := b4.cell
    have f4 := b4.frozen
    have c5 := bL.cell
    have f5 := bL.frozen
    gi_wp2
    have hD' : w.heap.size + 5 <= D := by omega
    have hK' := (((KeepsOthers.setCell W ⟨w.heap.size, 0, none⟩ (.slice A nn cc)).trans (KeepsOthers.setCell _ ⟨w.heap.size + 1, 0, none⟩ (.int .i64 (s.size : Int)))).trans (KeepsOthers.setCell _ ⟨w.heap.size + 1 + 1, 0, none⟩ (.int .i64 0))).same D _ hK rfl
    refine ⟨by simp, .inl ⟨_, _, rfl, run_takeDeferred hK', ?_⟩⟩
    have e2 := ((((bR.set (.slice A nn cc)).other (B' := w.heap.size + 1) (by omega) (.int .i64 (s.size : Int))).other (B' := w.heap.size + 1 + 1) (by omega) (.int .i64 0)).kept (grownBy_putObj' _ D (.deferred none)) (by simp; omega)).cell
    have e3 := ((((b3.other (B' := w.heap.size) (by omega) (.slice A nn cc)).set (.int .i64 (s.size : Int))).other (B' := w.heap.size + 1 + 1) (by omega) (.int .i64 0)).kept (grownBy_putObj' _ D (.deferred none)) (by simp; omega)).cell
    have e4 := ((((b4.other (B' := w.heap.size) (by omega) (.slice A nn cc)).other (B' := w.heap.size + 1) (by omega) (.int .i64 (s.size : Int))).set (.int .i64 0)).kept (grownBy_putObj' _ D (.deferred none)) (by simp; omega)).cell
    obtain ⟨t1, t2, t3⟩ := no_wrong rfl hg
    have r1 := hrow.kept (grownBy_setCell' W w.heap.size (.slice A nn cc)) (.inr (bR.not_row (by decide) hrow).symm)
    have r2 := r1.kept (grownBy_setCell' _ (w.heap.size + 1) (.int .i64 (s.size : Int))) (.inr ((b3.other (B' := w.heap.size) (by omega) (.slice A nn cc)).not_row (by decide) r1).symm)
    have r3 := r2.kept (grownBy_setCell' _ (w.heap.size + 1 + 1) (.int .i64 0)) (.inr (((b4.other (B' := w.heap.size) (by omega) (.slice A nn cc)).other (B' := w.heap.size + 1) (by omega) (.int .i64 (s.size : Int))).not_row (by decide) r2).symm)
    refine ⟨.tuple #[.slice A nn cc, .int .i64 (s.size : Int), .int .i64 0], ?_, .slice A nn cc, by rw [t2, t3], ?_, ?_⟩
    · simp [results, Tryz.f24, go_sem, e2, e3, e4]
    · rw [t1]; exact ownsRow_putObj r3 _ hK' rfl
    · exact (((hB.setCell (p := ⟨w.heap.size, 0, none⟩) (Nat.le_refl _) _).setCell (p := ⟨w.heap.size + 1, 0, none⟩) (by simp) _).setCell (p := ⟨w.heap.size + 1 + 1, 0, none⟩) (by simp; omega) _).trans (belowK_b (w := w) (Nat.le_refl _) _ D _ _ (by omega) hK' rfl rfl)
  case stop =>
    rintro D c pre W hD hpre ⟨⟨⟨rfl, p, x, rfl, hg, hx, b3, b4⟩, bR⟩, hB⟩ hK
    gi_wp2
    have hD' : w.heap.size + 5 <= D := by omega
    refine ⟨by simp, .inl ⟨_, _, rfl, run_takeDeferred hK, ?_⟩⟩
    have e2 := (bR.kept (grownBy_putObj' _ D (.deferred none)) (by simp; omega)).cell
    have e3 := (b3.kept (grownBy_putObj' _ D (.deferred none)) (by simp; omega)).cell
    have e4 := (b4.kept (grownBy_putObj' _ D (.deferred none)) (by simp; omega)).cell
    obtain ⟨post, hpost⟩ := hpre
    obtain ⟨t1, t2, t3⟩ := is_wrong (s := s) (pre := p) (x := x) (post := post) (by rw [<- hpost]; simp) hg hx
    refine ⟨.tuple #[.slice none 0 0, .int .i64 (x.2 : Int), .int .i64 x.1.e], ?_, .slice none 0 0, by rw [t2, t3], ?_, ?_⟩
    · simp [results, Tryz.f24, go_sem, e2, e3, e4]
    · rw [t1]; exact World.ownsRow_nil _ _ _ _
    · exact hB.trans (belowK_b (w := w) (Nat.le_refl _) _ D _ _ (by omega) hK rfl rfl)
theorem all_any (s : ByteArray) (hs : s.size <= 1000000) (w : World) (hO : On w.heap.size w) : Calls Tryz.prog 24 #[.string s] w (AllPost s w.heap.size w) :=
  callsIn_wide.1 (all_in 3 (Nat.le_refl _) s hs w hO)
open Go.RowKit
def ex : ByteArray := ⟨#[102, 117, 110, 32, 120, 32, 45, 62, 32, 49, 50]⟩
theorem ex_num : W.pv [49, 50] = 12 /\ W.pe [49, 50] = 0 := by
  have e : ([49, 50] : List UInt8) = W.wtext 12 := by kernel_rfl
  rw [e]
  exact W.pv_yes (by decide)
def exL : List Item := [(⟨1, ⟨#[102, 117, 110]⟩, 0, 3, 0⟩, 0), (⟨2, ⟨#[120]⟩, 0, 1, 0⟩, 4), (⟨7, ⟨#[45, 62]⟩, 0, 2, 0⟩, 6), (⟨4, ⟨#[]⟩, 12, 2, 0⟩, 9)]
theorem ex_items : items ex = exL := by kernel_rfl
theorem ex_all : toks ex = exL /\ place ex = 11 /\ err ex = 0 := no_wrong (s := ex) ex_items.symm (by decide)
end Go.Proofs.YtjakeidbajkdcaaGreatDoor.L
