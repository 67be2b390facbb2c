/- Joined by program: PTell. -/
import Derived.Test.YtjakeidbajkdcaaGreatDoorG15
import Derived.RangeFuncNested
import Derived.RangeFuncBound
import Derived.RangeFuncCalls
import Derived.RangeFuncLeaves
import Derived.Shelf.Abstract
import Derived.Shelf.RegionOpen
import Derived.WalkKit
import Derived.OwnWalkIn
import Derived.TacticsInMore
import Derived.LoopNIn
import Derived.LoopIn
/- tell, the program's: all that is below a node, told to a function, one by one; for every loop's body. -/
namespace Go.Proofs.YtjakeidbajkdcaaGreatDoor.T
open Go.RowKit Go.Shelf
attribute [local go_sem] Oper.semAt_some
/-- What a round that goes on keeps: what lay below n0, and each block of cells, but for those of nodes, and two. -/
def Kq (n0 bs bn : Nat) (A C : World) : Prop := Below n0 A C ∧ ∀ (b : Nat) (cs : Array Value) (t : TypeId) (fr : Nat × Nat), b ≠ bs → b ≠ bn → t ≠ 37 → A.heap[b]? = some (.cells cs t fr) → C.heap[b]? = some (.cells cs t fr)
theorem Kq.refl (n0 bs bn : Nat) (A : World) : Kq n0 bs bn A A := ⟨Below.refl _ _, fun _ _ _ _ _ _ _ h => h⟩
theorem Kq.trans {n0 bs bn : Nat} {X Y Z : World} (h : Kq n0 bs bn X Y) (k : Kq n0 bs bn Y Z) : Kq n0 bs bn X Z := ⟨h.1.trans k.1, fun b cs t fr h1 h2 h3 h4 => k.2 b cs t fr h1 h2 h3 (h.2 b cs t fr h1 h2 h3 h4)⟩
theorem Kq.of_below {n0 bs bn : Nat} {A C : World} (h : Below A.heap.size A C) (hn : n0 ≤ A.heap.size) : Kq n0 bs bn A C := ⟨h.mono hn, fun b _cs _t _fr _ _ _ h4 => (h.block b (Array.getElem?_eq_some_iff.1 h4).1).trans h4⟩
theorem grown_belowK {w w' : World} (h : Below w.heap.size w w') (row : Option Nat) : w.grownBy w' row := ⟨h.os, h.tape, h.output, h.size, fun k hk _ => h.block k hk⟩
/-- Places as places of L nodes. -/
def fin (L : Nat) (ms : List Nat) : List (Fin L) := ms.filterMap fun m => if h : m < L then some ⟨m, h⟩ else none
theorem fin_app (L : Nat) (a b : List Nat) : fin L (a ++ b) = fin L a ++ fin L b := List.filterMap_append ..
theorem fin_one {L m : Nat} (h : m < L) : fin L [m] = [⟨m, h⟩] := by simp [fin, h]
theorem fin_len (L : Nat) (ms : List Nat) : (fin L ms).length ≤ ms.length := List.length_filterMap_le ..
theorem fin_val {L : Nat} {ms : List Nat} (h : ∀ m ∈ ms, m < L) : (fin L ms).map Fin.val = ms := by
  induction ms with
  | nil => rfl
  | cons m ms ih =>
    have h1 := h m (by simp)
    have h2 := ih fun k hk => h k (by simp [hk])
    simp [fin, h1] at h2 ⊢
    exact h2
def encP {L : Nat} (x : Fin L) : Array Value := #[.int .i64 ((x.1 : Nat) : Int)]
theorem YieldAt.anyDepth {F : Fence} (hd : F.depth = none) {m : Nat} (m' : Nat) {P : Program} {l : Nat} {args : Array Value} {W : World} {R : Ending → World → Prop} (h : YieldAt F m P l args W R) : YieldAt F m' P l args W R := by
  obtain ⟨fn, tmps, assign, body, hy, hR⟩ := h
  exact ⟨fn, tmps, assign, body, hy, ⟨hR.1, fun c cs _ => hR.2 c cs (fun d h => by rw [hd] at h; cases h)⟩⟩
set_option maxRecDepth 100000 in
set_option maxHeartbeats 8000000 in
theorem tell_in (l : List Nd) (L c b o : Nat) (HL : Hid (l.length = L)) (_hL : L ≤ 100000) (hko : Hid (kidsOk l)) (HLL : Hid (∀ x ∈ l, x.l.length ≤ 1000000)) (lr n0 bs bn D N : Nat) (hb : b < n0) (J Jx : List (Fin L) → World → Prop) (hJ : AbidesFrom D J)
    (hY : ∀ m pre x W, J pre W → pre.length < N → YieldAt Fence.wide m Tryz.prog lr (encP x) W fun e W' => (e = .returned (.bool true) ∧ J (pre ++ [x]) W' ∧ Kq n0 bs bn W W') ∨ (e = .returned (.bool false) ∧ Jx (pre ++ [x]) W')) :
    ∀ i, i < L → ∀ (n : Nat) (pre : List (Fin L)) (W : World), NdsAt n0 W b o l → n0 ≤ W.heap.size → D ≤ W.heap.size → bs < W.heap.size → bn < W.heap.size → J pre W → pre.length + (fin L (post l i)).length ≤ N →
      CallsIn Fence.wide n Tryz.prog 102 #[.agg #[.slice (some ⟨b, o, none⟩) L c], .int .i64 (i : Int), .func (.yield lr) #[] #[]] W fun e W' =>
        (e = .returned (.bool true) ∧ J (pre ++ fin L (post l i)) W' ∧ Kq n0 bs bn W W') ∨ (e = .returned (.bool false) ∧ ∃ q, q <+: fin L (post l i) ∧ Jx (pre ++ q) W') := by
  intro i
  induction i using Nat.strongRecOn with
  | ind i ih =>
    intro hi n pre W hN hn0 hD hbs hbn hJ0 hNN
    obtain ⟨x, hx⟩ : ∃ x, l[i]? = some x := ⟨_, List.getElem?_eq_getElem (by rw [HL.out]; exact hi)⟩
    have ha := hko.out i x hx
    rw [post_eq hx ha, fin_app, fin_one hi] at hNN ⊢
    obtain ⟨fv, hfl, m0, m1, m2, m3, m4, m5, m6, m7, m8⟩ := hN i x hx
    have HFL : Hid (Flds W.heap.size W fv x.l) := Lib.hid (hfl.mono hn0)
    obtain ⟨FA, fc, rfl, _⟩ := hfl
    have hbW : b < W.heap.size := by omega
    have hb1 := (Below.refl W.heap.size W).alloc (Nat.le_refl _) (.cells #[.slice (some ⟨b, o, none⟩) L c] 25)
    have HKD := Lib.hid (pkids_any x (.slice FA x.l.length fc) (W.alloc (.cells #[.slice (some ⟨b, o, none⟩) L c] 25)) (Nat.le_refl _) ((HFL.out.below hb1).mono hb1.size) (HLL.out x (List.mem_of_getElem? hx)))
    have HB1 := Lib.hid hb1
    have hkl : (kids x).length ≤ 1000003 := by have := kids_len x; have := HLL.out x (List.mem_of_getElem? hx); omega
    obtain ⟨K, hK⟩ : ∃ K, kids x = K := ⟨_, rfl⟩
    rw [hK] at HKD hkl hNN ⊢
    have HAH : Hid (∀ m ∈ K, 0 ≤ m ∧ m < (i : Int)) := Lib.hid (by rw [← hK]; exact ha)
    clear hx ha hK hb1
    have hdd : ∀ k : Nat, (Fence.wide.depth.isSome = true → 1 ≤ k) := fun k h => by cases h
    refine callsIn_of_wp Tryz.func102 rfl trivial ?_ rfl
    simp only [Tryz.ntmps102, List.size_toArray, List.length_cons, List.length_nil, Nat.reduceAdd, Nat.reduceSub, Array.replicate_succ, Array.replicate_zero, List.push_toArray, List.append_toArray, List.nil_append, List.cons_append]
    gi_wp2_with (refine ⟨trivial, hdd _, ?_⟩; gi_at_call 61; refine (callsIn_wide.2 HKD.out).mono ?_; rintro e w5 ⟨gk, ck, rfl, hi5, hb5⟩; have HI5 := Lib.hid hi5; have HB5 := Lib.hid hb5; clear hi5 hb5)
    obtain ⟨w1, hw1⟩ : ∃ w1, W.alloc (.cells #[.slice (some ⟨b, o, none⟩) L c] 25) = w1 := ⟨_, rfl⟩
    have hs1 : w1.heap.size = W.heap.size + 1 := by rw [← hw1, World.size_alloc]
    rw [hw1] at HI5 HB5 HB1
    have hx1 : w1.heap[W.heap.size]? = some (.cells #[.slice (some ⟨b, o, none⟩) L c] 25) := by rw [← hw1]; exact heap_alloc_new W _
    have HX5 : Hid (w5.heap[W.heap.size]? = some (.cells #[.slice (some ⟨b, o, none⟩) L c] 25)) := Lib.hid ((HB5.out.block _ (by omega)).trans hx1)
    have hgk := HI5.out.lt gk rfl
    rw [hs1] at hgk
    obtain ⟨cur, hcur⟩ : ∃ cur, w5.heap[gk]? = some (.cells cur 3 (0, 0)) := by
      rcases HI5.out.2 with ⟨h, _⟩ | ⟨g', cap', cur, h, _, hh, _⟩
      · cases h
      · cases h; exact ⟨cur, hh⟩
    have HCUR := Lib.hid hcur
    have HRW : Hid (∀ (W2 : World), W2.heap[gk]? = some (.cells cur 3 (0, 0)) → Row0 W2 gk K) := Lib.hid (fun W2 h2 j z hz => by
      rw [Blk_cell h2, ← Blk_cell hcur]
      exact ints_cells HI5.out j z hz)
    have HB05 := Lib.hid ((HB1.out.trans (HB5.out.mono (by omega))))
    have HJ5 : Hid (J pre w5) := Lib.hid (hJ pre W w5 none hJ0 (grown_belowK HB05.out none) (fun r e => by cases e))
    have HQ5 : Hid (Kq n0 bs bn W w5) := Lib.hid (Kq.of_below HB05.out hn0)
    clear hcur hx1 hw1 HI5 HB5 HB1 HKD m0 m1 m2 m3 m4 m5 m6 m7 m8 HFL
    have HN0 := Lib.hid hN
    have HNN := Lib.hid hNN
    clear hN hNN
    gi_loopw [16] (fun v wr => ∃ j : Nat, v = .int .i64 (j : Int) ∧ j ≤ K.length ∧ J (pre ++ fin L ((K.take j).flatMap fun k => post l k.toNat)) wr ∧ Hid (wr.heap[W.heap.size]? = some (.cells #[.slice (some ⟨b, o, none⟩) L c] 25)) ∧ Hid (wr.heap[gk]? = some (.cells cur 3 (0, 0))) ∧ Hid (Kq n0 bs bn W wr) ∧ W.heap.size ≤ wr.heap.size) (fun v _ => K.length - (intOf v).toNat)
    case atStart => exact ⟨0, rfl, Nat.zero_le _, by simpa [fin] using HJ5.out, HX5, HCUR, HQ5, HB05.out.size⟩
    case round =>
      obtain ⟨j, rfl, hj, hJr, HX, HG, HQ, hsr⟩ := hrel
      have hcx : wr.cell? ⟨W.heap.size, 0, none⟩ = some (.slice (some ⟨b, o, none⟩) L c) := (Blk_cell HX.out 0).trans rfl
      by_cases hlt : j < K.length
      · obtain ⟨k, hk⟩ : ∃ k, K[j]? = some k := ⟨_, List.getElem?_eq_getElem hlt⟩
        have hck := HRW.out wr HG.out j k hk
        obtain ⟨h0, h1⟩ := HAH.out k (List.mem_of_getElem? hk)
        have HKK := Lib.hid hk
        clear hk
        obtain ⟨q, rfl⟩ := Int.eq_ofNat_of_zero_le h0
        have hqi : q < i := by omega
        have HNXT : Hid ((K.take (j + 1)).flatMap (fun k => post l k.toNat) = ((K.take j).flatMap fun k => post l k.toNat) ++ post l q) := Lib.hid (by rw [take_snoc K j _ HKK.out, List.flatMap_append]; simp)
        have HALL : Hid (∃ rest, K.flatMap (fun k => post l k.toNat) = ((K.take j).flatMap fun k => post l k.toNat) ++ (post l q ++ rest)) := Lib.hid (by
          refine ⟨(K.drop (j + 1)).flatMap fun k => post l k.toNat, ?_⟩
          rw [← List.append_assoc, ← HNXT.out, ← List.flatMap_append, List.take_append_drop])
        have hlen : (pre ++ fin L ((K.take j).flatMap fun k => post l k.toNat)).length + (fin L (post l q)).length ≤ N := by
          obtain ⟨rest, hr⟩ := HALL.out
          have := HNN.out
          rw [hr, fin_app, fin_app] at this
          simp only [List.length_append, List.length_singleton] at this ⊢
          omega
        have HIH := Lib.hid (ih q hqi (by omega) (n - 1) _ wr (HN0.out.below HQ.out.1 hb) (by omega) (by omega) (by omega) (by omega) hJr hlen)
        gi_wp2_with (refine ⟨trivial, hdd _, ?_⟩; gi_at_call 102; refine HIH.out.mono ?_; clear HIH; rintro e W1 (⟨rfl, hJ1, hk1⟩ | ⟨rfl, q', hq', hx1⟩))
        · go_roundw
          case rel => exact ⟨j + 1, by go_num, by omega, by rw [HNXT.out, fin_app, ← List.append_assoc]; exact hJ1, Lib.hid (hk1.2 _ _ _ _ (by omega) (by omega) (by decide) HX.out), Lib.hid (hk1.2 _ _ _ _ (by omega) (by omega) (by decide) HG.out), Lib.hid (HQ.out.trans hk1), by have := hk1.1.size; have := (Array.getElem?_eq_some_iff.1 (hk1.2 _ _ _ _ (by omega : W.heap.size ≠ bs) (by omega) (by decide) HX.out)).1; omega⟩
          case measure => simp [intOf]; omega
        · go_ret
          refine .inr ⟨rfl, fin L ((K.take j).flatMap fun k => post l k.toNat) ++ q', ?_, by rw [← List.append_assoc]; exact hx1⟩
          obtain ⟨rest, hr⟩ := HALL.out
          obtain ⟨r2, hr2⟩ := hq'
          rw [hr, fin_app, fin_app, ← hr2]
          exact ⟨r2 ++ fin L rest ++ [⟨i, hi⟩], by simp [List.append_assoc]⟩
      · obtain rfl : j = K.length := by omega
        rw [List.take_length] at hJr
        have hlen : (pre ++ fin L (K.flatMap fun k => post l k.toNat)).length < N := by
          have := HNN.out
          simp only [List.length_append, List.length_singleton] at this ⊢
          omega
        obtain ⟨fn, tmps, assign, body, hy, hR⟩ := hY (n - 1) _ ⟨i, hi⟩ wr hJr hlen
        dsimp only [encP] at hy
        have HRR := Lib.hid hR
        clear hR
        gi_wp2_with (refine ⟨hdd _, ?_⟩; refine HRR.out.mono ?_; clear HRR; rintro e W2 (⟨rfl, hJ2, hk2⟩ | ⟨rfl, hx2⟩))
        · go_ret
          exact .inl ⟨rfl, by simpa [List.append_assoc] using hJ2, HQ.out.trans hk2⟩
        · go_ret
          exact .inr ⟨rfl, _, List.prefix_refl _, by simpa [List.append_assoc] using hx2⟩
set_option maxHeartbeats 2000000 in
theorem below1_in (l : List Nd) (L c b o : Nat) (HL : Hid (l.length = L)) (hL : L ≤ 100000) (hko : Hid (kidsOk l)) (HLL : Hid (∀ x ∈ l, x.l.length ≤ 1000000)) (lr n0 bs bn D : Nat) (hb : b < n0) (i : Nat) (hi : i < L) (n : Nat) (J Jx : List (Fin L) → World → Prop) (hJ : AbidesFrom D J)
    (hY : ∀ pre x W, J pre W → pre.length < (fin L (post l i)).length → YieldAt Fence.wide (n - 1) Tryz.prog lr (encP x) W fun e W' => (e = .returned (.bool true) ∧ J (pre ++ [x]) W' ∧ Kq n0 bs bn W W') ∨ (e = .returned (.bool false) ∧ Jx (pre ++ [x]) W'))
    (W : World) (hN : NdsAt n0 W b o l) (hn0 : n0 ≤ W.heap.size) (hD : D ≤ W.heap.size) (hbs : bs < W.heap.size) (hbn : bn < W.heap.size) (be bi : Nat) (hce : W.cell? ⟨be, 0, none⟩ = some (.slice (some ⟨b, o, none⟩) L c)) (hci : W.cell? ⟨bi, 0, none⟩ = some (.int .i64 (i : Int))) (h0 : J [] W) :
    CallsIn Fence.wide n Tryz.prog 101 #[.func (.yield lr) #[] #[], .pointer (some ⟨be, 0, none⟩), .pointer (some ⟨bi, 0, none⟩)] W fun e W' => (∃ v, e = .returned v) ∧
      ((∃ ys, ys = fin L (post l i) ∧ J ys W') ∨ (∃ pre, pre <+: fin L (post l i) ∧ Jx pre W')) := by
  have HT := Lib.hid (tell_in l L c b o HL hL hko HLL lr n0 bs bn D _ hb J Jx hJ (fun m pre x W h1 h2 => YieldAt.anyDepth rfl m (hY pre x W h1 h2)) i hi (n - 1) [] W hN hn0 hD hbs hbn h0 (by simp))
  have hdd : ∀ k : Nat, (Fence.wide.depth.isSome = true → 1 ≤ k) := fun k h => by cases h
  refine callsIn_of_wp Tryz.func101 rfl trivial ?_ rfl
  simp only [Tryz.ntmps101, List.size_toArray, List.length_cons, List.length_nil, Nat.reduceAdd, Nat.reduceSub, Array.replicate_succ, Array.replicate_zero, List.push_toArray, List.append_toArray, List.nil_append, List.cons_append]
  gi_wp2_with (refine ⟨trivial, hdd _, ?_⟩; gi_at_call 102; refine HT.out.mono ?_; clear HT; rintro e W1 (⟨rfl, hJ1, _⟩ | ⟨rfl, q, hq, hx⟩))
  · go_end0
    exact ⟨⟨_, rfl⟩, .inl ⟨_, rfl, by simpa using hJ1⟩⟩
  · go_end0
    exact ⟨⟨_, rfl⟩, .inr ⟨q, hq, by simpa using hx⟩⟩
set_option maxHeartbeats 1000000 in
theorem below_in (n : Nat) (v : Value) (A : Option Addr) (L c : Nat) (hv : v = .slice A L c) (i : Int) (w : World) :
    CallsIn Fence.wide n Tryz.prog 60 #[.agg #[v], .int .i64 i] w fun e w' => e = .returned (.func (.func 101) #[] #[.pointer (some ⟨w.heap.size, 0, none⟩), .pointer (some ⟨w.heap.size + 1, 0, none⟩)]) ∧ w' = (w.alloc (.cells #[v] 25)).alloc (.cells #[.int .i64 i] 3) := by
  subst hv
  refine callsIn_of_wp Tryz.func60 rfl trivial ?_ rfl
  simp only [Tryz.ntmps60, List.size_toArray, List.length_cons, List.length_nil, Nat.reduceAdd, Nat.reduceSub, Array.replicate_succ, Array.replicate_zero, List.push_toArray, List.append_toArray, List.nil_append, List.cons_append]
  gi_wp2
  go_ret
  exact ⟨rfl, rfl⟩
theorem below_stops (l : List Nd) (L c b o : Nat) (HL : Hid (l.length = L)) (hL : L ≤ 100000) (hko : Hid (kidsOk l)) (HLL : Hid (∀ x ∈ l, x.l.length ≤ 1000000)) (n0 bs bn : Nat) (hb : b < n0) (i : Nat) (hi : i < L) (n : Nat) (w : World) (hN : NdsAt n0 w b o l) (hn0 : n0 ≤ w.heap.size) (hbs : bs < w.heap.size) (hbn : bn < w.heap.size) (be bi : Nat) (hbe : be < w.heap.size) (hbi : bi < w.heap.size) (hce : w.cell? ⟨be, 0, none⟩ = some (.slice (some ⟨b, o, none⟩) L c)) (hci : w.cell? ⟨bi, 0, none⟩ = some (.int .i64 (i : Int))) :
    SeqStopsK Fence.wide n Tryz.prog 101 #[.pointer (some ⟨be, 0, none⟩), .pointer (some ⟨bi, 0, none⟩)] (encP (L := L)) (Kq n0 bs bn) (fun ys => ys = fin L (post l i)) (fun pre => pre <+: fin L (post l i)) (fin L (post l i)).length w := fun lr J Jx W hW hJ _ hY h0 =>
  below1_in l L c b o HL hL hko HLL lr n0 bs bn W.heap.size hb i hi n J Jx hJ hY W (hN.below (hW.mono hn0) hb) (Nat.le_trans hn0 hW.size) (Nat.le_refl _) (Nat.lt_of_lt_of_le hbs hW.size) (Nat.lt_of_lt_of_le hbn hW.size) be bi ((hW.cell (p := ⟨be, 0, none⟩) hbe).trans hce) ((hW.cell (p := ⟨bi, 0, none⟩) hbi).trans hci) h0
end Go.Proofs.YtjakeidbajkdcaaGreatDoor.T
