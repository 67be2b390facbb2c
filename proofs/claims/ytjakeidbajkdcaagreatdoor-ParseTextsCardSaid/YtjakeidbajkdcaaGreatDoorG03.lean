/- Joined by program. -/
import Derived.Test.YtjakeidbajkdcaaGreatDoorG01
import Derived.Laws.AppendOwnNone
import Derived.RangeFuncBox
import Derived.Laws.CopyOwn
import Derived.Laws.CopyRow
set_option maxRecDepth 100000
set_option maxHeartbeats 4000000
namespace Go.Proofs.YtjakeidbajkdcaaGreatDoor.T
open Go.RowKit
def cut (x : Nd) : Nd := { x with l := x.l.take 60 }
def fCells (l : List Fld) : List Value := l.flatMap fun f => [.string f.nm, .string f.vr, .int .i64 f.pl]
theorem zit : ∀ (l : List Fld) (j : Nat) (f : Fld), l[j]? = some f -> (fCells l)[j * 3]? = some (.string f.nm) /\ (fCells l)[j * 3 + 1]? = some (.string f.vr) /\ (fCells l)[j * 3 + 2]? = some (.int .i64 f.pl)
 | [], _, _, h => by simp at h
 | y :: r, 0, f, h => by
  simp at h; subst h
  have e : fCells (y :: r) = [.string y.nm, .string y.vr, .int .i64 y.pl] ++ fCells r := by simp [fCells]
  rw [e]; simp
 | y :: r, j + 1, f, h => by
  have ih := zit r j f (by simpa using h)
  have e : fCells (y :: r) = [.string y.nm, .string y.vr, .int .i64 y.pl] ++ fCells r := by simp [fCells]
  rw [e]
  refine ⟨?_, ?_, ?_⟩
  ·rw [List.getElem?_append_right (by simp; omega), show (j + 1) * 3 - [Value.string y.nm, .string y.vr, .int .i64 y.pl].length = j * 3 by simp; omega]; exact ih.1
  ·rw [List.getElem?_append_right (by simp; omega), show (j + 1) * 3 + 1 - [Value.string y.nm, .string y.vr, .int .i64 y.pl].length = j * 3 + 1 by simp; omega]; exact ih.2.1
  ·rw [List.getElem?_append_right (by simp; omega), show (j + 1) * 3 + 2 - [Value.string y.nm, .string y.vr, .int .i64 y.pl].length = j * 3 + 2 by simp; omega]; exact ih.2.2
def OwnF (B : Nat) (W : World) (v : Value) (l : List Fld) : Prop := W.ownsRow B 97 3 v l.length (fCells l)
def nCells (l : List (Nd × Value)) : List Value := l.flatMap fun x => (ndArr x.1 x.2).toList
theorem zgj (l : List (Nd × Value)) (x : Nd × Value) : nCells (l ++ [x]) = nCells l ++ (ndArr x.1 x.2).toList := by simp [nCells]
def OwnN (B : Nat) (W : World) (v : Value) (l : List (Nd × Value)) : Prop := W.ownsRow B 37 9 v l.length (nCells l) /\ ∀ x ∈ l, OwnF B W x.2 x.1.l
theorem zef {W : World} {B1 B2 e1 e2 s1 s2 n1 n2 : Nat} {v1 v2 : Value} {x1 x2 : List Value} (h1 : W.ownsRow B1 e1 s1 v1 n1 x1) (h2 : W.ownsRow B2 e2 s2 v2 n2 x2) (hne : e1 ≠ e2) : v1.ownBlock = none ∨ v1.ownBlock ≠ v2.ownBlock := by
 rcases h1.2 with ⟨rfl, _⟩ | ⟨g, cap, cur, rfl, _, hg, _⟩
 ·exact .inl rfl
 ·refine .inr fun e => ?_
  rcases h2.2 with ⟨rfl, _⟩ | ⟨g', cap', cur', rfl, _, hg', _⟩
  ·simp [Value.ownBlock] at e
  ·simp [Value.ownBlock] at e
   subst e
   rw [hg] at hg'
   simp at hg'
   exact hne hg'.2
theorem fldInfo : (Tryz.prog.info? 97).map (fun i => (i.zero, i.size, i.bytes)) = some (some (.agg #[.string ⟨#[]⟩, .string ⟨#[]⟩, .int .i64 0]), 3, 40) := by kernel_rfl
theorem ndInfo : (Tryz.prog.info? 37).map (fun i => (i.zero, i.size, i.bytes)) = some (some (.agg #[.int .i64 0, .int .i64 0, .int .i64 0, .int .i64 0, .int .i64 0, .string ⟨#[]⟩, .string ⟨#[]⟩, .slice none 0 0, .int .i64 0]), 9, 104) := by kernel_rfl
open Go.RowKit
theorem zaa {W : World} {B : Nat} {cs : Array Value} {t : TypeId} (h : W.heap[B]? = some (.cells cs t (0, 0))) (j : Nat) : W.cell? ⟨B, j, none⟩ = cs[j]? := by simp [World.cell?, h]
theorem zac {W : World} {B : Nat} {cs : Array Value} {t : TypeId} (h : W.heap[B]? = some (.cells cs t (0, 0))) (j : Nat) : W.frozen? ⟨B, j, none⟩ = false := by simp [World.frozen?, h]
theorem zaj (W : World) (t : TypeId) (l : List Value) (p : Nat) (hp : p = W.heap.size) : ∀ (j : Nat) (u : Value), l[j]? = some u -> (W.alloc (.cells l.toArray t)).cell? ((⟨p, 0, none⟩ : Addr).add j) = some u := fun j u h => by
 subst hp
 rw [Addr.add_lit, Nat.zero_add, World.cell?, heap_alloc_new]
 simpa using h
theorem zoq (x : Nd) (A : Option Addr) (n c : Nat) : ∀ u ∈ (ndArr x (.slice A n c)).toList, u.oneCell' = true := fun u hu => by
 simp [ndArr] at hu
 rcases hu with rfl | rfl | rfl | rfl | rfl | rfl | rfl | rfl | rfl <;> rfl
theorem zad {W : World} {b : Nat} {x : Nd} {v : Value} (h : W.heap[b]? = some (.cells (ndArr x v) 37 (0, 0))) :
  W.cell? ⟨b, 0, none⟩ = some (.int .i64 x.kind) /\ W.cell? ⟨b, 1, none⟩ = some (.int .i64 x.a) /\ W.cell? ⟨b, 2, none⟩ = some (.int .i64 x.b) /\ W.cell? ⟨b, 3, none⟩ = some (.int .i64 x.c) /\ W.cell? ⟨b, 4, none⟩ = some (.int .i64 x.n) /\
   W.cell? ⟨b, 5, none⟩ = some (.string x.nm) /\ W.cell? ⟨b, 6, none⟩ = some (.string x.s) /\ W.cell? ⟨b, 7, none⟩ = some v /\ W.cell? ⟨b, 8, none⟩ = some (.int .i64 x.pos) :=
 ⟨zaa h 0, zaa h 1, zaa h 2, zaa h 3, zaa h 4, zaa h 5, zaa h 6, zaa h 7, zaa h 8⟩
theorem zcx {B : Nat} {W : World} {v : Value} {l : List Fld} (h : OwnF B W v l) : Flds W.heap.size W v l := by
 have hc := fun g (hg : v.ownBlock = some g) => World.ownsRow.cells h (g := g) hg
 rcases h.2 with ⟨rfl, h0⟩ | ⟨g, cap, cur, rfl, _, hh, hle, hmx, _⟩
 ·exact ⟨none, 0, by rw [h0], ⟨by omega, by omega⟩, fun _ => rfl, fun h => by omega⟩
 ·refine ⟨_, cap, rfl, ⟨hle, by unfold maxLen at hmx; exact hmx⟩, (fun h => by cases h), fun _ => ⟨g, 0, rfl, (age.1 hh).1, fun j f hj => ?_⟩⟩
  obtain ⟨c0, c1, c2⟩ := zit l j f hj
  have a0 := hc g rfl _ _ c0
  have a1 := hc g rfl _ _ c1
  have a2 := hc g rfl _ _ c2
  rw [Addr.add_lit] at a0 a1 a2
  exact ⟨a0, by rw [show 0 + j * 3 + 1 = 0 + (j * 3 + 1) by omega]; exact a1, by rw [show 0 + j * 3 + 2 = 0 + (j * 3 + 2) by omega]; exact a2⟩
theorem zi9 : ∀ (ps : List (Nd × Value)) (j : Nat) (p : Nd × Value), ps[j]? = some p -> ∀ f, f < 9 -> (nCells ps)[j * 9 + f]? = (ndArr p.1 p.2).toList[f]?
 | [], _, _, h, _, _ => by simp at h
 | y :: r, 0, p, h, f, hf => by
  simp at h; subst h
  have e : nCells (y :: r) = (ndArr y.1 y.2).toList ++ nCells r := by simp [nCells]
  rw [e, List.getElem?_append_left (by simp [ndArr]; omega), Nat.zero_mul, Nat.zero_add]
 | y :: r, j + 1, p, h, f, hf => by
  have ih := zi9 r j p (by simpa using h) f hf
  have e : nCells (y :: r) = (ndArr y.1 y.2).toList ++ nCells r := by simp [nCells]
  have hl : (ndArr y.1 y.2).toList.length = 9 := rfl
  rw [e, List.getElem?_append_right (by omega), hl, show (j + 1) * 9 + f - 9 = j * 9 + f by omega]
  exact ih
theorem zdg {v : Value} {ps : List (Nd × Value)} {B : Nat} {W : World} (h : OwnN B W v ps) : Nodes W.heap.size W v (ps.map Prod.fst) := by
 have hc := fun g (hg : v.ownBlock = some g) => World.ownsRow.cells h.1 (g := g) hg
 rcases h.1.2 with ⟨rfl, h0⟩ | ⟨g, cap, cur, rfl, _, hh, hle, hmx, _⟩
 ·exact ⟨none, 0, by rw [List.length_map, h0], ⟨by rw [List.length_map]; omega, by omega⟩, fun _ => rfl, fun h => by rw [List.length_map] at h; omega⟩
 ·refine ⟨_, cap, by rw [List.length_map], ⟨by rw [List.length_map]; exact hle, by unfold maxLen at hmx; exact hmx⟩, (fun h => by cases h), fun _ => ⟨g, 0, rfl, (age.1 hh).1, fun j x hj => ?_⟩⟩
  rw [List.getElem?_map] at hj
  obtain ⟨p, hp, rfl⟩ := Option.map_eq_some_iff.1 hj
  have e : ∀ f u, f < 9 -> (ndArr p.1 p.2).toList[f]? = some u -> W.cell? ⟨g, 0 + j * 9 + f, none⟩ = some u := fun f u hf hu => by
   have a := hc g rfl (j * 9 + f) u (by rw [zi9 ps j p hp f hf]; exact hu)
   rw [Addr.add_lit] at a
   rw [show 0 + j * 9 + f = 0 + (j * 9 + f) by omega]; exact a
  exact ⟨p.2, zcx (h.2 p (lme hp)), e 0 _ (by omega) rfl, e 1 _ (by omega) rfl, e 2 _ (by omega) rfl, e 3 _ (by omega) rfl, e 4 _ (by omega) rfl, e 5 _ (by omega) rfl, e 6 _ (by omega) rfl, e 7 _ (by omega) rfl, e 8 _ (by omega) rfl⟩
open Go.RowKit
def ownN (k : Int) : Nat := if k = 5 ∨ k = 12 ∨ k = 13 ∨ k = 14 then 1 else if k = 6 ∨ k = 7 ∨ k = 8 ∨ k = 10 then 2 else if k = 9 then 3 else 0
def partsB (k : Int) : Bool := decide (k = 11 ∨ k = 14)
theorem znw (k : Int) : ownN k <= 3 := by unfold ownN; split; omega; split; omega; split <;> omega
theorem neI {k m : Int} (h : k ≠ m) : (k == m) = false := by simpa using h
theorem zj7 (k : Int) (w : World) : Calls Tryz.prog 103 #[.int .i64 k] w fun e w' => e = .returned (.int .i64 (ownN k : Nat)) /\ w = w' := by
 by_cases h1 : k = 5 ∨ k = 12 ∨ k = 13 ∨ k = 14
 ·rcases h1 with rfl | rfl | rfl | rfl
  all_goals
   go_enter Tryz.func103, Tryz.ntmps103
   go_wp2
   go_ret
   exact ⟨rfl, rfl⟩
 ·by_cases h2 : k = 6 ∨ k = 7 ∨ k = 8 ∨ k = 10
  ·rcases h2 with rfl | rfl | rfl | rfl
   all_goals
    go_enter Tryz.func103, Tryz.ntmps103
    go_wp2
    go_ret
    exact ⟨rfl, rfl⟩
  ·by_cases h3 : k = 9
   ·subst h3
    go_enter Tryz.func103, Tryz.ntmps103
    go_wp2
    go_ret
    exact ⟨rfl, rfl⟩
   ·have e : ownN k = 0 := by unfold ownN; rw [if_neg h1, if_neg h2, if_neg h3]
    rw [e]
    have q1 := neI (k := k) (m := 5) (by omega)
    have q2 := neI (k := k) (m := 12) (by omega)
    have q3 := neI (k := k) (m := 13) (by omega)
    have q4 := neI (k := k) (m := 14) (by omega)
    have q5 := neI (k := k) (m := 6) (by omega)
    have q6 := neI (k := k) (m := 7) (by omega)
    have q7 := neI (k := k) (m := 8) (by omega)
    have q8 := neI (k := k) (m := 10) (by omega)
    have q9 := neI (k := k) (m := 9) (by omega)
    clear h1 h2 h3 e
    go_enter Tryz.func103, Tryz.ntmps103
    go_wp2
    go_ret
    exact ⟨rfl, rfl⟩
theorem zip (k : Int) (w : World) : Calls Tryz.prog 104 #[.int .i64 k] w fun e w' => e = .returned (.bool (partsB k)) /\ w = w' := by
 by_cases h1 : k = 11
 ·subst h1
  go_enter Tryz.func104, Tryz.ntmps104
  go_wp2
  go_ret
  exact ⟨rfl, rfl⟩
 ·by_cases h2 : k = 14
  ·subst h2
   go_enter Tryz.func104, Tryz.ntmps104
   go_wp2
   go_ret
   exact ⟨rfl, rfl⟩
  ·have e : partsB k = false := by unfold partsB; exact decide_eq_false (by omega)
   rw [e]
   have q1 := neI h1
   have q2 := neI h2
   clear h1 h2 e
   go_enter Tryz.func104, Tryz.ntmps104
   go_wp2
   go_ret
   exact ⟨rfl, rfl⟩
theorem zbe {k : Int} {m : Nat} (h : ownN k = m) (w : World) : Calls Tryz.prog 103 #[.int .i64 k] w fun e w' => e = .returned (.int .i64 (m : Int)) /\ w = w' := by subst h; exact zj7 k w
theorem zbt {k : Int} {b : Bool} (h : partsB k = b) (w : World) : Calls Tryz.prog 104 #[.int .i64 k] w fun e w' => e = .returned (.bool b) /\ w = w' := by subst h; exact zip k w
theorem zd0 {B g n : Nat} {W : World} {l : List Int} (h : W.heap[g]? = some (.cells (l.map (Value.int .i64)).toArray 3)) (hB : B <= g) (hn : n = l.length) (hm : l.length <= maxLen) : Ints B W (.slice (some ⟨g, 0, none⟩) n n) l := by
 subst hn
 exact ⟨by simp, .inr ⟨g, l.length, _, rfl, hB, h, lrf _, hm, by simp, by rw [Nat.mul_one]; exact List.take_of_length_le (by simp)⟩⟩
theorem zdc {α : Type} (L cs : List α) (h : L.length = cs.length) : splice L 0 cs = cs := by
 unfold splice
 simp [h]
theorem oneInt {l : List Int} : ∀ v ∈ l.map (Value.int .i64), v.oneCell' = true := fun v hv => by
 obtain ⟨i, _, rfl⟩ := List.mem_map.1 hv
 rfl
theorem zle (x : Nd) : kids0 x = [x.a, x.b, x.c].take (ownN x.kind) := by
 unfold kids0 ownN
 split
 ·rfl
 ·split
  ·rfl
  ·split <;> rfl
theorem sz3 : (Tryz.prog.info? 3).map (·.size) = some 1 := by kernel_rfl
theorem mk0 (w : World) : (Instr.makeSlice 74 (.int .i64 0) (.int .i64 0)).run Tryz.prog w = .ok (.slice (some ⟨w.heap.size, 0, none⟩) 0 0) (w.alloc (.cells #[] 3)) := by kernel_rfl
theorem mk1 (w : World) : (Instr.makeSlice 74 (.int .i64 1) (.int .i64 1)).run Tryz.prog w = .ok (.slice (some ⟨w.heap.size, 0, none⟩) 1 1) (w.alloc (.cells #[.int .i64 0] 3)) := by kernel_rfl
theorem mk2 (w : World) : (Instr.makeSlice 74 (.int .i64 2) (.int .i64 2)).run Tryz.prog w = .ok (.slice (some ⟨w.heap.size, 0, none⟩) 2 2) (w.alloc (.cells #[.int .i64 0, .int .i64 0] 3)) := by kernel_rfl
theorem mk3 (w : World) : (Instr.makeSlice 74 (.int .i64 3) (.int .i64 3)).run Tryz.prog w = .ok (.slice (some ⟨w.heap.size, 0, none⟩) 3 3) (w.alloc (.cells #[.int .i64 0, .int .i64 0, .int .i64 0] 3)) := by kernel_rfl
theorem ze5 (W : World) (g dl dc : Nat) (A : Addr) (sl sc : Nat) (cur cs : List Value) (t : TypeId) (hg : W.heap[g]? = some (.cells cur.toArray t)) (hn : cs.length = Nat.min sl dl)
  (hsrc : ∀ (j : Nat) (v : Value), cs[j]? = some v -> W.cell? (A.add j) = some v) (hfit : cs.length <= cur.length) (h1 : ∀ v ∈ cs, v.oneCell' = true) :
  ∃ W', Sem.run Tryz.prog (Builtin.copy_ #[74, 74] 3 #[.slice (some ⟨g, 0, none⟩) dl dc, .slice (some A) sl sc]) W = .ok (.int .i64 (cs.length : Int)) W' /\ W'.heap[g]? = some (.cells (splice cur 0 cs).toArray t) /\ Below g W W' /\ ∀ k, k ≠ g -> W'.heap[k]? = W.heap[k]? := by
 refine ⟨_, run_copy_row Tryz.prog W 74 74 3 3 g 0 dl dc A sl sc cur.toArray t cs Tryz.underlying74 sz3 hg hn hsrc (by simpa using hfit) h1, ?_, below_setRow (br g W) (lrf g) _, fun k hk => setRow_other W g k _ hk⟩
 have h := setRow_heap W g _ (cur.toArray.toList.take 0 ++ cs ++ cur.toArray.toList.drop (0 + cs.length)).toArray t (0, 0) hg
 rw [h]
 simp [splice]
theorem arr3 (w : World) (a b c : Int) (m j : Nat) (v : Value) (hv : (([a, b, c].take m).map (Value.int .i64))[j]? = some v) : (w.alloc (.cells #[.int .i64 a, .int .i64 b, .int .i64 c] 115)).cell? ((⟨w.heap.size, 0, none⟩ : Addr).add j) = some v :=
 zaj w 115 [.int .i64 a, .int .i64 b, .int .i64 c] w.heap.size rfl j v (by
  rw [List.map_take, List.getElem?_take] at hv
  split at hv
  ·exact hv
  ·cases hv)
theorem zce (w : World) (o1 o2 : Obj) (b j : Nat) (hb : b < w.heap.size) : ((w.alloc o1).alloc o2).cell? ⟨b, j, none⟩ = w.cell? ⟨b, j, none⟩ :=
 (((br w.heap.size w).alloc (lrf _) o1).alloc (by simp) o2).cell (p := ⟨b, j, none⟩) hb
theorem zbh (w : World) (o1 : Obj) (b j : Nat) (hb : b < w.heap.size) : (w.alloc o1).cell? ⟨b, j, none⟩ = w.cell? ⟨b, j, none⟩ :=
 ((br w.heap.size w).alloc (lrf _) o1).cell (p := ⟨b, j, none⟩) hb
theorem zbw (w : World) (o : Obj) (p : Nat) (hp : p = w.heap.size) : (w.alloc o).heap[p]? = some o := by subst hp; exact heap_alloc_new w o
theorem zw8 {B : Nat} (k a b c n pos : Int) (nm s : ByteArray) (vl : Value) (HO : Hid (ownN k = 0)) (HP : Hid (partsB k = false)) (w : World) (hB : B <= w.heap.size) :
  Calls Tryz.prog 61 #[.agg #[.int .i64 k, .int .i64 a, .int .i64 b, .int .i64 c, .int .i64 n, .string nm, .string s, vl, .int .i64 pos]] w (KidsPost [] B w) := by
 have hmk := mk0
 have hcp : ∀ W : World, Sem.run Tryz.prog (Builtin.copy_ #[74, 74] 3 #[.slice (some ⟨w.heap.size + 1 + 1, 0, none⟩) 0 0, .slice (some ⟨w.heap.size + 1, 0, none⟩) 3 3]) W = .ok (.int .i64 0) W := fun W => by kernel_rfl
 go_enter Tryz.func61, Tryz.ntmps61
 go_wp2_with (first | (go_at_call 103; refine (zbe HO.out _).mono ?_; rintro e w1 ⟨rfl, rfl⟩) | (go_at_call 104; refine (zbt HP.out _).mono ?_; rintro e w1 ⟨rfl, rfl⟩))
 go_ret
 exact KidsPost.of rfl (w.heap.size + 1 + 1) 0 0 rfl rfl (Ints.at (B := B) _ _ 0 [] (by simp) rfl (by simp; omega) (by simp [maxLen])) (below3 hB _ _ _)
theorem zu5 {B : Nat} (k a b c n pos : Int) (nm s : ByteArray) (vl : Value) (HO : Hid (ownN k = 1)) (HP : Hid (partsB k = false)) (w : World) (hB : B <= w.heap.size) :
  Calls Tryz.prog 61 #[.agg #[.int .i64 k, .int .i64 a, .int .i64 b, .int .i64 c, .int .i64 n, .string nm, .string s, vl, .int .i64 pos]] w (KidsPost [a] B w) := by
 have hmk := mk1
 obtain ⟨w1, hw1⟩ : ∃ w1, w.alloc (.cells #[.int .i64 k, .int .i64 a, .int .i64 b, .int .i64 c, .int .i64 n, .string nm, .string s, vl, .int .i64 pos] 37) = w1 := ⟨_, rfl⟩
 have hs1 : w1.heap.size = w.heap.size + 1 := by rw [<- hw1, World.size_alloc]
 obtain ⟨W4, hcp, hg4, hb4, _⟩ := ze5 ((w1.alloc (.cells #[.int .i64 a, .int .i64 b, .int .i64 c] 115)).alloc (.cells #[.int .i64 0] 3)) (w.heap.size + 1 + 1) 1 1 ⟨w.heap.size + 1, 0, none⟩ 3 3 [.int .i64 0] (([a] : List Int).map (Value.int .i64)) 3
  (zbw _ _ _ (by simp [hs1])) rfl (fun j v hv => by
   rw [Addr.add_lit, Nat.zero_add, zbh _ _ _ _ (by simp [hs1])]
   have h := arr3 w1 a b c 1 j v hv
   rw [Addr.add_lit, Nat.zero_add, hs1] at h
   exact h) (lrf _) oneInt
 have hk0 : W4.cell? ⟨w.heap.size, 0, none⟩ = some (.int .i64 k) := by
  rw [hb4.cell (p := ⟨w.heap.size, 0, none⟩) (by simp; omega), zce _ _ _ _ _ (by omega), <- hw1]
  have h := zaj w 37 (#[.int .i64 k, .int .i64 a, .int .i64 b, .int .i64 c, .int .i64 n, .string nm, .string s, vl, .int .i64 pos].toList) w.heap.size rfl 0 _ rfl
  rw [Addr.add_lit] at h
  exact h
 rw [<- hw1] at hcp hb4
 have HB4 := jj hb4
 have HG4 := jj hg4
 clear hb4 hg4 hs1 hw1
 go_enter Tryz.func61, Tryz.ntmps61
 go_wp2_with (first | (go_at_call 103; refine (zbe HO.out _).mono ?_; rintro e w1 ⟨rfl, rfl⟩) | (go_at_call 104; refine (zbt HP.out _).mono ?_; rintro e w1 ⟨rfl, rfl⟩))
 go_ret
 refine KidsPost.of rfl (w.heap.size + 1 + 1) 1 1 rfl rfl (zd0 (l := [a]) ?_ (by omega) rfl (by simp [maxLen])) ((below3 hB _ _ _).trans (HB4.out.mono (by omega)))
 have h := HG4.out
 rw [zdc _ _ (by simp)] at h
 exact h
theorem zvv {B : Nat} (k a b c n pos : Int) (nm s : ByteArray) (vl : Value) (HO : Hid (ownN k = 2)) (HP : Hid (partsB k = false)) (w : World) (hB : B <= w.heap.size) :
  Calls Tryz.prog 61 #[.agg #[.int .i64 k, .int .i64 a, .int .i64 b, .int .i64 c, .int .i64 n, .string nm, .string s, vl, .int .i64 pos]] w (KidsPost [a, b] B w) := by
 have hmk := mk2
 obtain ⟨w1, hw1⟩ : ∃ w1, w.alloc (.cells #[.int .i64 k, .int .i64 a, .int .i64 b, .int .i64 c, .int .i64 n, .string nm, .string s, vl, .int .i64 pos] 37) = w1 := ⟨_, rfl⟩
 have hs1 : w1.heap.size = w.heap.size + 1 := by rw [<- hw1, World.size_alloc]
 obtain ⟨W4, hcp, hg4, hb4, _⟩ := ze5 ((w1.alloc (.cells #[.int .i64 a, .int .i64 b, .int .i64 c] 115)).alloc (.cells #[.int .i64 0, .int .i64 0] 3)) (w.heap.size + 1 + 1) 2 2 ⟨w.heap.size + 1, 0, none⟩ 3 3 [.int .i64 0, .int .i64 0] (([a, b] : List Int).map (Value.int .i64)) 3
  (zbw _ _ _ (by simp [hs1])) rfl (fun j v hv => by
   rw [Addr.add_lit, Nat.zero_add, zbh _ _ _ _ (by simp [hs1])]
   have h := arr3 w1 a b c 2 j v hv
   rw [Addr.add_lit, Nat.zero_add, hs1] at h
   exact h) (lrf _) oneInt
 have hk0 : W4.cell? ⟨w.heap.size, 0, none⟩ = some (.int .i64 k) := by
  rw [hb4.cell (p := ⟨w.heap.size, 0, none⟩) (by simp; omega), zce _ _ _ _ _ (by omega), <- hw1]
  have h := zaj w 37 (#[.int .i64 k, .int .i64 a, .int .i64 b, .int .i64 c, .int .i64 n, .string nm, .string s, vl, .int .i64 pos].toList) w.heap.size rfl 0 _ rfl
  rw [Addr.add_lit] at h
  exact h
 rw [<- hw1] at hcp hb4
 have HB4 := jj hb4
 have HG4 := jj hg4
 clear hb4 hg4 hs1 hw1
 go_enter Tryz.func61, Tryz.ntmps61
 go_wp2_with (first | (go_at_call 103; refine (zbe HO.out _).mono ?_; rintro e w1 ⟨rfl, rfl⟩) | (go_at_call 104; refine (zbt HP.out _).mono ?_; rintro e w1 ⟨rfl, rfl⟩))
 go_ret
 refine KidsPost.of rfl (w.heap.size + 1 + 1) 2 2 rfl rfl (zd0 (l := [a, b]) ?_ (by omega) rfl (by simp [maxLen])) ((below3 hB _ _ _).trans (HB4.out.mono (by omega)))
 have h := HG4.out
 rw [zdc _ _ (by simp)] at h
 exact h
theorem zx2 {B : Nat} (k a b c n pos : Int) (nm s : ByteArray) (vl : Value) (HO : Hid (ownN k = 3)) (HP : Hid (partsB k = false)) (w : World) (hB : B <= w.heap.size) :
  Calls Tryz.prog 61 #[.agg #[.int .i64 k, .int .i64 a, .int .i64 b, .int .i64 c, .int .i64 n, .string nm, .string s, vl, .int .i64 pos]] w (KidsPost [a, b, c] B w) := by
 have hmk := mk3
 obtain ⟨w1, hw1⟩ : ∃ w1, w.alloc (.cells #[.int .i64 k, .int .i64 a, .int .i64 b, .int .i64 c, .int .i64 n, .string nm, .string s, vl, .int .i64 pos] 37) = w1 := ⟨_, rfl⟩
 have hs1 : w1.heap.size = w.heap.size + 1 := by rw [<- hw1, World.size_alloc]
 obtain ⟨W4, hcp, hg4, hb4, _⟩ := ze5 ((w1.alloc (.cells #[.int .i64 a, .int .i64 b, .int .i64 c] 115)).alloc (.cells #[.int .i64 0, .int .i64 0, .int .i64 0] 3)) (w.heap.size + 1 + 1) 3 3 ⟨w.heap.size + 1, 0, none⟩ 3 3 [.int .i64 0, .int .i64 0, .int .i64 0] (([a, b, c] : List Int).map (Value.int .i64)) 3
  (zbw _ _ _ (by simp [hs1])) rfl (fun j v hv => by
   rw [Addr.add_lit, Nat.zero_add, zbh _ _ _ _ (by simp [hs1])]
   have h := arr3 w1 a b c 3 j v hv
   rw [Addr.add_lit, Nat.zero_add, hs1] at h
   exact h) (lrf _) oneInt
 have hk0 : W4.cell? ⟨w.heap.size, 0, none⟩ = some (.int .i64 k) := by
  rw [hb4.cell (p := ⟨w.heap.size, 0, none⟩) (by simp; omega), zce _ _ _ _ _ (by omega), <- hw1]
  have h := zaj w 37 (#[.int .i64 k, .int .i64 a, .int .i64 b, .int .i64 c, .int .i64 n, .string nm, .string s, vl, .int .i64 pos].toList) w.heap.size rfl 0 _ rfl
  rw [Addr.add_lit] at h
  exact h
 rw [<- hw1] at hcp hb4
 have HB4 := jj hb4
 have HG4 := jj hg4
 clear hb4 hg4 hs1 hw1
 go_enter Tryz.func61, Tryz.ntmps61
 go_wp2_with (first | (go_at_call 103; refine (zbe HO.out _).mono ?_; rintro e w1 ⟨rfl, rfl⟩) | (go_at_call 104; refine (zbt HP.out _).mono ?_; rintro e w1 ⟨rfl, rfl⟩))
 go_ret
 refine KidsPost.of rfl (w.heap.size + 1 + 1) 3 3 rfl rfl (zd0 (l := [a, b, c]) ?_ (by omega) rfl (by simp [maxLen])) ((below3 hB _ _ _).trans (HB4.out.mono (by omega)))
 have h := HG4.out
 rw [zdc _ _ (by simp)] at h
 exact h
open Go.RowKit
theorem zsr {B : Nat} (k a b c n pos : Int) (nm s : ByteArray) (l : List Fld) (L cp fb fo : Nat) (HO : Hid (ownN k = 0)) (HP : Hid (partsB k = true)) (HL : Hid (l.length = L)) (hL : L <= 1000000) (w : World) (hB : B <= w.heap.size) (hfb : fb < w.heap.size) (HF : Hid (FldsAt w fb fo l)) (R : List Int) (HRR : Hid (R = ([] : List Int) ++ l.map Fld.pl)) :
  Calls Tryz.prog 61 #[.agg #[.int .i64 k, .int .i64 a, .int .i64 b, .int .i64 c, .int .i64 n, .string nm, .string s, .slice (some ⟨fb, fo, none⟩) L cp, .int .i64 pos]] w (KidsPost R B w) := by
 obtain ⟨i0, hi, hz0, hz1, hz2⟩ := info_parts intInfo
 have hmk := mk0
 obtain ⟨w1, hw1⟩ : ∃ w1, w.alloc (.cells #[.int .i64 k, .int .i64 a, .int .i64 b, .int .i64 c, .int .i64 n, .string nm, .string s, .slice (some ⟨fb, fo, none⟩) L cp, .int .i64 pos] 37) = w1 := ⟨_, rfl⟩
 have hs1 : w1.heap.size = w.heap.size + 1 := by rw [<- hw1, World.size_alloc]
 obtain ⟨W4, hcp, hg4, hb4⟩ : ∃ W4, Sem.run Tryz.prog (Builtin.copy_ #[74, 74] 3 #[.slice (some ⟨w.heap.size + 1 + 1, 0, none⟩) 0 0, .slice (some ⟨w.heap.size + 1, 0, none⟩) 3 3]) ((w1.alloc (.cells #[.int .i64 a, .int .i64 b, .int .i64 c] 115)).alloc (.cells #[] 3)) = .ok (.int .i64 0) W4 /\ W4.heap[w.heap.size + 1 + 1]? = some (.cells ((([] : List Int) : List Int).map (Value.int .i64)).toArray 3) /\ Below (w.heap.size + 1 + 1) ((w1.alloc (.cells #[.int .i64 a, .int .i64 b, .int .i64 c] 115)).alloc (.cells #[] 3)) W4 :=
  ⟨_, by kernel_rfl, zbw _ _ _ (by simp [hs1]), br _ _⟩
 have hc : ∀ j u, #[.int .i64 k, .int .i64 a, .int .i64 b, .int .i64 c, .int .i64 n, .string nm, .string s, .slice (some ⟨fb, fo, none⟩) L cp, .int .i64 pos].toList[j]? = some u -> W4.cell? ⟨w.heap.size, j, none⟩ = some u := fun j u hj => by
  rw [hb4.cell (p := ⟨w.heap.size, j, none⟩) (by simp; omega), zce _ _ _ _ _ (by omega), <- hw1]
  have h := zaj w 37 (#[.int .i64 k, .int .i64 a, .int .i64 b, .int .i64 c, .int .i64 n, .string nm, .string s, .slice (some ⟨fb, fo, none⟩) L cp, .int .i64 pos].toList) w.heap.size rfl j u hj
  rw [Addr.add_lit, Nat.zero_add] at h
  exact h
 have hk0 := hc 0 _ rfl
 have hk7 := hc 7 _ rfl
 have h4s := hb4.size
 rw [World.size_alloc, World.size_alloc, hs1] at h4s
 rw [<- hw1] at hcp hb4
 have HB4 := jj ((below3 hB _ _ _).trans (hb4.mono (B' := B) (by omega)))
 have HG4 := jj hg4
 have HB4B := jj ((below3 (lrf w.heap.size) _ _ _).trans (hb4.mono (B' := w.heap.size) (by omega)))
 clear hb4 hg4 hs1 hw1 hc
 go_enter Tryz.func61, Tryz.ntmps61
 go_wp2_with (first | (go_at_call 103; refine (zbe HO.out _).mono ?_; rintro e w1 ⟨rfl, rfl⟩) | (go_at_call 104; refine (zbt HP.out _).mono ?_; rintro e w1 ⟨rfl, rfl⟩))
 go_loopw [4, 27] (fun v i wr => ∃ q g c' : Nat, v = .slice (some ⟨g, 0, none⟩) q c' /\ i = .int .i64 (q : Int) /\ q <= L /\ Hid (wr.ownsRow (w.heap.size + 1) 3 1 (.slice (some ⟨g, 0, none⟩) q c') q ((([] : List Int) ++ (l.take q).map Fld.pl).map (Value.int .i64))) /\ Hid (Below (w.heap.size + 1) W4 wr)) (fun _ i _ => L - (intOf i).toNat)
 case atStart => exact ⟨0, _, _, rfl, rfl, by omega, jj (by rw [List.take_zero]; exact zd0 (B := w.heap.size + 1) (l := ([] : List Int)) HG4.out (by omega) rfl (by simp [maxLen])), jj (br _ _)⟩
 case round =>
  obtain ⟨q, g, c', rfl, rfl, hq, HI, HB⟩ := hrel
  have hcb : wr.cell? ⟨w.heap.size, 7, none⟩ = some (.slice (some ⟨fb, fo, none⟩) L cp) := (HB.out.cell (p := ⟨w.heap.size, 7, none⟩) (by simp)).trans hk7
  have hsz := HB.out.size
  by_cases hlt : q < L
  ·obtain ⟨fd, hfd⟩ : ∃ fd, l[q]? = some fd := ⟨_, List.getElem?_eq_getElem (by rw [HL.out]; exact hlt)⟩
   obtain ⟨z0, z1, z2⟩ := (HF.out.below (W' := wr) (HB4B.out.trans (HB.out.mono (by omega))) hfb) q fd hfd
   have HX := jj (zhm l q fd hfd)
   clear hfd
   go_wp2_with (at_builtin; refine wpList_append_own _ rfl _ _ 74 rfl (w.heap.size + 1) 3 i0 (.int .i64 0) 1 8 Tryz.underlying74 hi hz0 hz1 hz2 rfl (by decide) _ _ _ rfl ((HI.out.alloc _).alloc _) ⟨wr.heap.size + 1, 0, none⟩ 1 1 [.int .i64 fd.pl] rfl rfl (zaj _ 3 [.int .i64 fd.pl] _ (by simp)) (fun u hu => by rw [List.mem_singleton.1 hu]; rfl) (by unfold maxLen; omega) (by omega) (by simp; omega) ?_; intro v' w2 hown' hgrow _; obtain ⟨g', cap', rfl⟩ := ownsRow_succ hown'; have HO := jj hown'; have HG := jj hgrow; clear hown' hgrow)
   go_roundw
   case rel =>
    refine ⟨q + 1, g', cap', rfl, by go_num, by omega, jj ?_, jj (((HB.out.alloc (by omega) _).alloc (by simp; omega) _).grown HG.out (by simp; omega) (fun k hk => (HI.out.lt k hk).1))⟩
    have h := HO.out
    rw [HX.out, <- List.append_assoc, List.map_append]
    exact h
   case measure => simp [intOf]; omega
  ·obtain rfl : q = L := by omega
   go_wp2
   go_ret
   refine KidsPost.of rfl _ _ _ rfl (by have := HL.out; rw [HRR.out]; simp; omega) ?_ ?_
   ·have h := HI.out
    rw [List.take_of_length_le (by have := HL.out; omega)] at h
    have e : (([] : List Int) ++ l.map Fld.pl).length = q := by have := HL.out; simp; omega
    unfold Ints
    rw [HRR.out, e]
    exact zbi h (by omega)
   ·exact HB4.out.trans (HB.out.mono (by omega))
theorem zr5 {B : Nat} (k a b c n pos : Int) (nm s : ByteArray) (l : List Fld) (L cp fb fo : Nat) (HO : Hid (ownN k = 1)) (HP : Hid (partsB k = true)) (HL : Hid (l.length = L)) (hL : L <= 1000000) (w : World) (hB : B <= w.heap.size) (hfb : fb < w.heap.size) (HF : Hid (FldsAt w fb fo l)) (R : List Int) (HRR : Hid (R = [a] ++ l.map Fld.pl)) :
  Calls Tryz.prog 61 #[.agg #[.int .i64 k, .int .i64 a, .int .i64 b, .int .i64 c, .int .i64 n, .string nm, .string s, .slice (some ⟨fb, fo, none⟩) L cp, .int .i64 pos]] w (KidsPost R B w) := by
 obtain ⟨i0, hi, hz0, hz1, hz2⟩ := info_parts intInfo
 have hmk := mk1
 obtain ⟨w1, hw1⟩ : ∃ w1, w.alloc (.cells #[.int .i64 k, .int .i64 a, .int .i64 b, .int .i64 c, .int .i64 n, .string nm, .string s, .slice (some ⟨fb, fo, none⟩) L cp, .int .i64 pos] 37) = w1 := ⟨_, rfl⟩
 have hs1 : w1.heap.size = w.heap.size + 1 := by rw [<- hw1, World.size_alloc]
 obtain ⟨W4, hcp, hg4, hb4, _⟩ := ze5 ((w1.alloc (.cells #[.int .i64 a, .int .i64 b, .int .i64 c] 115)).alloc (.cells #[.int .i64 0] 3)) (w.heap.size + 1 + 1) 1 1 ⟨w.heap.size + 1, 0, none⟩ 3 3 [.int .i64 0] (([a] : List Int).map (Value.int .i64)) 3
  (zbw _ _ _ (by simp [hs1])) rfl (fun j v hv => by
   rw [Addr.add_lit, Nat.zero_add, zbh _ _ _ _ (by simp [hs1])]
   have h := arr3 w1 a b c 1 j v hv
   rw [Addr.add_lit, Nat.zero_add, hs1] at h
   exact h) (lrf _) oneInt
 rw [zdc _ _ (by simp)] at hg4
 have hc : ∀ j u, #[.int .i64 k, .int .i64 a, .int .i64 b, .int .i64 c, .int .i64 n, .string nm, .string s, .slice (some ⟨fb, fo, none⟩) L cp, .int .i64 pos].toList[j]? = some u -> W4.cell? ⟨w.heap.size, j, none⟩ = some u := fun j u hj => by
  rw [hb4.cell (p := ⟨w.heap.size, j, none⟩) (by simp; omega), zce _ _ _ _ _ (by omega), <- hw1]
  have h := zaj w 37 (#[.int .i64 k, .int .i64 a, .int .i64 b, .int .i64 c, .int .i64 n, .string nm, .string s, .slice (some ⟨fb, fo, none⟩) L cp, .int .i64 pos].toList) w.heap.size rfl j u hj
  rw [Addr.add_lit, Nat.zero_add] at h
  exact h
 have hk0 := hc 0 _ rfl
 have hk7 := hc 7 _ rfl
 have h4s := hb4.size
 rw [World.size_alloc, World.size_alloc, hs1] at h4s
 rw [<- hw1] at hcp hb4
 have HB4 := jj ((below3 hB _ _ _).trans (hb4.mono (B' := B) (by omega)))
 have HG4 := jj hg4
 have HB4B := jj ((below3 (lrf w.heap.size) _ _ _).trans (hb4.mono (B' := w.heap.size) (by omega)))
 clear hb4 hg4 hs1 hw1 hc
 go_enter Tryz.func61, Tryz.ntmps61
 go_wp2_with (first | (go_at_call 103; refine (zbe HO.out _).mono ?_; rintro e w1 ⟨rfl, rfl⟩) | (go_at_call 104; refine (zbt HP.out _).mono ?_; rintro e w1 ⟨rfl, rfl⟩))
 go_loopw [4, 27] (fun v i wr => ∃ q g c' : Nat, v = .slice (some ⟨g, 0, none⟩) (q + 1) c' /\ i = .int .i64 (q : Int) /\ q <= L /\ Hid (wr.ownsRow (w.heap.size + 1) 3 1 (.slice (some ⟨g, 0, none⟩) (q + 1) c') (q + 1) (([a] ++ (l.take q).map Fld.pl).map (Value.int .i64))) /\ Hid (Below (w.heap.size + 1) W4 wr)) (fun _ i _ => L - (intOf i).toNat)
 case atStart => exact ⟨0, _, _, rfl, rfl, by omega, jj (by rw [List.take_zero]; exact zd0 (B := w.heap.size + 1) (l := [a]) HG4.out (by omega) rfl (by simp [maxLen])), jj (br _ _)⟩
 case round =>
  obtain ⟨q, g, c', rfl, rfl, hq, HI, HB⟩ := hrel
  have hcb : wr.cell? ⟨w.heap.size, 7, none⟩ = some (.slice (some ⟨fb, fo, none⟩) L cp) := (HB.out.cell (p := ⟨w.heap.size, 7, none⟩) (by simp)).trans hk7
  have hsz := HB.out.size
  by_cases hlt : q < L
  ·obtain ⟨fd, hfd⟩ : ∃ fd, l[q]? = some fd := ⟨_, List.getElem?_eq_getElem (by rw [HL.out]; exact hlt)⟩
   obtain ⟨z0, z1, z2⟩ := (HF.out.below (W' := wr) (HB4B.out.trans (HB.out.mono (by omega))) hfb) q fd hfd
   have HX := jj (zhm l q fd hfd)
   clear hfd
   go_wp2_with (at_builtin; refine wpList_append_own _ rfl _ _ 74 rfl (w.heap.size + 1) 3 i0 (.int .i64 0) 1 8 Tryz.underlying74 hi hz0 hz1 hz2 rfl (by decide) _ _ _ rfl ((HI.out.alloc _).alloc _) ⟨wr.heap.size + 1, 0, none⟩ 1 1 [.int .i64 fd.pl] rfl rfl (zaj _ 3 [.int .i64 fd.pl] _ (by simp)) (fun u hu => by rw [List.mem_singleton.1 hu]; rfl) (by unfold maxLen; omega) (by omega) (by simp; omega) ?_; intro v' w2 hown' hgrow _; obtain ⟨g', cap', rfl⟩ := ownsRow_succ hown'; have HO := jj hown'; have HG := jj hgrow; clear hown' hgrow)
   go_roundw
   case rel =>
    refine ⟨q + 1, g', cap', rfl, by go_num, by omega, jj ?_, jj (((HB.out.alloc (by omega) _).alloc (by simp; omega) _).grown HG.out (by simp; omega) (fun k hk => (HI.out.lt k hk).1))⟩
    have h := HO.out
    rw [HX.out, <- List.append_assoc, List.map_append]
    exact h
   case measure => simp [intOf]; omega
  ·obtain rfl : q = L := by omega
   go_wp2
   go_ret
   refine KidsPost.of rfl _ _ _ rfl (by have := HL.out; rw [HRR.out]; simp; omega) ?_ ?_
   ·have h := HI.out
    rw [List.take_of_length_le (by have := HL.out; omega)] at h
    have e : ([a] ++ l.map Fld.pl).length = (q + 1) := by have := HL.out; simp; omega
    unfold Ints
    rw [HRR.out, e]
    exact zbi h (by omega)
   ·exact HB4.out.trans (HB.out.mono (by omega))
theorem zq1 {B : Nat} (k a b c n pos : Int) (nm s : ByteArray) (A : Option Addr) (cp : Nat) (HO : Hid (ownN k = 0)) (HP : Hid (partsB k = true)) (w : World) (hB : B <= w.heap.size) :
  Calls Tryz.prog 61 #[.agg #[.int .i64 k, .int .i64 a, .int .i64 b, .int .i64 c, .int .i64 n, .string nm, .string s, .slice A 0 cp, .int .i64 pos]] w (KidsPost ([] : List Int) B w) := by
 have hmk := mk0
 obtain ⟨w1, hw1⟩ : ∃ w1, w.alloc (.cells #[.int .i64 k, .int .i64 a, .int .i64 b, .int .i64 c, .int .i64 n, .string nm, .string s, .slice A 0 cp, .int .i64 pos] 37) = w1 := ⟨_, rfl⟩
 have hs1 : w1.heap.size = w.heap.size + 1 := by rw [<- hw1, World.size_alloc]
 obtain ⟨W4, hcp, hg4, hb4⟩ : ∃ W4, Sem.run Tryz.prog (Builtin.copy_ #[74, 74] 3 #[.slice (some ⟨w.heap.size + 1 + 1, 0, none⟩) 0 0, .slice (some ⟨w.heap.size + 1, 0, none⟩) 3 3]) ((w1.alloc (.cells #[.int .i64 a, .int .i64 b, .int .i64 c] 115)).alloc (.cells #[] 3)) = .ok (.int .i64 0) W4 /\ W4.heap[w.heap.size + 1 + 1]? = some (.cells ((([] : List Int) : List Int).map (Value.int .i64)).toArray 3) /\ Below (w.heap.size + 1 + 1) ((w1.alloc (.cells #[.int .i64 a, .int .i64 b, .int .i64 c] 115)).alloc (.cells #[] 3)) W4 :=
  ⟨_, by kernel_rfl, zbw _ _ _ (by simp [hs1]), br _ _⟩
 have hc : ∀ j u, #[.int .i64 k, .int .i64 a, .int .i64 b, .int .i64 c, .int .i64 n, .string nm, .string s, .slice A 0 cp, .int .i64 pos].toList[j]? = some u -> W4.cell? ⟨w.heap.size, j, none⟩ = some u := fun j u hj => by
  rw [hb4.cell (p := ⟨w.heap.size, j, none⟩) (by simp; omega), zce _ _ _ _ _ (by omega), <- hw1]
  have h := zaj w 37 (#[.int .i64 k, .int .i64 a, .int .i64 b, .int .i64 c, .int .i64 n, .string nm, .string s, .slice A 0 cp, .int .i64 pos].toList) w.heap.size rfl j u hj
  rw [Addr.add_lit, Nat.zero_add] at h
  exact h
 have hk0 := hc 0 _ rfl
 have hk7 := hc 7 _ rfl
 have h4s := hb4.size
 rw [World.size_alloc, World.size_alloc, hs1] at h4s
 rw [<- hw1] at hcp hb4
 have HB4 := jj ((below3 hB _ _ _).trans (hb4.mono (B' := B) (by omega)))
 have HG4 := jj hg4
 clear hb4 hg4 hs1 hw1 hc
 go_enter Tryz.func61, Tryz.ntmps61
 go_wp2_with (first | (go_at_call 103; refine (zbe HO.out _).mono ?_; rintro e w1 ⟨rfl, rfl⟩) | (go_at_call 104; refine (zbt HP.out _).mono ?_; rintro e w1 ⟨rfl, rfl⟩))
 go_loop [4, 27] (fun v i => v = .slice (some ⟨w.heap.size + 1 + 1, 0, none⟩) 0 0 /\ i = .int .i64 0) (fun _ _ => 0)
 case atStart => exact ⟨rfl, rfl⟩
 case round =>
  obtain ⟨rfl, rfl⟩ := hrel
  go_wp2
  go_ret
  exact KidsPost.of rfl _ _ _ rfl rfl (zd0 (l := ([] : List Int)) HG4.out (by omega) rfl (by simp [maxLen])) (HB4.out)
theorem zru {B : Nat} (k a b c n pos : Int) (nm s : ByteArray) (A : Option Addr) (cp : Nat) (HO : Hid (ownN k = 1)) (HP : Hid (partsB k = true)) (w : World) (hB : B <= w.heap.size) :
  Calls Tryz.prog 61 #[.agg #[.int .i64 k, .int .i64 a, .int .i64 b, .int .i64 c, .int .i64 n, .string nm, .string s, .slice A 0 cp, .int .i64 pos]] w (KidsPost [a] B w) := by
 have hmk := mk1
 obtain ⟨w1, hw1⟩ : ∃ w1, w.alloc (.cells #[.int .i64 k, .int .i64 a, .int .i64 b, .int .i64 c, .int .i64 n, .string nm, .string s, .slice A 0 cp, .int .i64 pos] 37) = w1 := ⟨_, rfl⟩
 have hs1 : w1.heap.size = w.heap.size + 1 := by rw [<- hw1, World.size_alloc]
 obtain ⟨W4, hcp, hg4, hb4, _⟩ := ze5 ((w1.alloc (.cells #[.int .i64 a, .int .i64 b, .int .i64 c] 115)).alloc (.cells #[.int .i64 0] 3)) (w.heap.size + 1 + 1) 1 1 ⟨w.heap.size + 1, 0, none⟩ 3 3 [.int .i64 0] (([a] : List Int).map (Value.int .i64)) 3
  (zbw _ _ _ (by simp [hs1])) rfl (fun j v hv => by
   rw [Addr.add_lit, Nat.zero_add, zbh _ _ _ _ (by simp [hs1])]
   have h := arr3 w1 a b c 1 j v hv
   rw [Addr.add_lit, Nat.zero_add, hs1] at h
   exact h) (lrf _) oneInt
 rw [zdc _ _ (by simp)] at hg4
 have hc : ∀ j u, #[.int .i64 k, .int .i64 a, .int .i64 b, .int .i64 c, .int .i64 n, .string nm, .string s, .slice A 0 cp, .int .i64 pos].toList[j]? = some u -> W4.cell? ⟨w.heap.size, j, none⟩ = some u := fun j u hj => by
  rw [hb4.cell (p := ⟨w.heap.size, j, none⟩) (by simp; omega), zce _ _ _ _ _ (by omega), <- hw1]
  have h := zaj w 37 (#[.int .i64 k, .int .i64 a, .int .i64 b, .int .i64 c, .int .i64 n, .string nm, .string s, .slice A 0 cp, .int .i64 pos].toList) w.heap.size rfl j u hj
  rw [Addr.add_lit, Nat.zero_add] at h
  exact h
 have hk0 := hc 0 _ rfl
 have hk7 := hc 7 _ rfl
 have h4s := hb4.size
 rw [World.size_alloc, World.size_alloc, hs1] at h4s
 rw [<- hw1] at hcp hb4
 have HB4 := jj ((below3 hB _ _ _).trans (hb4.mono (B' := B) (by omega)))
 have HG4 := jj hg4
 clear hb4 hg4 hs1 hw1 hc
 go_enter Tryz.func61, Tryz.ntmps61
 go_wp2_with (first | (go_at_call 103; refine (zbe HO.out _).mono ?_; rintro e w1 ⟨rfl, rfl⟩) | (go_at_call 104; refine (zbt HP.out _).mono ?_; rintro e w1 ⟨rfl, rfl⟩))
 go_loop [4, 27] (fun v i => v = .slice (some ⟨w.heap.size + 1 + 1, 0, none⟩) 1 1 /\ i = .int .i64 0) (fun _ _ => 0)
 case atStart => exact ⟨rfl, rfl⟩
 case round =>
  obtain ⟨rfl, rfl⟩ := hrel
  go_wp2
  go_ret
  exact KidsPost.of rfl _ _ _ rfl rfl (zd0 (l := [a]) HG4.out (by omega) rfl (by simp [maxLen])) (HB4.out)
theorem zp0 (k : Int) (h : partsB k = true) : (k = 11 /\ ownN k = 0) ∨ (k = 14 /\ ownN k = 1) := by
 unfold partsB at h
 rcases of_decide_eq_true h with rfl | rfl
 ·exact .inl ⟨rfl, rfl⟩
 ·exact .inr ⟨rfl, rfl⟩
theorem zjb {B : Nat} (x : Nd) (vl : Value) (w : World) (hB : B <= w.heap.size) (hv : Flds w.heap.size w vl x.l) (hL : x.l.length <= 1000000) :
  Calls Tryz.prog 61 #[.agg (ndArr x vl)] w (KidsPost (kids x) B w) := by
 have e : kids x = [x.a, x.b, x.c].take (ownN x.kind) ++ if partsB x.kind = true then x.l.map Fld.pl else [] := by rw [kids, zle]; rfl
 rw [e]
 clear e
 obtain ⟨k, a, b, c, n, nm, s, l, pos⟩ := x
 unfold ndArr
 simp only at hv hL ⊢
 cases hp : partsB k with
 | false =>
  rw [if_neg (by simp), List.append_nil]
  have hle := znw k
  match hm : ownN k, hle with
  | 0, _ => exact zw8 k a b c n pos nm s vl (jj hm) (jj hp) w hB
  | 1, _ => exact zu5 k a b c n pos nm s vl (jj hm) (jj hp) w hB
  | 2, _ => exact zvv k a b c n pos nm s vl (jj hm) (jj hp) w hB
  | 3, _ => exact zx2 k a b c n pos nm s vl (jj hm) (jj hp) w hB
  | m + 4, h => omega
 | true =>
  rw [if_pos rfl]
  obtain ⟨A, cp, rfl, _, _, hq⟩ := hv
  rcases zp0 k hp with ⟨hk, hm⟩ | ⟨hk, hm⟩
  ·rw [hm]
   by_cases h0 : 0 < l.length
   ·obtain ⟨fb, fo, rfl, hlt, hf⟩ := hq h0
    exact zsr k a b c n pos nm s l _ cp fb fo (jj hm) (jj hp) (jj rfl) hL w hB hlt (jj hf) _ (jj rfl)
   ·obtain rfl : l = [] := List.eq_nil_of_length_eq_zero (by omega)
    exact zq1 k a b c n pos nm s _ _ (jj hm) (jj hp) w hB
  ·rw [hm]
   by_cases h0 : 0 < l.length
   ·obtain ⟨fb, fo, rfl, hlt, hf⟩ := hq h0
    exact zr5 k a b c n pos nm s l _ cp fb fo (jj hm) (jj hp) (jj rfl) hL w hB hlt (jj hf) _ (jj rfl)
   ·obtain rfl : l = [] := List.eq_nil_of_length_eq_zero (by omega)
    exact zru k a b c n pos nm s _ _ (jj hm) (jj hp) w hB
end Go.Proofs.YtjakeidbajkdcaaGreatDoor.T
