/- Joined by program: LMaysA, LMaysH, RCopyA, RCopy, RNorm, SA, SB, PJoinA, TStayA, TStayB, TStayC, TStayD, KOrd, RJoin. -/
import Derived.Test.YtjakeidbajkdcaaGreatDoorG15
import Derived.Test.YtjakeidbajkdcaaGreatDoorG00
import Derived.Test.YtjakeidbajkdcaaGreatDoorG16
import Derived.Test.YtjakeidbajkdcaaGreatDoorG10
import Derived.Test.YtjakeidbajkdcaaGreatDoorG13
import Derived.Test.YtjakeidbajkdcaaGreatDoorG14
import Derived.BigGuardPart
/- TreeMays: what it calls, in the words of its walk. -/
namespace Go.Proofs.YtjakeidbajkdcaaGreatDoor.T
open Go.RowKit Go.Shelf
theorem cut_cut (x : Nd) : cut (cut x) = cut x := by
  simp only [cut, List.take_take, Nat.min_self]
theorem few_few (l : List Nd) : few (few l) = few l := by
  unfold few
  rw [← List.map_take, List.take_take, Nat.min_self, List.map_map]
  congr 1
  funext x
  exact cut_cut x
/-- What is kept of each node is small. -/
theorem fit_cut {x : Nd} (h : Fit x) : Small (cut x) ∧ Clonable (cut x) := by
  obtain ⟨h1, h2, h3, h4⟩ := h
  have e : reachBytes = 140737488351232 := rfl
  rw [e] at h1 h2
  have h5 : (cut x).l.length ≤ 60 := by simp only [cut, List.length_take]; omega
  have h6 : ∀ f ∈ (cut x).l, f.nm.size ≤ 140737488351232 ∧ f.vr.size ≤ 140737488351232 := fun f hf => h4 f (List.mem_of_mem_take hf)
  refine ⟨⟨?_, ?_, by omega, fun f hf => ?_⟩, ⟨?_, ?_, by omega, fun f hf => ?_⟩⟩
  · show x.nm.size ≤ _; omega
  · show x.s.size ≤ _; omega
  · have := h6 f hf; omega
  · show x.nm.size ≤ _; omega
  · show x.s.size ≤ _; omega
  · have := h6 f hf; omega
theorem fit_few {l : List Nd} (h : ∀ x ∈ l, Fit x) : ∀ x ∈ few l, Small x ∧ Clonable x := fun x hx => by
  obtain ⟨y, hy, rfl⟩ := List.mem_map.1 hx
  exact fit_cut (h y (List.mem_of_mem_take hy))
/-- Few, in a law's words. -/
theorem few_nodes (l m : List Nd) (L : Nat) (hm : few l = m) (hL : m.length = L) (vl : Value) (w : World) (hv : Nodes w.heap.size w vl l) :
    Calls Tryz.prog 14 #[.agg #[vl]] w fun e w' => ∃ A c, e = .returned (.agg #[.slice A L c]) ∧ Nodes w'.heap.size w' (.slice A L c) m ∧ Below w.heap.size w w' := by
  refine (few_any vl l w hv).mono ?_
  rintro e w' ⟨v, ps, rfl, hps, hown, hb⟩
  obtain ⟨A, c, rfl⟩ := own_slice hown
  have hl : ps.length = L := by rw [← hL, ← hm, ← hps, List.length_map]
  have hn := own_nodes hown
  rw [hps, hm] at hn
  rw [hl] at hn ⊢
  exact ⟨A, c, rfl, hn, hb⟩
/-- A row of whole numbers that lies in a world. -/
def Rw (W : World) (g : Nat) (K : List Int) : Prop := Row0 W g K ∧ g < W.heap.size
theorem Rw.of {B g c : Nat} {W : World} {K : List Int} (h : Ints B W (.slice (some ⟨g, 0, none⟩) K.length c) K) : Rw W g K := ⟨ints_cells h, (World.ownsRow.lt h g rfl).2⟩
end Go.Proofs.YtjakeidbajkdcaaGreatDoor.T
/- TreeMays: laws of its walk. -/
namespace Go.Proofs.YtjakeidbajkdcaaGreatDoor.T
open Go.RowKit Go.Shelf
theorem own_slice_len {B L : Nat} {W : World} {v : Value} {ps : List (Nd × Value)} {l m : List Nd} (h : OwnN B W v ps) (hps : ps.map Prod.fst = l) (hm : l = m) (hL : m.length = L) : ∃ A c, v = .slice A L c := by
  obtain ⟨A, c, h⟩ := own_slice h
  refine ⟨A, c, ?_⟩
  rw [h, ← hL, ← hm, ← hps, List.length_map]
end Go.Proofs.YtjakeidbajkdcaaGreatDoor.T
/- copyOf, the document's: what stays through it. -/
namespace Go.Proofs.YtjakeidbajkdcaaGreatDoor.T
open Go.RowKit Go.Shelf
theorem ne_none (v : Value) : v.ownBlock = none ∨ v.ownBlock ≠ none := by cases v.ownBlock with | none => exact .inl rfl | some g => exact .inr (by simp)
theorem grown_alloc (W : World) (o : Obj) : W.grownBy (W.alloc o) none := ⟨rfl, rfl, rfl, by simp, fun _ hk _ => Below.heap_alloc _ _ _ hk⟩
theorem grown_of {W W' : World} (h : Below W.heap.size W W') : W.grownBy W' none := ⟨h.os, h.tape, h.output, h.size, fun k hk _ => h.block k hk⟩
/-- What lay below B, and every block but such as hold nodes, is as it was. -/
def Kp (B : Nat) (w w' : World) : Prop := Below B w w' ∧ ∀ (k : Nat) (cs : Array Value) (t : TypeId) (fr : Nat × Nat), w.heap[k]? = some (.cells cs t fr) → t ≠ 37 → w'.heap[k]? = some (.cells cs t fr)
theorem Kp.refl (B : Nat) (w : World) : Kp B w w := ⟨Below.refl _ _, fun _ _ _ _ h _ => h⟩
theorem Kp.trans {B : Nat} {a b c : World} (h : Kp B a b) (k : Kp B b c) : Kp B a c := ⟨h.1.trans k.1, fun i cs t fr hi ht => k.2 i cs t fr (h.2 i cs t fr hi ht) ht⟩
theorem Kp.of {B : Nat} {w w' : World} (h : Below w.heap.size w w') (hB : B ≤ w.heap.size) : Kp B w w' := ⟨h.mono hB, fun k _ _ _ hk _ => (h.block k (Array.getElem?_eq_some_iff.1 hk).1).trans hk⟩
theorem Kp.alloc (B : Nat) (w : World) (o : Obj) (hB : B ≤ w.heap.size) : Kp B w (w.alloc o) := Kp.of ((Below.refl _ w).alloc (Nat.le_refl _) o) hB
theorem ownN_kept3 {w w' : World} {B B2 n2 : Nat} {v v2 : Value} {ps : List (Nd × Value)} {x2 : List Value} (h : OwnN B w v ps) (h2 : w.ownsRow B2 3 1 v2 n2 x2) (hg : w.grownBy w' v2.ownBlock) : OwnN B w' v ps :=
  ⟨h.1.kept hg (rows_ne h.1 h2 (by decide)), fun x hx => (h.2 x hx).kept hg (rows_ne (h.2 x hx) h2 (by decide))⟩
theorem ownN_grow {w w' : World} {B : Nat} {v : Value} {ps : List (Nd × Value)} (h : OwnN B w v ps) (hg : w.grownBy w' none) : OwnN B w' v ps :=
  ⟨h.1.kept hg (ne_none _), fun x hx => (h.2 x hx).kept hg (ne_none _)⟩
/-- Where the loop stands. -/
def CSt (N : List Nd) (J : List Int) (K : List Int) (B BK : Nat) (w W : World) (v' u : Value) (gk KL ck q : Nat) (bx : Value) : Prop :=
  (∃ ps, ps.map Prod.fst = N ∧ OwnN B W v' ps) ∧ W.ownsRow BK 3 1 u q (J.map (Value.int .i64)) ∧ Kp B w W ∧
    W.ownsRow w.heap.size 3 1 (.slice (some ⟨gk, 0, none⟩) KL ck) KL (K.map (Value.int .i64)) ∧ gk < BK ∧ W.heap[w.heap.size]? = some (.cells #[bx] 25 (0, 0)) ∧ w.heap.size < BK ∧ BK ≤ W.heap.size ∧ B ≤ w.heap.size
section
variable {N N' : List Nd} {J K : List Int} {B BK : Nat} {w W W' : World} {v' v2 u u' : Value} {gk KL ck q : Nat} {bx : Value}
/-- Behind the append of a child's place. -/
theorem CSt.app (h : CSt N J K B BK w W v' u gk KL ck q bx) {z : Int} {o : Obj} (h1 : W'.ownsRow BK 3 1 u' (q + 1) (J.map (Value.int .i64) ++ [.int .i64 z])) (h2 : (W.alloc o).grownBy W' u.ownBlock) : CSt N (J ++ [z]) K B BK w W' v' u' gk KL ck (q + 1) bx := by
  obtain ⟨⟨ps, a0, a1⟩, a2, a3, a5, a6, a7, a8, a9, a10⟩ := h
  have hu := a2.lt
  have hs := h2.size
  simp only [World.size_alloc] at hs
  have hbl : ∀ k, k < BK → W'.heap[k]? = W.heap[k]? := fun k hk => (h2.block k (by simp; omega) (fun e => by have := (hu k e.symm).1; omega)).trans (Below.heap_alloc _ _ _ (by omega))
  refine ⟨⟨ps, a0, ownN_kept3 (ownN_grow a1 (grown_alloc W o)) (a2.alloc o) h2⟩, by rw [List.map_append]; exact h1, ⟨⟨h2.os.trans a3.1.os, h2.tape.trans a3.1.tape, h2.output.trans a3.1.output, by have := a3.1.size; omega, fun k hk => (hbl k (by omega)).trans (a3.1.block k hk)⟩, fun k cs t fr hk ht => (hbl k (by have := (Array.getElem?_eq_some_iff.1 hk).1; omega)).trans (a3.2 k cs t fr hk ht)⟩, ?_, a6, (hbl _ (by omega)).trans a7, a8, by omega, a10⟩
  refine (a5.alloc o).kept h2 (.inr ?_)
  intro e
  have := (hu gk e.symm).1
  omega
end
end Go.Proofs.YtjakeidbajkdcaaGreatDoor.T
/- copyOf, Sub and Norm, the document's. -/
namespace Go.Proofs.YtjakeidbajkdcaaGreatDoor.T
open Go.RowKit Go.Shelf
/-- A node's nine cells. -/
def NC (W : World) (b o : Nat) (x : Nd) (v : Value) : Prop := W.cell? ⟨b, o, none⟩ = some (.int .i64 x.kind) ∧ W.cell? ⟨b, o + 1, none⟩ = some (.int .i64 x.a) ∧ W.cell? ⟨b, o + 2, none⟩ = some (.int .i64 x.b) ∧ W.cell? ⟨b, o + 3, none⟩ = some (.int .i64 x.c) ∧ W.cell? ⟨b, o + 4, none⟩ = some (.int .i64 x.n) ∧
  W.cell? ⟨b, o + 5, none⟩ = some (.string x.nm) ∧ W.cell? ⟨b, o + 6, none⟩ = some (.string x.s) ∧ W.cell? ⟨b, o + 7, none⟩ = some v ∧ W.cell? ⟨b, o + 8, none⟩ = some (.int .i64 x.pos)
theorem NC.below {B : Nat} {W W' : World} {b o : Nat} {x : Nd} {v : Value} (h : NC W b o x v) (hb : Below B W W') (hlt : b < B) : NC W' b o x v := by
  have e : ∀ k, W'.cell? ⟨b, k, none⟩ = W.cell? ⟨b, k, none⟩ := fun k => hb.cell (p := ⟨b, k, none⟩) hlt
  obtain ⟨h0, h1, h2, h3, h4, h5, h6, h7, h8⟩ := h
  exact ⟨(e _).trans h0, (e _).trans h1, (e _).trans h2, (e _).trans h3, (e _).trans h4, (e _).trans h5, (e _).trans h6, (e _).trans h7, (e _).trans h8⟩
end Go.Proofs.YtjakeidbajkdcaaGreatDoor.T
/- Sub, Norm, SameList, the document's. -/
namespace Go.Proofs.YtjakeidbajkdcaaGreatDoor.T
open Go.RowKit Go.Shelf
/-- What is made of nodes: an Expr of the call's own. -/
def NPost (N : List Nd) (w : World) (e : Ending) (w' : World) : Prop := ∃ A c ps, e = .returned (.agg #[.slice A N.length c]) ∧ ps.map Prod.fst = N ∧ OwnN w.heap.size w' (.slice A N.length c) ps ∧ Below w.heap.size w w'
theorem ownN_low {B B' : Nat} {W : World} {v : Value} {ps : List (Nd × Value)} (h : OwnN B' W v ps) (hB : B ≤ B') : OwnN B W v ps := ⟨row_mono h.1 hB, fun x hx => row_mono (h.2 x hx) hB⟩
end Go.Proofs.YtjakeidbajkdcaaGreatDoor.T
/- Texts of programs: how tight a node is, how an operation is written; the text of a node, as a function. -/
namespace Go.Proofs.YtjakeidbajkdcaaGreatDoor.S
open T Go.RowKit
/-- How tight a node is. -/
def tight (k n : Int) : Int := if k = 5 ∨ k = 7 ∨ k = 8 ∨ k = 9 then 0 else if k = 10 then (if n = 5 ∨ n = 6 then 1 else if n = 3 ∨ n = 4 then 3 else 2) else if k = 13 then 4 else if k = 6 then 5 else if k = 12 then 6 else 7
/-- How an operation is written. -/
def sgn (n : Int) : ByteArray := if n = 1 then ⟨#[43]⟩ else if n = 2 then ⟨#[45]⟩ else if n = 3 then ⟨#[42]⟩ else if n = 4 then ⟨#[47]⟩ else if n = 5 then ⟨#[60]⟩ else if n = 6 then ⟨#[61, 61]⟩ else if n = 7 then ⟨#[94]⟩ else ⟨#[]⟩
theorem eqt {a b : Int} (h : a = b) : (a == b) = true := by simpa using h
theorem eqf {a b : Int} (h : a ≠ b) : (a == b) = false := by simpa using h
section
variable {w : World}
set_option maxRecDepth 100000 in
set_option maxHeartbeats 4000000 in
theorem ptight_is (n t : Int) (ht : (if n = 5 ∨ n = 6 then 1 else if n = 3 ∨ n = 4 then 3 else 2) = t) (w : World) : Calls Tryz.prog 40 #[.int .i64 n] w fun e w' => e = .returned (.int .i64 t) ∧ w = w' := by
  by_cases h5 : n = 5
  · have e5 := eqt h5
    obtain rfl : t = 1 := by rw [← ht, if_pos (.inl h5)]
    clear h5 ht
    go_enter Tryz.func40, Tryz.ntmps40
    go_wp2
    go_ret
    exact ⟨rfl, rfl⟩
  have e5 := eqf h5
  by_cases h6 : n = 6
  · have e6 := eqt h6
    obtain rfl : t = 1 := by rw [← ht, if_pos (.inr h6)]
    clear h5 h6 ht
    go_enter Tryz.func40, Tryz.ntmps40
    go_wp2
    go_ret
    exact ⟨rfl, rfl⟩
  have e6 := eqf h6
  rw [if_neg (by omega)] at ht
  by_cases h3 : n = 3
  · have e3 := eqt h3
    obtain rfl : t = 3 := by rw [← ht, if_pos (.inl h3)]
    clear h5 h6 h3 ht
    go_enter Tryz.func40, Tryz.ntmps40
    go_wp2
    go_ret
    exact ⟨rfl, rfl⟩
  have e3 := eqf h3
  by_cases h4 : n = 4
  · have e4 := eqt h4
    obtain rfl : t = 3 := by rw [← ht, if_pos (.inr h4)]
    clear h5 h6 h3 h4 ht
    go_enter Tryz.func40, Tryz.ntmps40
    go_wp2
    go_ret
    exact ⟨rfl, rfl⟩
  have e4 := eqf h4
  obtain rfl : t = 2 := by rw [← ht, if_neg (by omega)]
  clear h5 h6 h3 h4 ht
  go_enter Tryz.func40, Tryz.ntmps40
  go_wp2
  go_ret
  exact ⟨rfl, rfl⟩
end
end Go.Proofs.YtjakeidbajkdcaaGreatDoor.S
/- How tight a node is, how an operation is written: the program's, the document's. -/
namespace Go.Proofs.YtjakeidbajkdcaaGreatDoor.S
open T Go.RowKit
set_option maxRecDepth 100000 in
set_option maxHeartbeats 4000000 in
theorem tight_is (k a b c n pos : Int) (nm s : ByteArray) (v : Value) (t : Int) (ht : tight k n = t) (w : World) : Calls Tryz.prog 17 #[.agg #[.int .i64 k, .int .i64 a, .int .i64 b, .int .i64 c, .int .i64 n, .string nm, .string s, v, .int .i64 pos]] w fun e w' => e = .returned (.int .i64 t) ∧ Below w.heap.size w w' := by
  have HB := Lib.hid ((Below.refl _ w).alloc (Nat.le_refl _) (.cells #[.int .i64 k, .int .i64 a, .int .i64 b, .int .i64 c, .int .i64 n, .string nm, .string s, v, .int .i64 pos] 37))
  by_cases h5 : k = 5
  · subst h5
    obtain rfl : t = 0 := by rw [← ht]; rfl
    clear ht
    go_enter Tryz.func17, Tryz.ntmps17
    go_wp2
    go_ret
    exact ⟨rfl, HB.out⟩
  by_cases h7 : k = 7
  · subst h7
    obtain rfl : t = 0 := by rw [← ht]; rfl
    clear ht
    go_enter Tryz.func17, Tryz.ntmps17
    go_wp2
    go_ret
    exact ⟨rfl, HB.out⟩
  by_cases h8 : k = 8
  · subst h8
    obtain rfl : t = 0 := by rw [← ht]; rfl
    clear ht
    go_enter Tryz.func17, Tryz.ntmps17
    go_wp2
    go_ret
    exact ⟨rfl, HB.out⟩
  by_cases h9 : k = 9
  · subst h9
    obtain rfl : t = 0 := by rw [← ht]; rfl
    clear ht
    go_enter Tryz.func17, Tryz.ntmps17
    go_wp2
    go_ret
    exact ⟨rfl, HB.out⟩
  by_cases h13 : k = 13
  · subst h13
    obtain rfl : t = 4 := by rw [← ht]; rfl
    clear ht
    go_enter Tryz.func17, Tryz.ntmps17
    go_wp2
    go_ret
    exact ⟨rfl, HB.out⟩
  by_cases h6 : k = 6
  · subst h6
    obtain rfl : t = 5 := by rw [← ht]; rfl
    clear ht
    go_enter Tryz.func17, Tryz.ntmps17
    go_wp2
    go_ret
    exact ⟨rfl, HB.out⟩
  by_cases h12 : k = 12
  · subst h12
    obtain rfl : t = 6 := by rw [← ht]; rfl
    clear ht
    go_enter Tryz.func17, Tryz.ntmps17
    go_wp2
    go_ret
    exact ⟨rfl, HB.out⟩
  by_cases h10 : k = 10
  · subst h10
    have ht2 : (if n = 5 ∨ n = 6 then 1 else if n = 3 ∨ n = 4 then 3 else 2) = t := by rw [← ht]; rfl
    have HP := Lib.hid (ptight_is n t ht2)
    clear ht ht2 h5 h7 h8 h9 h13 h6 h12
    go_enter Tryz.func17, Tryz.ntmps17
    go_wp2_with (go_at_call 40; refine (HP.out _).mono ?_; rintro e w' ⟨rfl, rfl⟩)
    go_ret
    exact ⟨rfl, HB.out⟩
  have ht2 : (7 : Int) = t := by rw [← ht]; unfold tight; rw [if_neg (by omega), if_neg h10, if_neg h13, if_neg h6, if_neg h12]
  subst ht2
  have e5 := eqf h5
  have e7 := eqf h7
  have e8 := eqf h8
  have e9 := eqf h9
  have e10 := eqf h10
  have e13 := eqf h13
  have e6 := eqf h6
  have e12 := eqf h12
  clear ht h5 h7 h8 h9 h13 h6 h12 h10
  go_enter Tryz.func17, Tryz.ntmps17
  go_wp2
  go_ret
  exact ⟨rfl, HB.out⟩
set_option maxRecDepth 100000 in
set_option maxHeartbeats 4000000 in
theorem rtight_is (k a b c n pos : Int) (nm s : ByteArray) (v : Value) (t : Int) (ht : tight k n = t) (w : World) : Calls Tryz.prog 18 #[.agg #[.int .i64 k, .int .i64 a, .int .i64 b, .int .i64 c, .int .i64 n, .string nm, .string s, v, .int .i64 pos]] w fun e w' => e = .returned (.int .i64 t) ∧ Below w.heap.size w w' := by
  have HB := Lib.hid ((Below.refl _ w).alloc (Nat.le_refl _) (.cells #[.int .i64 k, .int .i64 a, .int .i64 b, .int .i64 c, .int .i64 n, .string nm, .string s, v, .int .i64 pos] 37))
  by_cases h5 : k = 5
  · subst h5
    obtain rfl : t = 0 := by rw [← ht]; rfl
    clear ht
    go_enter Tryz.func18, Tryz.ntmps18
    go_wp2
    go_ret
    exact ⟨rfl, HB.out⟩
  by_cases h7 : k = 7
  · subst h7
    obtain rfl : t = 0 := by rw [← ht]; rfl
    clear ht
    go_enter Tryz.func18, Tryz.ntmps18
    go_wp2
    go_ret
    exact ⟨rfl, HB.out⟩
  by_cases h8 : k = 8
  · subst h8
    obtain rfl : t = 0 := by rw [← ht]; rfl
    clear ht
    go_enter Tryz.func18, Tryz.ntmps18
    go_wp2
    go_ret
    exact ⟨rfl, HB.out⟩
  by_cases h9 : k = 9
  · subst h9
    obtain rfl : t = 0 := by rw [← ht]; rfl
    clear ht
    go_enter Tryz.func18, Tryz.ntmps18
    go_wp2
    go_ret
    exact ⟨rfl, HB.out⟩
  by_cases h13 : k = 13
  · subst h13
    obtain rfl : t = 4 := by rw [← ht]; rfl
    clear ht
    go_enter Tryz.func18, Tryz.ntmps18
    go_wp2
    go_ret
    exact ⟨rfl, HB.out⟩
  by_cases h6 : k = 6
  · subst h6
    obtain rfl : t = 5 := by rw [← ht]; rfl
    clear ht
    go_enter Tryz.func18, Tryz.ntmps18
    go_wp2
    go_ret
    exact ⟨rfl, HB.out⟩
  by_cases h12 : k = 12
  · subst h12
    obtain rfl : t = 6 := by rw [← ht]; rfl
    clear ht
    go_enter Tryz.func18, Tryz.ntmps18
    go_wp2
    go_ret
    exact ⟨rfl, HB.out⟩
  by_cases h10 : k = 10
  · subst h10
    clear h5 h7 h8 h9 h13 h6 h12
    by_cases g5 : n = 5
    · subst g5
      obtain rfl : t = 1 := by rw [← ht]; rfl
      clear ht
      go_enter Tryz.func18, Tryz.ntmps18
      go_wp2
      go_ret
      exact ⟨rfl, HB.out⟩
    by_cases g6 : n = 6
    · subst g6
      obtain rfl : t = 1 := by rw [← ht]; rfl
      clear ht
      go_enter Tryz.func18, Tryz.ntmps18
      go_wp2
      go_ret
      exact ⟨rfl, HB.out⟩
    by_cases g3 : n = 3
    · subst g3
      obtain rfl : t = 3 := by rw [← ht]; rfl
      clear ht
      go_enter Tryz.func18, Tryz.ntmps18
      go_wp2
      go_ret
      exact ⟨rfl, HB.out⟩
    by_cases g4 : n = 4
    · subst g4
      obtain rfl : t = 3 := by rw [← ht]; rfl
      clear ht
      go_enter Tryz.func18, Tryz.ntmps18
      go_wp2
      go_ret
      exact ⟨rfl, HB.out⟩
    have ht2 : (if n = 5 ∨ n = 6 then 1 else if n = 3 ∨ n = 4 then 3 else 2) = t := by rw [← ht]; rfl
    rw [if_neg (by omega), if_neg (by omega)] at ht2
    subst ht2
    have e5 := eqf g5
    have e6 := eqf g6
    have e3 := eqf g3
    have e4 := eqf g4
    clear ht g5 g6 g3 g4
    go_enter Tryz.func18, Tryz.ntmps18
    go_wp2
    go_ret
    exact ⟨rfl, HB.out⟩
  have ht2 : (7 : Int) = t := by rw [← ht]; unfold tight; rw [if_neg (by omega), if_neg h10, if_neg h13, if_neg h6, if_neg h12]
  subst ht2
  have e5 := eqf h5
  have e7 := eqf h7
  have e8 := eqf h8
  have e9 := eqf h9
  have e10 := eqf h10
  have e13 := eqf h13
  have e6 := eqf h6
  have e12 := eqf h12
  clear ht h5 h7 h8 h9 h13 h6 h12 h10
  go_enter Tryz.func18, Tryz.ntmps18
  go_wp2
  go_ret
  exact ⟨rfl, HB.out⟩
set_option maxRecDepth 100000 in
set_option maxHeartbeats 4000000 in
theorem sign_is (n : Int) (t : ByteArray) (ht : sgn n = t) (w : World) : Calls Tryz.prog 19 #[.int .i64 n] w fun e w' => e = .returned (.string t) ∧ Below w.heap.size w w' := by
  by_cases h1 : n = 1
  · subst h1
    obtain rfl : t = ⟨#[43]⟩ := by rw [← ht]; rfl
    clear ht
    go_enter Tryz.func19, Tryz.ntmps19
    go_wp2
    go_ret
    exact ⟨rfl, Below.refl _ w⟩
  by_cases h2 : n = 2
  · subst h2
    obtain rfl : t = ⟨#[45]⟩ := by rw [← ht]; rfl
    clear ht
    go_enter Tryz.func19, Tryz.ntmps19
    go_wp2
    go_ret
    exact ⟨rfl, Below.refl _ w⟩
  by_cases h3 : n = 3
  · subst h3
    obtain rfl : t = ⟨#[42]⟩ := by rw [← ht]; rfl
    clear ht
    go_enter Tryz.func19, Tryz.ntmps19
    go_wp2
    go_ret
    exact ⟨rfl, Below.refl _ w⟩
  by_cases h4 : n = 4
  · subst h4
    obtain rfl : t = ⟨#[47]⟩ := by rw [← ht]; rfl
    clear ht
    go_enter Tryz.func19, Tryz.ntmps19
    go_wp2
    go_ret
    exact ⟨rfl, Below.refl _ w⟩
  by_cases h5 : n = 5
  · subst h5
    obtain rfl : t = ⟨#[60]⟩ := by rw [← ht]; rfl
    clear ht
    go_enter Tryz.func19, Tryz.ntmps19
    go_wp2
    go_ret
    exact ⟨rfl, Below.refl _ w⟩
  by_cases h6 : n = 6
  · subst h6
    obtain rfl : t = ⟨#[61, 61]⟩ := by rw [← ht]; rfl
    clear ht
    go_enter Tryz.func19, Tryz.ntmps19
    go_wp2
    go_ret
    exact ⟨rfl, Below.refl _ w⟩
  by_cases h7 : n = 7
  · subst h7
    obtain rfl : t = ⟨#[94]⟩ := by rw [← ht]; rfl
    clear ht
    go_enter Tryz.func19, Tryz.ntmps19
    go_wp2
    go_ret
    exact ⟨rfl, Below.refl _ w⟩
  have ht2 : ⟨#[]⟩ = t := by rw [← ht]; unfold sgn; rw [if_neg h1, if_neg h2, if_neg h3, if_neg h4, if_neg h5, if_neg h6, if_neg h7]
  subst ht2
  clear ht
  have e1 := eqf h1
  have e2 := eqf h2
  have e3 := eqf h3
  have e4 := eqf h4
  have e5 := eqf h5
  have e6 := eqf h6
  have e7 := eqf h7
  clear h1 h2 h3 h4 h5 h6 h7
  go_enter Tryz.func19, Tryz.ntmps19
  go_wp2
  go_ret
  exact ⟨rfl, Below.refl _ w⟩
set_option maxRecDepth 100000 in
set_option maxHeartbeats 4000000 in
theorem rsign_is (n : Int) (t : ByteArray) (ht : sgn n = t) (w : World) : Calls Tryz.prog 20 #[.int .i64 n] w fun e w' => e = .returned (.string t) ∧ Below w.heap.size w w' := by
  by_cases h1 : n = 1
  · subst h1
    obtain rfl : t = ⟨#[43]⟩ := by rw [← ht]; rfl
    clear ht
    go_enter Tryz.func20, Tryz.ntmps20
    go_wp2
    go_ret
    exact ⟨rfl, (Below.refl _ w).alloc (Nat.le_refl _) _⟩
  by_cases h2 : n = 2
  · subst h2
    obtain rfl : t = ⟨#[45]⟩ := by rw [← ht]; rfl
    clear ht
    go_enter Tryz.func20, Tryz.ntmps20
    go_wp2
    go_ret
    exact ⟨rfl, (Below.refl _ w).alloc (Nat.le_refl _) _⟩
  by_cases h3 : n = 3
  · subst h3
    obtain rfl : t = ⟨#[42]⟩ := by rw [← ht]; rfl
    clear ht
    go_enter Tryz.func20, Tryz.ntmps20
    go_wp2
    go_ret
    exact ⟨rfl, (Below.refl _ w).alloc (Nat.le_refl _) _⟩
  by_cases h4 : n = 4
  · subst h4
    obtain rfl : t = ⟨#[47]⟩ := by rw [← ht]; rfl
    clear ht
    go_enter Tryz.func20, Tryz.ntmps20
    go_wp2
    go_ret
    exact ⟨rfl, (Below.refl _ w).alloc (Nat.le_refl _) _⟩
  by_cases h5 : n = 5
  · subst h5
    obtain rfl : t = ⟨#[60]⟩ := by rw [← ht]; rfl
    clear ht
    go_enter Tryz.func20, Tryz.ntmps20
    go_wp2
    go_ret
    exact ⟨rfl, (Below.refl _ w).alloc (Nat.le_refl _) _⟩
  by_cases h6 : n = 6
  · subst h6
    obtain rfl : t = ⟨#[61, 61]⟩ := by rw [← ht]; rfl
    clear ht
    go_enter Tryz.func20, Tryz.ntmps20
    go_wp2
    go_ret
    exact ⟨rfl, (Below.refl _ w).alloc (Nat.le_refl _) _⟩
  by_cases h7 : n = 7
  · subst h7
    obtain rfl : t = ⟨#[94]⟩ := by rw [← ht]; rfl
    clear ht
    go_enter Tryz.func20, Tryz.ntmps20
    go_wp2
    go_ret
    exact ⟨rfl, (Below.refl _ w).alloc (Nat.le_refl _) _⟩
  have ht2 : ⟨#[]⟩ = t := by rw [← ht]; unfold sgn; rw [if_neg h1, if_neg h2, if_neg h3, if_neg h4, if_neg h5, if_neg h6, if_neg h7]
  subst ht2
  clear ht
  by_cases g : n < 1
  · clear h1 h2 h3 h4 h5 h6 h7
    go_enter Tryz.func20, Tryz.ntmps20
    go_wp2
    go_ret
    exact ⟨rfl, (Below.refl _ w).alloc (Nat.le_refl _) _⟩
  · have g2 : 7 < n := by omega
    clear h1 h2 h3 h4 h5 h6 h7
    go_enter Tryz.func20, Tryz.ntmps20
    go_wp2
    go_ret
    exact ⟨rfl, (Below.refl _ w).alloc (Nat.le_refl _) _⟩
end Go.Proofs.YtjakeidbajkdcaaGreatDoor.S
/- Join: trees put behind one another; what stays through its walk. -/
namespace Go.Proofs.YtjakeidbajkdcaaGreatDoor.T
open Go.RowKit Go.Shelf
/-- A node whose children stand further on. -/
def sh (f : Nat) (m : Nd) : Nd := wk m ((kids m).map (· + (f : Int)))
/-- One tree more behind the others, and its root's place. -/
def jstep (p : List Nd × List Int) (e : List Nd) : List Nd × List Int := (p.1 ++ e.map (sh p.1.length), p.2 ++ [((p.1.length + e.length : Nat) : Int) - 1])
def jn (ll : List (List Nd)) : List Nd × List Int := ll.foldl jstep ([], [])
theorem jn_snoc (ll : List (List Nd)) (e : List Nd) : jn (ll ++ [e]) = jstep (jn ll) e := by simp [jn]
theorem jn_len : ∀ ll : List (List Nd), (jn ll).1.length = (ll.map List.length).sum ∧ (jn ll).2.length = ll.length := by
  intro ll
  induction ll using snocInd with
  | h0 => exact ⟨rfl, rfl⟩
  | h1 ll e ih =>
    rw [jn_snoc]
    refine ⟨?_, ?_⟩
    · simp [jstep, ih.1]
    · simp [jstep, ih.2]
def joinN (x : Nd) (ll : List (List Nd)) : List Nd := (jn ll).1 ++ [wk x (jn ll).2]
/-- Expressions in memory. -/
def Exprs (B : Nat) (W : World) (v : Value) (ll : List (List Nd)) : Prop :=
  ∃ A c, v = .slice A ll.length c ∧ ll.length ≤ c ∧ (A = none → c = 0) ∧ (0 < ll.length → ∃ b o, A = some ⟨b, o, none⟩ ∧ b < B ∧ ∀ j e, ll[j]? = some e → ∃ Ae ce, W.cell? ⟨b, o + j, none⟩ = some (.slice Ae e.length ce) ∧ Nodes B W (.slice Ae e.length ce) e)
theorem Exprs.below {B : Nat} {W W' : World} {v : Value} {ll : List (List Nd)} (h : Exprs B W v ll) (hb : Below B W W') : Exprs B W' v ll := by
  obtain ⟨A, c, h1, h2, h3, h4⟩ := h
  refine ⟨A, c, h1, h2, h3, fun h0 => ?_⟩
  obtain ⟨b, o, e1, e2, e3⟩ := h4 h0
  refine ⟨b, o, e1, e2, fun j e he => ?_⟩
  obtain ⟨Ae, ce, c1, c2⟩ := e3 j e he
  exact ⟨Ae, ce, (hb.cell (p := ⟨b, o + j, none⟩) e2).trans c1, c2.below hb⟩
theorem Exprs.mono {B B' : Nat} {W : World} {v : Value} {ll : List (List Nd)} (h : Exprs B W v ll) (hB : B ≤ B') : Exprs B' W v ll := by
  obtain ⟨A, c, h1, h2, h3, h4⟩ := h
  refine ⟨A, c, h1, h2, h3, fun h0 => ?_⟩
  obtain ⟨b, o, e1, e2, e3⟩ := h4 h0
  exact ⟨b, o, e1, by omega, fun j e he => by obtain ⟨Ae, ce, c1, c2⟩ := e3 j e he; exact ⟨Ae, ce, c1, c2.mono hB⟩⟩
/-- Where Join stands: what is put together, the roots, the boxes. -/
def JSt (N : List Nd) (J : List Int) (cx : Array Value) (w W : World) (v u : Value) (q : Nat) : Prop :=
  (∃ ps, ps.map Prod.fst = N ∧ OwnN (w.heap.size + 3) W v ps) ∧ W.ownsRow (w.heap.size + 3) 3 1 u q (J.map (Value.int .i64)) ∧ W.heap[w.heap.size]? = some (.cells cx 37 (0, 0)) ∧ W.heap[w.heap.size + 1]? = some (.cells #[.slice none 0 0] 25 (0, 0)) ∧ W.heap[w.heap.size + 2]? = some (.cells #[v] 25 (0, 0)) ∧ Below w.heap.size w W
section
variable {N : List Nd} {J : List Int} {cx : Array Value} {w W W' : World} {v v2 u u2 : Value} {q : Nat}
theorem JSt.size (h : JSt N J cx w W v u q) : w.heap.size + 3 ≤ W.heap.size := (Array.getElem?_eq_some_iff.1 h.2.2.2.2.1).1
theorem JSt.c (h : JSt N J cx w W v u q) : W.cell? ⟨w.heap.size + 2, 0, none⟩ = some v := (Blk_cell h.2.2.2.2.1 0).trans rfl
end
end Go.Proofs.YtjakeidbajkdcaaGreatDoor.T
/- A copy of what is below a node, behind others, is the copy alone with its children further on; a node and the copies of its children, joined, are the copy of the node. -/
namespace Go.Proofs.YtjakeidbajkdcaaGreatDoor.T
open Go.RowKit
theorem relab_pl : ∀ (l : List Fld) (ks : List Int), ks.length = l.length → (relab l ks).map Fld.pl = ks
  | [], [], _ => rfl
  | [], _ :: _, h => by simp at h
  | _ :: _, [], h => by simp at h
  | f :: l, k :: ks, h => by
    have := relab_pl l ks (by simpa using h)
    simpa [relab] using this
theorem relab_two : ∀ (l : List Fld) (ks js : List Int), ks.length = l.length → relab (relab l ks) js = relab l js
  | [], [], _, _ => by simp [relab]
  | [], _ :: _, _, h => by simp at h
  | _ :: _, [], _, h => by simp at h
  | f :: l, k :: ks, [], _ => by simp [relab]
  | f :: l, k :: ks, j :: js, h => by
    have := relab_two l ks js (by simpa using h)
    simpa [relab] using this
theorem own_wk (x : Nd) (ks : List Int) : own (wk x ks) = own x := by
  unfold own kids0 wk
  simp only
  repeat' split
  all_goals simp_all
theorem many_wk (x : Nd) (ks : List Int) : many (wk x ks) = many x := rfl
theorem kids_length (x : Nd) : (kids x).length = own x + if many x = true then x.l.length else 0 := by
  rw [kids, List.length_append, own]
  split <;> simp
theorem kids_wk {x : Nd} {ks : List Int} (h : ks.length = (kids x).length) : kids (wk x ks) = ks := by
  rw [kids_length] at h
  have hd : many x = true → (ks.drop (own x)).length = x.l.length := fun hm => by rw [List.length_drop, h, if_pos hm]; omega
  rw [kids, many_wk]
  have e0 : kids0 (wk x ks) = ks.take (own x) := by
    have hl : own x ≤ ks.length := by omega
    unfold wk
    unfold own at hl ⊢
    by_cases h1 : x.kind = 5 ∨ x.kind = 12 ∨ x.kind = 13 ∨ x.kind = 14
    · simp only [kids0, if_pos h1, List.length_cons, List.length_nil] at hl ⊢
      match ks, hl with
      | [], hl => simp at hl
      | a :: _, _ => simp
    · by_cases h2 : x.kind = 6 ∨ x.kind = 7 ∨ x.kind = 8 ∨ x.kind = 10
      · simp only [kids0, if_neg h1, if_pos h2, List.length_cons, List.length_nil] at hl ⊢
        match ks, hl with
        | [], hl => simp at hl
        | [_], hl => simp at hl
        | a :: b :: _, _ => simp
      · by_cases h3 : x.kind = 9
        · simp only [kids0, if_neg h1, if_neg h2, if_pos h3, List.length_cons, List.length_nil] at hl ⊢
          match ks, hl with
          | [], hl => simp at hl
          | [_], hl => simp at hl
          | [_, _], hl => simp at hl
          | a :: b :: c :: _, _ => simp
        · simp only [kids0, if_neg h1, if_neg h2, if_neg h3, List.length_nil] at hl ⊢
          simp
  rw [e0]
  by_cases hm : many x = true
  · rw [if_pos hm]
    have e1 : (wk x ks).l = relab x.l (ks.drop (own x)) := by show (if many x = true then _ else _) = _; rw [if_pos hm]
    rw [e1, relab_pl _ _ (hd hm), List.take_append_drop]
  · rw [if_neg hm, List.append_nil]
    rw [if_neg hm] at h
    exact List.take_of_length_le (by omega)
theorem wk_two {x : Nd} {ks js : List Int} (h : ks.length = (kids x).length) : wk (wk x ks) js = wk x js := by
  rw [kids_length] at h
  have ho := own_wk x ks
  show ({ wk x ks with a := _, b := _, c := _, l := _ } : Nd) = _
  rw [ho, many_wk]
  unfold wk
  by_cases hm : many x = true
  · rw [if_pos hm] at h
    simp only [hm, if_true]
    rw [relab_two _ _ _ (by rw [List.length_drop]; omega)]
  · simp only [hm]
    simp
theorem sh_sh (f g : Nat) (m : Nd) : sh f (sh g m) = sh (g + f) m := by
  have hl : ((kids m).map (· + (g : Int))).length = (kids m).length := List.length_map _
  unfold sh
  rw [kids_wk hl, wk_two hl, List.map_map]
  congr 1
  apply List.map_congr_left
  intro k _
  simp only [Function.comp]
  omega
theorem cps_len2 (l : List Nd) : ∀ (ks : List Int) (p : List Nd × List Int), (cps l p ks).2.length = p.2.length + ks.length := by
  intro ks
  induction ks using snocInd with
  | h0 => intro p; simp [cps]
  | h1 ks k ih => intro p; rw [cps_snoc]; simp [ih p]; omega
theorem cp_shift {l : List Nd} (hk : kidsOk l) : ∀ i, i < l.length → ∀ out : List Nd, cp l i out = out ++ (cp l i []).map (sh out.length) := by
  intro i
  induction i using Nat.strongRecOn with
  | ind i ih =>
    intro hi out
    have hx : l[i]? = some (l[i]'hi) := List.getElem?_eq_getElem hi
    obtain ⟨x, hx'⟩ : ∃ x, l[i]'hi = x := ⟨_, rfl⟩
    rw [hx'] at hx
    have ha : ahead i x := fun k hk' => hk i x hx k hk'
    have key : ∀ ks : List Int, (∀ k ∈ ks, 0 ≤ k ∧ k < (i : Int)) → cps l (out, []) ks = (out ++ (cps l ([], []) ks).1.map (sh out.length), (cps l ([], []) ks).2.map (· + (out.length : Int))) := by
      intro ks
      induction ks using snocInd with
      | h0 => intro _; simp [cps]
      | h1 ks k ih2 =>
        intro hks
        have h1 := ih2 fun k' hk' => hks k' (by simp [hk'])
        have hkk := hks k (by simp)
        have hlt : k.toNat < i := toNat_lt hkk
        have e : cp l k.toNat (out ++ (cps l ([], []) ks).1.map (sh out.length)) = out ++ (cp l k.toNat (cps l ([], []) ks).1).map (sh out.length) := by
          rw [ih k.toNat hlt (by omega) (out ++ (cps l ([], []) ks).1.map (sh out.length)), ih k.toNat hlt (by omega) (cps l ([], []) ks).1, List.map_append, List.map_map, List.append_assoc]
          congr 2
          apply List.map_congr_left
          intro m _
          simp only [Function.comp]
          rw [sh_sh, List.length_append, List.length_map, Nat.add_comm]
        rw [cps_snoc, cps_snoc, h1]
        simp only
        rw [e]
        simp only [List.map_append, List.map_cons, List.map_nil, List.length_append, List.length_map]
        congr 2
        simp only [List.cons.injEq, and_true]
        omega
    have hks : ∀ k ∈ kids x, 0 ≤ k ∧ k < (i : Int) := fun k hk' => ha k hk'
    have hlen : (cps l ([], []) (kids x)).2.length = (kids x).length := by rw [cps_len2]; simp
    rw [cp_eq hx ha out, cp_eq hx ha [], key _ hks, List.map_append, List.append_assoc]
    simp only [List.map_cons, List.map_nil]
    congr 3
    unfold sh
    rw [kids_wk hlen, wk_two hlen]
end Go.Proofs.YtjakeidbajkdcaaGreatDoor.T
/- The copy of what is below a node is in order: its children stand ahead, each node but the last one is a child once. -/
namespace Go.Proofs.YtjakeidbajkdcaaGreatDoor.T
open Go.RowKit
theorem kidsOk_snoc {N : List Nd} {y : Nd} (h : kidsOk N) (hy : ∀ k ∈ kids y, 0 ≤ k ∧ k < (N.length : Int)) : kidsOk (N ++ [y]) := by
  intro i x hx k hk
  by_cases hi : i < N.length
  · rw [List.getElem?_append_left hi] at hx
    exact h i x hx k hk
  · rw [List.getElem?_append_right (by omega)] at hx
    have hl := (List.getElem?_eq_some_iff.1 hx).1
    simp only [List.length_singleton] at hl
    obtain rfl : i = N.length := by omega
    simp only [Nat.sub_self, List.getElem?_cons_zero, Option.some.injEq] at hx
    subst hx
    exact hy k hk
end Go.Proofs.YtjakeidbajkdcaaGreatDoor.T
/- The copy of what is below a node: a let rec's function stays a function; it is as deep. -/
namespace Go.Proofs.YtjakeidbajkdcaaGreatDoor.T
open Go.RowKit
/-- The kind and the depth of a place. -/
def kd (N : List Nd) (m : Nat) : Option Int × Nat := (N[m]?.map Nd.kind, (deeps N).getD m 0)
end Go.Proofs.YtjakeidbajkdcaaGreatDoor.T
/- In order, a tree stays as it is. -/
namespace Go.Proofs.YtjakeidbajkdcaaGreatDoor.T
open Go.RowKit
theorem relab_nm (k : Int) : ∀ (l : List Fld) (ks : List Int), ks.length = l.length → (relab l ks).length = l.length ∧ (relab l ks).map Fld.nm = l.map Fld.nm ∧ (relab l ks).all (fok k) = l.all (fok k)
  | [], [], _ => ⟨rfl, rfl, rfl⟩
  | [], _ :: _, h => by simp at h
  | _ :: _, [], h => by simp at h
  | f :: l, q :: ks, h => by
    obtain ⟨h1, h2, h3⟩ := relab_nm k l ks (by simpa using h)
    have e : relab (f :: l) (q :: ks) = { f with pl := q } :: relab l ks := rfl
    rw [e]
    refine ⟨by simp [h1], by simp [h2], ?_⟩
    rw [List.all_cons, List.all_cons, h3]
    rfl
end Go.Proofs.YtjakeidbajkdcaaGreatDoor.T
/- Trees in order, joined, are in order. -/
namespace Go.Proofs.YtjakeidbajkdcaaGreatDoor.T
/-- A tree in order. -/
def inOrd (e : List Nd) : Prop := e ≠ [] ∧ kidsOk e ∧ cp e (e.length - 1) [] = e
theorem kids_sh (f : Nat) (x : Nd) : kids (sh f x) = (kids x).map (· + (f : Int)) := by unfold sh; exact kids_wk (List.length_map _)
/-- A copy out of the midst of a list. -/
theorem cp_mid {e : List Nd} (hk : kidsOk e) (P r : List Nd) : ∀ i, i < e.length → ∀ out, cp (P ++ e.map (sh P.length) ++ r) (P.length + i) out = cp e i out := by
  intro i
  induction i using Nat.strongRecOn with
  | ind i ih =>
    intro hi out
    obtain ⟨x, hx⟩ : ∃ x, e[i]? = some x := ⟨_, List.getElem?_eq_getElem hi⟩
    have ha : ahead i x := fun k hk' => hk i x hx k hk'
    have hl : ((kids x).map (· + (P.length : Int))).length = (kids x).length := List.length_map _
    have hy : (P ++ e.map (sh P.length) ++ r)[P.length + i]? = some (sh P.length x) := by
      rw [List.append_assoc, List.getElem?_append_right (by omega), Nat.add_sub_cancel_left, List.getElem?_append_left (by rw [List.length_map]; exact hi), List.getElem?_map, hx]; rfl
    have hb : ahead (P.length + i) (sh P.length x) := fun k hk' => by
      rw [kids_sh, List.mem_map] at hk'
      obtain ⟨m, hm, rfl⟩ := hk'
      have := ha m hm
      omega
    have key : ∀ ks : List Int, (∀ k ∈ ks, 0 ≤ k ∧ k < (i : Int)) → ∀ p, cps (P ++ e.map (sh P.length) ++ r) p (ks.map (· + (P.length : Int))) = cps e p ks := by
      intro ks
      induction ks using snocInd with
      | h0 => intro _ p; rfl
      | h1 ks k ih2 =>
        intro hks p
        have hkk := hks k (by simp)
        have hn : (k + (P.length : Int)).toNat = P.length + k.toNat := by omega
        have hlt := toNat_lt hkk
        rw [List.map_append, List.map_cons, List.map_nil, cps_snoc, cps_snoc, ih2 (fun k' h' => hks k' (by simp [h'])) p, hn, ih k.toNat hlt (by omega)]
    rw [cp_eq hy hb, cp_eq hx ha, kids_sh, key _ ha]
    congr 2
    unfold sh
    rw [wk_two hl]
theorem kidsOk_shift {N e : List Nd} (h1 : kidsOk N) (h2 : kidsOk e) : kidsOk (N ++ e.map (sh N.length)) := by
  intro i x hx k hk
  by_cases hi : i < N.length
  · rw [List.getElem?_append_left hi] at hx; exact h1 i x hx k hk
  · rw [List.getElem?_append_right (by omega), List.getElem?_map, Option.map_eq_some_iff] at hx
    obtain ⟨y, hy, rfl⟩ := hx
    rw [kids_sh, List.mem_map] at hk
    obtain ⟨m, hm, rfl⟩ := hk
    have := h2 _ y hy m hm
    omega
theorem jn_ord : ∀ ll : List (List Nd), (∀ e ∈ ll, inOrd e) → kidsOk (jn ll).1 ∧ (∀ k ∈ (jn ll).2, 0 ≤ k ∧ k < ((jn ll).1.length : Int)) ∧ ∀ r, cps ((jn ll).1 ++ r) ([], []) (jn ll).2 = jn ll := by
  intro ll
  induction ll using snocInd with
  | h0 => intro _; exact ⟨fun i x hx => by simp [jn] at hx, fun k hk => by simp [jn] at hk, fun r => rfl⟩
  | h1 ll e ih =>
    intro h
    obtain ⟨h1, h2, h3⟩ := ih fun x hx => h x (by simp [hx])
    obtain ⟨e0, ek, ec⟩ := h e (by simp)
    have hle : 0 < e.length := List.length_pos_iff.2 e0
    rw [jn_snoc, jstep]
    refine ⟨kidsOk_shift h1 ek, fun k hk => ?_, fun r => ?_⟩
    · simp only [List.mem_append, List.mem_singleton] at hk
      simp only [List.length_append, List.length_map]
      rcases hk with hk | rfl
      · have := h2 k hk; omega
      · omega
    · have e1 := h3 (e.map (sh (jn ll).1.length) ++ r)
      rw [← List.append_assoc] at e1
      have hn : (((((jn ll).1.length + e.length : Nat) : Int) - 1)).toNat = (jn ll).1.length + (e.length - 1) := by omega
      simp only
      rw [cps_snoc, e1, hn, cp_mid ek _ _ _ (by omega), cp_shift ek _ (by omega), ec]
      simp
/-- Trees in order, joined, are in order. -/
theorem ord_join {x : Nd} {ll : List (List Nd)} (h : ∀ e ∈ ll, inOrd e) (hl : ll.length = (kids x).length) : inOrd (joinN x ll) := by
  obtain ⟨h1, h2, h3⟩ := jn_ord ll h
  have hJ : (jn ll).2.length = (kids x).length := (jn_len ll).2.trans hl
  have hk := kids_wk hJ
  refine ⟨by simp [joinN], kidsOk_snoc h1 (by rw [hk]; exact h2), ?_⟩
  have hy : (joinN x ll)[(jn ll).1.length]? = some (wk x (jn ll).2) := by simp [joinN]
  have hn : (joinN x ll).length - 1 = (jn ll).1.length := by simp [joinN]
  rw [hn, cp_eq hy (by intro k hk'; rw [hk] at hk'; exact h2 k hk'), hk]
  unfold joinN
  rw [h3, wk_two hJ]
end Go.Proofs.YtjakeidbajkdcaaGreatDoor.T
/- Join, the document's. -/
namespace Go.Proofs.YtjakeidbajkdcaaGreatDoor.T
open Go.RowKit Go.Shelf
/-- Where the document's Join stands. -/
def RSt (N : List Nd) (J : List Int) (cx : Array Value) (w W : World) (v u : Value) (q : Nat) : Prop :=
  (∃ ps, ps.map Prod.fst = N ∧ OwnN (w.heap.size + 2) W v ps) ∧ W.ownsRow (w.heap.size + 2) 3 1 u q (J.map (Value.int .i64)) ∧ W.heap[w.heap.size]? = some (.cells cx 37 (0, 0)) ∧ W.heap[w.heap.size + 1]? = some (.cells #[.slice none 0 0] 25 (0, 0)) ∧ Below w.heap.size w W
section
variable {N : List Nd} {J : List Int} {cx : Array Value} {w W W' : World} {v v2 u u2 : Value} {q : Nat}
theorem RSt.size (h : RSt N J cx w W v u q) : w.heap.size + 2 ≤ W.heap.size := (Array.getElem?_eq_some_iff.1 h.2.2.2.1).1
end
theorem res28 (tmps : Array Value) (W : World) (p : Nat) (A : Option Addr) (n c : Nat) (h2 : tmps[4]?.getD undef = .pointer (some ⟨p, 0, none⟩)) (hb : W.cell? ⟨p, 0, none⟩ = some (.slice A n c)) :
    Sem.run Tryz.prog (results Tryz.f136 tmps) W = .ok (.agg #[.slice A n c]) W := by
  simp [results, Tryz.results136, go_sem, h2, hb]
end Go.Proofs.YtjakeidbajkdcaaGreatDoor.T
