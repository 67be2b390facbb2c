/- Joined by program. -/
import Derived.Test.YtjakeidbajkdcaaGreatDoorH11
import Derived.Test.YtjakeidbajkdcaaGreatDoorH00
import Derived.Test.YtjakeidbajkdcaaGreatDoorH12
import Derived.Test.YtjakeidbajkdcaaGreatDoorH02
import Derived.Maps.AppendAt
set_option maxRecDepth 100000
set_option maxHeartbeats 4000000
namespace Go.Proofs.YtjakeidbajkdcaaGreatDoor.T
open Go.RowKit Go.Shelf
attribute [local go_sem] Oper.semAt_some
def heldAppend (ats : Array TypeId) (ty : TypeId) (args : Array Value) : Sem Value := Builtin.append_ ats ty args
theorem builtin_held (ats : Array TypeId) (ty : TypeId) (cs : Array Bool) (args : Array Value) : builtin .append ats ty cs args = (do pure (.value (<- heldAppend ats ty args))) := rfl
attribute [local go_sem ↓ 2000] builtin_held
theorem ownN_nil (B : Nat) (W : World) : OwnN B W (.slice none 0 0) [] := ⟨World.ownsRow_nil _ _ _ _, fun x hx => by simp at hx⟩
def made (l : List Nd) (L : Nat) (pre : List (Fin L)) : List Nd × List Int := (pre.map Fin.val).foldl (stp l) ([], List.replicate L 0)
def KRow (W : World) (g : Nat) (U : List Int) : Prop := ∃ cur : Array Value, W.heap[g]? = some (.cells cur 3 (0, 0)) /\ ∀ (j : Nat) (z : Int), U[j]? = some z -> cur[j]? = some (.int .i64 z)
theorem KRow.row {W : World} {g : Nat} {U : List Int} (h : KRow W g U) : Row0 W g U := fun j z hz => by
  obtain ⟨cur, h1, h2⟩ := h
  rw [Blk_cell h1]; exact h2 j z hz
theorem KRow.frozen {W : World} {g : Nat} {U : List Int} (h : KRow W g U) (j : Nat) : W.frozen? ⟨g, j, none⟩ = false := by
  obtain ⟨cur, h1, h2⟩ := h
  exact Blk_frozen h1 j
theorem KRow.heap {W W' : World} {g : Nat} {U : List Int} (h : KRow W g U) (he : W'.heap[g]? = W.heap[g]?) : KRow W' g U := by
  obtain ⟨cur, h1, h2⟩ := h
  exact ⟨cur, he.trans h1, h2⟩
theorem row_heap {W W' : World} {B e size n : Nat} {v : Value} {xs : List Value} (h : W.ownsRow B e size v n xs) (hh : ∀ g, B <= g -> g < W.heap.size -> W'.heap[g]? = W.heap[g]?) : W'.ownsRow B e size v n xs := by
  refine ⟨h.1, ?_⟩
  rcases h.2 with h | ⟨g, cap, cur, h1, h2, h3, h4⟩
  · exact .inl h
  · exact .inr ⟨g, cap, cur, h1, h2, (hh g h2 (Array.getElem?_eq_some_iff.1 h3).1).trans h3, h4⟩
theorem ownN_heap {W W' : World} {B : Nat} {v : Value} {ps : List (Nd × Value)} (h : OwnN B W v ps) (hh : ∀ g, B <= g -> g < W.heap.size -> W'.heap[g]? = W.heap[g]?) : OwnN B W' v ps := ⟨row_heap h.1 hh, fun x hx => row_heap (h.2 x hx) hh⟩
theorem own27 {W : World} {B n : Nat} {v : Value} {xs : List Value} (h : W.ownsRow B 37 9 v n xs) : ∀ r, v.ownBlock = some r -> B <= r /\ ∃ cur, W.heap[r]? = some (.cells cur 37 (0, 0)) := fun r hr => by
  rcases h.2 with ⟨rfl, _⟩ | ⟨g, cap, cur, rfl, h2, h3, _⟩
  · cases hr
  · cases hr; exact ⟨h2, cur, h3⟩
open Go.RowKit Go.Shelf
attribute [local go_sem] Oper.semAt_some
theorem nextAt {W : World} {o x : Obj} {k : Nat} (h : W.heap[k]? = some x) : (W.alloc o).heap[k]? = some x := (Below.heap_alloc W o k (Array.getElem?_eq_some_iff.1 h).1).trans h
theorem newAt {W : World} {o : Obj} {n : Nat} (h : W.heap.size = n) : (W.alloc o).heap[n]? = some o := h ▸ World.alloc_heap_new W o
open Go.RowKit Go.Shelf
theorem own_slice {B : Nat} {W : World} {v : Value} {ps : List (Nd × Value)} (h : OwnN B W v ps) : ∃ A c, v = .slice A ps.length c := by
  rcases h.1.2 with ⟨rfl, h0⟩ | ⟨g, cap, cur, rfl, _⟩
  · exact ⟨none, 0, by rw [h0]⟩
  · exact ⟨_, _, rfl⟩
noncomputable def nrm (l : List Nd) : List Nd := if may l = 0 then cp l (l.length - 1) [] else []
theorem may_big {l : List Nd} (h : may l = 0) : 1 <= l.length /\ l.length <= 600 := by
  have := (may_zero h).1
  omega
open Go.RowKit Go.Shelf
def zero9 : Array Value := #[.int .i64 0, .int .i64 0, .int .i64 0, .int .i64 0, .int .i64 0, .string ⟨#[]⟩, .string ⟨#[]⟩, .slice none 0 0, .int .i64 0]
def RWPost (y : Nd) (w : World) (e : Ending) (w' : World) : Prop := ∃ v, e = .returned (.agg (ndArr y v)) /\ OwnF w.heap.size w' v y.l /\ Below w.heap.size w w'
theorem put9 {W : World} {b : Nat} {cs : Array Value} (hs : cs.size = 9) (h : W.heap[b]? = some (.cells cs 37 (0, 0))) (c0 c1 c2 c3 c4 c5 c6 c7 c8 : Value) :
    (((((((((W.setCell ⟨b, 0, none⟩ c0).setCell ⟨b, 1, none⟩ c1).setCell ⟨b, 2, none⟩ c2).setCell ⟨b, 3, none⟩ c3).setCell ⟨b, 4, none⟩ c4).setCell ⟨b, 5, none⟩ c5).setCell ⟨b, 6, none⟩ c6).setCell ⟨b, 7, none⟩ c7).setCell ⟨b, 8, none⟩ c8).heap[b]? = some (.cells #[c0, c1, c2, c3, c4, c5, c6, c7, c8] 37 (0, 0)) := by
  obtain ⟨cs⟩ := cs
  match cs, hs with
  | [a0, a1, a2, a3, a4, a5, a6, a7, a8], _ =>
    have g0 : (W.setCell ⟨b, 0, none⟩ c0).heap[b]? = some (.cells #[c0, a1, a2, a3, a4, a5, a6, a7, a8] 37 (0, 0)) := blk_put (j := 0) (v := c0) h
    have g1 : ((W.setCell ⟨b, 0, none⟩ c0).setCell ⟨b, 1, none⟩ c1).heap[b]? = some (.cells #[c0, c1, a2, a3, a4, a5, a6, a7, a8] 37 (0, 0)) := blk_put (j := 1) (v := c1) g0
    have g2 : (((W.setCell ⟨b, 0, none⟩ c0).setCell ⟨b, 1, none⟩ c1).setCell ⟨b, 2, none⟩ c2).heap[b]? = some (.cells #[c0, c1, c2, a3, a4, a5, a6, a7, a8] 37 (0, 0)) := blk_put (j := 2) (v := c2) g1
    have g3 : ((((W.setCell ⟨b, 0, none⟩ c0).setCell ⟨b, 1, none⟩ c1).setCell ⟨b, 2, none⟩ c2).setCell ⟨b, 3, none⟩ c3).heap[b]? = some (.cells #[c0, c1, c2, c3, a4, a5, a6, a7, a8] 37 (0, 0)) := blk_put (j := 3) (v := c3) g2
    have g4 : (((((W.setCell ⟨b, 0, none⟩ c0).setCell ⟨b, 1, none⟩ c1).setCell ⟨b, 2, none⟩ c2).setCell ⟨b, 3, none⟩ c3).setCell ⟨b, 4, none⟩ c4).heap[b]? = some (.cells #[c0, c1, c2, c3, c4, a5, a6, a7, a8] 37 (0, 0)) := blk_put (j := 4) (v := c4) g3
    have g5 : ((((((W.setCell ⟨b, 0, none⟩ c0).setCell ⟨b, 1, none⟩ c1).setCell ⟨b, 2, none⟩ c2).setCell ⟨b, 3, none⟩ c3).setCell ⟨b, 4, none⟩ c4).setCell ⟨b, 5, none⟩ c5).heap[b]? = some (.cells #[c0, c1, c2, c3, c4, c5, a6, a7, a8] 37 (0, 0)) := blk_put (j := 5) (v := c5) g4
    have g6 : (((((((W.setCell ⟨b, 0, none⟩ c0).setCell ⟨b, 1, none⟩ c1).setCell ⟨b, 2, none⟩ c2).setCell ⟨b, 3, none⟩ c3).setCell ⟨b, 4, none⟩ c4).setCell ⟨b, 5, none⟩ c5).setCell ⟨b, 6, none⟩ c6).heap[b]? = some (.cells #[c0, c1, c2, c3, c4, c5, c6, a7, a8] 37 (0, 0)) := blk_put (j := 6) (v := c6) g5
    have g7 : ((((((((W.setCell ⟨b, 0, none⟩ c0).setCell ⟨b, 1, none⟩ c1).setCell ⟨b, 2, none⟩ c2).setCell ⟨b, 3, none⟩ c3).setCell ⟨b, 4, none⟩ c4).setCell ⟨b, 5, none⟩ c5).setCell ⟨b, 6, none⟩ c6).setCell ⟨b, 7, none⟩ c7).heap[b]? = some (.cells #[c0, c1, c2, c3, c4, c5, c6, c7, a8] 37 (0, 0)) := blk_put (j := 7) (v := c7) g6
    have g8 : (((((((((W.setCell ⟨b, 0, none⟩ c0).setCell ⟨b, 1, none⟩ c1).setCell ⟨b, 2, none⟩ c2).setCell ⟨b, 3, none⟩ c3).setCell ⟨b, 4, none⟩ c4).setCell ⟨b, 5, none⟩ c5).setCell ⟨b, 6, none⟩ c6).setCell ⟨b, 7, none⟩ c7).setCell ⟨b, 8, none⟩ c8).heap[b]? = some (.cells #[c0, c1, c2, c3, c4, c5, c6, c7, c8] 37 (0, 0)) := blk_put (j := 8) (v := c8) g7
    exact g8
theorem put9_far (W : World) (b k : Nat) (c0 c1 c2 c3 c4 c5 c6 c7 c8 : Value) (hk : k ≠ b) :
    (((((((((W.setCell ⟨b, 0, none⟩ c0).setCell ⟨b, 1, none⟩ c1).setCell ⟨b, 2, none⟩ c2).setCell ⟨b, 3, none⟩ c3).setCell ⟨b, 4, none⟩ c4).setCell ⟨b, 5, none⟩ c5).setCell ⟨b, 6, none⟩ c6).setCell ⟨b, 7, none⟩ c7).setCell ⟨b, 8, none⟩ c8).heap[k]? = W.heap[k]? := by
  simp only [set_far _ _ _ _ _ hk]
theorem res53 (tmps : Array Value) (W : World) (p : Nat) (c0 c1 c2 c3 c4 c5 c6 c7 c8 : Value) (h2 : tmps[4]?.getD undef = .pointer (some ⟨p, 0, none⟩)) (h : W.heap[p]? = some (.cells #[c0, c1, c2, c3, c4, c5, c6, c7, c8] 37 (0, 0))) :
    Sem.run Tryz.prog (results Tryz.f147 tmps) W = .ok (.agg #[c0, c1, c2, c3, c4, c5, c6, c7, c8]) W := by
  obtain ⟨q0, q1, q2, q3, q4, q5, q6, q7, q8, _⟩ := cells9 h
  simp [results, Tryz.results147, go_sem, h2, q0, q1, q2, q3, q4, q5, q6, q7, q8]
theorem relab_at {l : List Fld} {ks : List Int} {q : Nat} {f : Fld} {k : Int} (hf : l[q]? = some f) (hk : ks[q]? = some k) : (relab l ks)[q]? = some { f with pl := k } := by
  simp [relab, List.getElem?_zipWith, hf, hk]
theorem fCells_snoc (l : List Fld) (f : Fld) : fCells (l ++ [f]) = fCells l ++ [.string f.nm, .string f.vr, .int .i64 f.pl] := by simp [fCells]
theorem rwith_n0 (k a b c nn pos  : Int) (nm s : ByteArray) (FA : Option Addr) (FL fc : Nat) (h11 : (k == 11) = false) (h14 : (k == 14) = false) (g cg : Nat) (w : World) (_hg : g < w.heap.size) :
    Calls Tryz.prog 147 #[.agg #[.int .i64 k, .int .i64 a, .int .i64 b, .int .i64 c, .int .i64 nn, .string nm, .string s, .slice FA FL fc, .int .i64 pos], .slice (some ⟨g, 0, none⟩) 0 cg] w fun e w' => e = .returned (.agg #[.int .i64 k, .int .i64 0, .int .i64 0, .int .i64 0, .int .i64 nn, .string nm, .string s, .slice none 0 0, .int .i64 pos]) /\ Below w.heap.size w w' := by
  go_enter Tryz.func147, Tryz.ntmps147
  go_wp2
  refine bodyPost_ret (v := .agg #[.int .i64 k, .int .i64 0, .int .i64 0, .int .i64 0, .int .i64 nn, .string nm, .string s, .slice none 0 0, .int .i64 pos]) (by simp [results, Tryz.results147, go_sem]) rfl ⟨rfl, ?_⟩
  exact ((((Below.refl w.heap.size w).alloc (Nat.le_refl _) _).alloc (by simp) _).alloc (by simp; omega) _)
theorem rwith_n1 (k a b c nn pos p : Int) (nm s : ByteArray) (FA : Option Addr) (FL fc : Nat) (h11 : (k == 11) = false) (h14 : (k == 14) = false) (g cg : Nat) (w : World) (hg : g < w.heap.size) (H0 : Hid (w.cell? ⟨g, 0, none⟩ = some (.int .i64 p))) :
    Calls Tryz.prog 147 #[.agg #[.int .i64 k, .int .i64 a, .int .i64 b, .int .i64 c, .int .i64 nn, .string nm, .string s, .slice FA FL fc, .int .i64 pos], .slice (some ⟨g, 0, none⟩) 1 cg] w fun e w' => e = .returned (.agg #[.int .i64 k, .int .i64 p, .int .i64 0, .int .i64 0, .int .i64 nn, .string nm, .string s, .slice none 0 0, .int .i64 pos]) /\ Below w.heap.size w w' := by
  have z0 : ∀ o1 o2 o3 : Obj, (((w.alloc o1).alloc o2).alloc o3).cell? ⟨g, 0, none⟩ = some (.int .i64 p) := fun o1 o2 o3 => (((((Below.refl w.heap.size w).alloc (Nat.le_refl _) o1).alloc (by simp) o2).alloc (by simp; omega) o3).cell (p := ⟨g, 0, none⟩) hg).trans H0.out
  go_enter Tryz.func147, Tryz.ntmps147
  go_wp2
  refine bodyPost_ret (v := .agg #[.int .i64 k, .int .i64 p, .int .i64 0, .int .i64 0, .int .i64 nn, .string nm, .string s, .slice none 0 0, .int .i64 pos]) (by simp [results, Tryz.results147, go_sem]) rfl ⟨rfl, ?_⟩
  exact ((((Below.refl w.heap.size w).alloc (Nat.le_refl _) _).alloc (by simp) _).alloc (by simp; omega) _)
theorem rwith_n2 (k a b c nn pos p q : Int) (nm s : ByteArray) (FA : Option Addr) (FL fc : Nat) (h11 : (k == 11) = false) (h14 : (k == 14) = false) (g cg : Nat) (w : World) (hg : g < w.heap.size) (H0 : Hid (w.cell? ⟨g, 0, none⟩ = some (.int .i64 p))) (H1 : Hid (w.cell? ⟨g, 1, none⟩ = some (.int .i64 q))) :
    Calls Tryz.prog 147 #[.agg #[.int .i64 k, .int .i64 a, .int .i64 b, .int .i64 c, .int .i64 nn, .string nm, .string s, .slice FA FL fc, .int .i64 pos], .slice (some ⟨g, 0, none⟩) 2 cg] w fun e w' => e = .returned (.agg #[.int .i64 k, .int .i64 p, .int .i64 q, .int .i64 0, .int .i64 nn, .string nm, .string s, .slice none 0 0, .int .i64 pos]) /\ Below w.heap.size w w' := by
  have z0 : ∀ o1 o2 o3 : Obj, (((w.alloc o1).alloc o2).alloc o3).cell? ⟨g, 0, none⟩ = some (.int .i64 p) := fun o1 o2 o3 => (((((Below.refl w.heap.size w).alloc (Nat.le_refl _) o1).alloc (by simp) o2).alloc (by simp; omega) o3).cell (p := ⟨g, 0, none⟩) hg).trans H0.out
  have z1 : ∀ o1 o2 o3 : Obj, (((w.alloc o1).alloc o2).alloc o3).cell? ⟨g, 1, none⟩ = some (.int .i64 q) := fun o1 o2 o3 => (((((Below.refl w.heap.size w).alloc (Nat.le_refl _) o1).alloc (by simp) o2).alloc (by simp; omega) o3).cell (p := ⟨g, 1, none⟩) hg).trans H1.out
  go_enter Tryz.func147, Tryz.ntmps147
  go_wp2
  refine bodyPost_ret (v := .agg #[.int .i64 k, .int .i64 p, .int .i64 q, .int .i64 0, .int .i64 nn, .string nm, .string s, .slice none 0 0, .int .i64 pos]) (by simp [results, Tryz.results147, go_sem]) rfl ⟨rfl, ?_⟩
  exact ((((Below.refl w.heap.size w).alloc (Nat.le_refl _) _).alloc (by simp) _).alloc (by simp; omega) _)
theorem rwith_n3 (k a b c nn pos p q r : Int) (nm s : ByteArray) (FA : Option Addr) (FL fc : Nat) (h11 : (k == 11) = false) (h14 : (k == 14) = false) (g cg : Nat) (w : World) (hg : g < w.heap.size) (H0 : Hid (w.cell? ⟨g, 0, none⟩ = some (.int .i64 p))) (H1 : Hid (w.cell? ⟨g, 1, none⟩ = some (.int .i64 q))) (H2 : Hid (w.cell? ⟨g, 2, none⟩ = some (.int .i64 r))) :
    Calls Tryz.prog 147 #[.agg #[.int .i64 k, .int .i64 a, .int .i64 b, .int .i64 c, .int .i64 nn, .string nm, .string s, .slice FA FL fc, .int .i64 pos], .slice (some ⟨g, 0, none⟩) 3 cg] w fun e w' => e = .returned (.agg #[.int .i64 k, .int .i64 p, .int .i64 q, .int .i64 r, .int .i64 nn, .string nm, .string s, .slice none 0 0, .int .i64 pos]) /\ Below w.heap.size w w' := by
  have z0 : ∀ o1 o2 o3 : Obj, (((w.alloc o1).alloc o2).alloc o3).cell? ⟨g, 0, none⟩ = some (.int .i64 p) := fun o1 o2 o3 => (((((Below.refl w.heap.size w).alloc (Nat.le_refl _) o1).alloc (by simp) o2).alloc (by simp; omega) o3).cell (p := ⟨g, 0, none⟩) hg).trans H0.out
  have z1 : ∀ o1 o2 o3 : Obj, (((w.alloc o1).alloc o2).alloc o3).cell? ⟨g, 1, none⟩ = some (.int .i64 q) := fun o1 o2 o3 => (((((Below.refl w.heap.size w).alloc (Nat.le_refl _) o1).alloc (by simp) o2).alloc (by simp; omega) o3).cell (p := ⟨g, 1, none⟩) hg).trans H1.out
  have z2 : ∀ o1 o2 o3 : Obj, (((w.alloc o1).alloc o2).alloc o3).cell? ⟨g, 2, none⟩ = some (.int .i64 r) := fun o1 o2 o3 => (((((Below.refl w.heap.size w).alloc (Nat.le_refl _) o1).alloc (by simp) o2).alloc (by simp; omega) o3).cell (p := ⟨g, 2, none⟩) hg).trans H2.out
  go_enter Tryz.func147, Tryz.ntmps147
  go_wp2
  refine bodyPost_ret (v := .agg #[.int .i64 k, .int .i64 p, .int .i64 q, .int .i64 r, .int .i64 nn, .string nm, .string s, .slice none 0 0, .int .i64 pos]) (by simp [results, Tryz.results147, go_sem]) rfl ⟨rfl, ?_⟩
  exact ((((Below.refl w.heap.size w).alloc (Nat.le_refl _) _).alloc (by simp) _).alloc (by simp; omega) _)
end Go.Proofs.YtjakeidbajkdcaaGreatDoor.T
