/- Joined by program: RWith. -/
import Derived.Test.YteikpeaakmbihaaDoorG35
import Derived.Test.YteikpeaakmbihaaDoorG28
/- with, the document's: a node with other children. -/
namespace Go.Proofs.YteikpeaakmbihaaDoor.T
open Go.RowKit Go.Shelf
def zero9 : Array Value := #[.int .i64 0, .int .i64 0, .int .i64 0, .int .i64 0, .int .i64 0, .string ⟨#[]⟩, .string ⟨#[]⟩, .slice none 0 0, .int .i64 0]
def RWPost (y : Nd) (w : World) (e : Ending) (w' : World) : Prop := ∃ v, e = .returned (.agg (ndArr y v)) ∧ OwnF w.heap.size w' v y.l ∧ Below w.heap.size w w'
set_option maxHeartbeats 2000000 in
theorem put9 {W : World} {b : Nat} {cs : Array Value} (hs : cs.size = 9) (h : W.heap[b]? = some (.cells cs 27 (0, 0))) (c0 c1 c2 c3 c4 c5 c6 c7 c8 : Value) :
    (((((((((W.setCell ⟨b, 0, none⟩ c0).setCell ⟨b, 1, none⟩ c1).setCell ⟨b, 2, none⟩ c2).setCell ⟨b, 3, none⟩ c3).setCell ⟨b, 4, none⟩ c4).setCell ⟨b, 5, none⟩ c5).setCell ⟨b, 6, none⟩ c6).setCell ⟨b, 7, none⟩ c7).setCell ⟨b, 8, none⟩ c8).heap[b]? = some (.cells #[c0, c1, c2, c3, c4, c5, c6, c7, c8] 27 (0, 0)) := by
  obtain ⟨cs⟩ := cs
  match cs, hs with
  | [a0, a1, a2, a3, a4, a5, a6, a7, a8], _ =>
    have g0 : (W.setCell ⟨b, 0, none⟩ c0).heap[b]? = some (.cells #[c0, a1, a2, a3, a4, a5, a6, a7, a8] 27 (0, 0)) := blk_put (j := 0) (v := c0) h
    have g1 : ((W.setCell ⟨b, 0, none⟩ c0).setCell ⟨b, 1, none⟩ c1).heap[b]? = some (.cells #[c0, c1, a2, a3, a4, a5, a6, a7, a8] 27 (0, 0)) := blk_put (j := 1) (v := c1) g0
    have g2 : (((W.setCell ⟨b, 0, none⟩ c0).setCell ⟨b, 1, none⟩ c1).setCell ⟨b, 2, none⟩ c2).heap[b]? = some (.cells #[c0, c1, c2, a3, a4, a5, a6, a7, a8] 27 (0, 0)) := blk_put (j := 2) (v := c2) g1
    have g3 : ((((W.setCell ⟨b, 0, none⟩ c0).setCell ⟨b, 1, none⟩ c1).setCell ⟨b, 2, none⟩ c2).setCell ⟨b, 3, none⟩ c3).heap[b]? = some (.cells #[c0, c1, c2, c3, a4, a5, a6, a7, a8] 27 (0, 0)) := blk_put (j := 3) (v := c3) g2
    have g4 : (((((W.setCell ⟨b, 0, none⟩ c0).setCell ⟨b, 1, none⟩ c1).setCell ⟨b, 2, none⟩ c2).setCell ⟨b, 3, none⟩ c3).setCell ⟨b, 4, none⟩ c4).heap[b]? = some (.cells #[c0, c1, c2, c3, c4, a5, a6, a7, a8] 27 (0, 0)) := blk_put (j := 4) (v := c4) g3
    have g5 : ((((((W.setCell ⟨b, 0, none⟩ c0).setCell ⟨b, 1, none⟩ c1).setCell ⟨b, 2, none⟩ c2).setCell ⟨b, 3, none⟩ c3).setCell ⟨b, 4, none⟩ c4).setCell ⟨b, 5, none⟩ c5).heap[b]? = some (.cells #[c0, c1, c2, c3, c4, c5, a6, a7, a8] 27 (0, 0)) := blk_put (j := 5) (v := c5) g4
    have g6 : (((((((W.setCell ⟨b, 0, none⟩ c0).setCell ⟨b, 1, none⟩ c1).setCell ⟨b, 2, none⟩ c2).setCell ⟨b, 3, none⟩ c3).setCell ⟨b, 4, none⟩ c4).setCell ⟨b, 5, none⟩ c5).setCell ⟨b, 6, none⟩ c6).heap[b]? = some (.cells #[c0, c1, c2, c3, c4, c5, c6, a7, a8] 27 (0, 0)) := blk_put (j := 6) (v := c6) g5
    have g7 : ((((((((W.setCell ⟨b, 0, none⟩ c0).setCell ⟨b, 1, none⟩ c1).setCell ⟨b, 2, none⟩ c2).setCell ⟨b, 3, none⟩ c3).setCell ⟨b, 4, none⟩ c4).setCell ⟨b, 5, none⟩ c5).setCell ⟨b, 6, none⟩ c6).setCell ⟨b, 7, none⟩ c7).heap[b]? = some (.cells #[c0, c1, c2, c3, c4, c5, c6, c7, a8] 27 (0, 0)) := blk_put (j := 7) (v := c7) g6
    have g8 : (((((((((W.setCell ⟨b, 0, none⟩ c0).setCell ⟨b, 1, none⟩ c1).setCell ⟨b, 2, none⟩ c2).setCell ⟨b, 3, none⟩ c3).setCell ⟨b, 4, none⟩ c4).setCell ⟨b, 5, none⟩ c5).setCell ⟨b, 6, none⟩ c6).setCell ⟨b, 7, none⟩ c7).setCell ⟨b, 8, none⟩ c8).heap[b]? = some (.cells #[c0, c1, c2, c3, c4, c5, c6, c7, c8] 27 (0, 0)) := blk_put (j := 8) (v := c8) g7
    exact g8
theorem put9_far (W : World) (b k : Nat) (c0 c1 c2 c3 c4 c5 c6 c7 c8 : Value) (hk : k ≠ b) :
    (((((((((W.setCell ⟨b, 0, none⟩ c0).setCell ⟨b, 1, none⟩ c1).setCell ⟨b, 2, none⟩ c2).setCell ⟨b, 3, none⟩ c3).setCell ⟨b, 4, none⟩ c4).setCell ⟨b, 5, none⟩ c5).setCell ⟨b, 6, none⟩ c6).setCell ⟨b, 7, none⟩ c7).setCell ⟨b, 8, none⟩ c8).heap[k]? = W.heap[k]? := by
  simp only [set_far _ _ _ _ _ hk]
theorem res53 (tmps : Array Value) (W : World) (p : Nat) (c0 c1 c2 c3 c4 c5 c6 c7 c8 : Value) (h2 : tmps[4]?.getD undef = .pointer (some ⟨p, 0, none⟩)) (h : W.heap[p]? = some (.cells #[c0, c1, c2, c3, c4, c5, c6, c7, c8] 27 (0, 0))) :
    Sem.run Tryd.prog (results Tryd.f53 tmps) W = .ok (.agg #[c0, c1, c2, c3, c4, c5, c6, c7, c8]) W := by
  obtain ⟨q0, q1, q2, q3, q4, q5, q6, q7, q8, _⟩ := cells9 h
  simp [results, Tryd.results53, go_sem, h2, q0, q1, q2, q3, q4, q5, q6, q7, q8]
theorem relab_at {l : List Fld} {ks : List Int} {q : Nat} {f : Fld} {k : Int} (hf : l[q]? = some f) (hk : ks[q]? = some k) : (relab l ks)[q]? = some { f with pl := k } := by
  simp [relab, List.getElem?_zipWith, hf, hk]
theorem fCells_snoc (l : List Fld) (f : Fld) : fCells (l ++ [f]) = fCells l ++ [.string f.nm, .string f.vr, .int .i64 f.pl] := by simp [fCells]
set_option maxRecDepth 100000 in
set_option maxHeartbeats 4000000 in
theorem rwith_n0 (k a b c nn pos  : Int) (nm s : ByteArray) (FA : Option Addr) (FL fc : Nat) (h11 : (k == 11) = false) (h14 : (k == 14) = false) (g cg : Nat) (w : World) (_hg : g < w.heap.size) :
    Calls Tryd.prog 53 #[.agg #[.int .i64 k, .int .i64 a, .int .i64 b, .int .i64 c, .int .i64 nn, .string nm, .string s, .slice FA FL fc, .int .i64 pos], .slice (some ⟨g, 0, none⟩) 0 cg] w fun e w' => e = .returned (.agg #[.int .i64 k, .int .i64 0, .int .i64 0, .int .i64 0, .int .i64 nn, .string nm, .string s, .slice none 0 0, .int .i64 pos]) ∧ Below w.heap.size w w' := by
  go_enter Tryd.func53, Tryd.ntmps53
  go_wp2
  refine bodyPost_ret (v := .agg #[.int .i64 k, .int .i64 0, .int .i64 0, .int .i64 0, .int .i64 nn, .string nm, .string s, .slice none 0 0, .int .i64 pos]) (by simp [results, Tryd.results53, go_sem]) rfl ⟨rfl, ?_⟩
  exact ((((Below.refl w.heap.size w).alloc (Nat.le_refl _) _).alloc (by simp) _).alloc (by simp; omega) _)
set_option maxRecDepth 100000 in
set_option maxHeartbeats 4000000 in
theorem rwith_n1 (k a b c nn pos p : Int) (nm s : ByteArray) (FA : Option Addr) (FL fc : Nat) (h11 : (k == 11) = false) (h14 : (k == 14) = false) (g cg : Nat) (w : World) (hg : g < w.heap.size) (H0 : Hid (w.cell? ⟨g, 0, none⟩ = some (.int .i64 p))) :
    Calls Tryd.prog 53 #[.agg #[.int .i64 k, .int .i64 a, .int .i64 b, .int .i64 c, .int .i64 nn, .string nm, .string s, .slice FA FL fc, .int .i64 pos], .slice (some ⟨g, 0, none⟩) 1 cg] w fun e w' => e = .returned (.agg #[.int .i64 k, .int .i64 p, .int .i64 0, .int .i64 0, .int .i64 nn, .string nm, .string s, .slice none 0 0, .int .i64 pos]) ∧ Below w.heap.size w w' := by
  have z0 : ∀ o1 o2 o3 : Obj, (((w.alloc o1).alloc o2).alloc o3).cell? ⟨g, 0, none⟩ = some (.int .i64 p) := fun o1 o2 o3 => (((((Below.refl w.heap.size w).alloc (Nat.le_refl _) o1).alloc (by simp) o2).alloc (by simp; omega) o3).cell (p := ⟨g, 0, none⟩) hg).trans H0.out
  go_enter Tryd.func53, Tryd.ntmps53
  go_wp2
  refine bodyPost_ret (v := .agg #[.int .i64 k, .int .i64 p, .int .i64 0, .int .i64 0, .int .i64 nn, .string nm, .string s, .slice none 0 0, .int .i64 pos]) (by simp [results, Tryd.results53, go_sem]) rfl ⟨rfl, ?_⟩
  exact ((((Below.refl w.heap.size w).alloc (Nat.le_refl _) _).alloc (by simp) _).alloc (by simp; omega) _)
set_option maxRecDepth 100000 in
set_option maxHeartbeats 4000000 in
theorem rwith_n2 (k a b c nn pos p q : Int) (nm s : ByteArray) (FA : Option Addr) (FL fc : Nat) (h11 : (k == 11) = false) (h14 : (k == 14) = false) (g cg : Nat) (w : World) (hg : g < w.heap.size) (H0 : Hid (w.cell? ⟨g, 0, none⟩ = some (.int .i64 p))) (H1 : Hid (w.cell? ⟨g, 1, none⟩ = some (.int .i64 q))) :
    Calls Tryd.prog 53 #[.agg #[.int .i64 k, .int .i64 a, .int .i64 b, .int .i64 c, .int .i64 nn, .string nm, .string s, .slice FA FL fc, .int .i64 pos], .slice (some ⟨g, 0, none⟩) 2 cg] w fun e w' => e = .returned (.agg #[.int .i64 k, .int .i64 p, .int .i64 q, .int .i64 0, .int .i64 nn, .string nm, .string s, .slice none 0 0, .int .i64 pos]) ∧ Below w.heap.size w w' := by
  have z0 : ∀ o1 o2 o3 : Obj, (((w.alloc o1).alloc o2).alloc o3).cell? ⟨g, 0, none⟩ = some (.int .i64 p) := fun o1 o2 o3 => (((((Below.refl w.heap.size w).alloc (Nat.le_refl _) o1).alloc (by simp) o2).alloc (by simp; omega) o3).cell (p := ⟨g, 0, none⟩) hg).trans H0.out
  have z1 : ∀ o1 o2 o3 : Obj, (((w.alloc o1).alloc o2).alloc o3).cell? ⟨g, 1, none⟩ = some (.int .i64 q) := fun o1 o2 o3 => (((((Below.refl w.heap.size w).alloc (Nat.le_refl _) o1).alloc (by simp) o2).alloc (by simp; omega) o3).cell (p := ⟨g, 1, none⟩) hg).trans H1.out
  go_enter Tryd.func53, Tryd.ntmps53
  go_wp2
  refine bodyPost_ret (v := .agg #[.int .i64 k, .int .i64 p, .int .i64 q, .int .i64 0, .int .i64 nn, .string nm, .string s, .slice none 0 0, .int .i64 pos]) (by simp [results, Tryd.results53, go_sem]) rfl ⟨rfl, ?_⟩
  exact ((((Below.refl w.heap.size w).alloc (Nat.le_refl _) _).alloc (by simp) _).alloc (by simp; omega) _)
set_option maxRecDepth 100000 in
set_option maxHeartbeats 4000000 in
theorem rwith_n3 (k a b c nn pos p q r : Int) (nm s : ByteArray) (FA : Option Addr) (FL fc : Nat) (h11 : (k == 11) = false) (h14 : (k == 14) = false) (g cg : Nat) (w : World) (hg : g < w.heap.size) (H0 : Hid (w.cell? ⟨g, 0, none⟩ = some (.int .i64 p))) (H1 : Hid (w.cell? ⟨g, 1, none⟩ = some (.int .i64 q))) (H2 : Hid (w.cell? ⟨g, 2, none⟩ = some (.int .i64 r))) :
    Calls Tryd.prog 53 #[.agg #[.int .i64 k, .int .i64 a, .int .i64 b, .int .i64 c, .int .i64 nn, .string nm, .string s, .slice FA FL fc, .int .i64 pos], .slice (some ⟨g, 0, none⟩) 3 cg] w fun e w' => e = .returned (.agg #[.int .i64 k, .int .i64 p, .int .i64 q, .int .i64 r, .int .i64 nn, .string nm, .string s, .slice none 0 0, .int .i64 pos]) ∧ Below w.heap.size w w' := by
  have z0 : ∀ o1 o2 o3 : Obj, (((w.alloc o1).alloc o2).alloc o3).cell? ⟨g, 0, none⟩ = some (.int .i64 p) := fun o1 o2 o3 => (((((Below.refl w.heap.size w).alloc (Nat.le_refl _) o1).alloc (by simp) o2).alloc (by simp; omega) o3).cell (p := ⟨g, 0, none⟩) hg).trans H0.out
  have z1 : ∀ o1 o2 o3 : Obj, (((w.alloc o1).alloc o2).alloc o3).cell? ⟨g, 1, none⟩ = some (.int .i64 q) := fun o1 o2 o3 => (((((Below.refl w.heap.size w).alloc (Nat.le_refl _) o1).alloc (by simp) o2).alloc (by simp; omega) o3).cell (p := ⟨g, 1, none⟩) hg).trans H1.out
  have z2 : ∀ o1 o2 o3 : Obj, (((w.alloc o1).alloc o2).alloc o3).cell? ⟨g, 2, none⟩ = some (.int .i64 r) := fun o1 o2 o3 => (((((Below.refl w.heap.size w).alloc (Nat.le_refl _) o1).alloc (by simp) o2).alloc (by simp; omega) o3).cell (p := ⟨g, 2, none⟩) hg).trans H2.out
  go_enter Tryd.func53, Tryd.ntmps53
  go_wp2
  refine bodyPost_ret (v := .agg #[.int .i64 k, .int .i64 p, .int .i64 q, .int .i64 r, .int .i64 nn, .string nm, .string s, .slice none 0 0, .int .i64 pos]) (by simp [results, Tryd.results53, go_sem]) rfl ⟨rfl, ?_⟩
  exact ((((Below.refl w.heap.size w).alloc (Nat.le_refl _) _).alloc (by simp) _).alloc (by simp; omega) _)
end Go.Proofs.YteikpeaakmbihaaDoor.T
