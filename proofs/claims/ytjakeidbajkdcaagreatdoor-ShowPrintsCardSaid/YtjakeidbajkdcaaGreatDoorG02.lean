/- Joined by program: LArgs. -/
import Derived.Test.YtjakeidbajkdcaaGreatDoorG00
import Derived.Test.YtjakeidbajkdcaaGreatDoorG01
import Derived.Test.YtjakeidbajkdcaaGreatDoorCards
import Derived.Test.YtjakeidbajkdcaaGreatDoorTie
import Derived.SizedLaws
import Derived.ChangeMaps5
import Derived.Carry
/- What a law is handed, opened; and as it reads behind the call. -/
namespace Go.Proofs.YtjakeidbajkdcaaGreatDoor.T
open Go.RowKit Go.ChangeShapes Go.WideShapes Go.ChangeAt Go.ChangeMaps
theorem laidOut : laidOutB Tryz.prog = true := by kernel_rfl
theorem light_of {H : Type} {ts : List TypeId} {ds : List (DataW H)} (h : (DataW.weightsEach Tryz.prog ts ds).all (· ≤ reachBytes) = true) {j : Nat} {t : TypeId} {d : DataW H} (ht : ts[j]? = some t) (hd : ds[j]? = some d) : Light t d := fun n hn => by
  have := List.all_eq_true.1 h _ (DataW.weights_mem_each ht hd n hn)
  simpa using this
section
variable {H : Type} {enc : TypeId × Value → H} {W : World} {base : Nat} {sp : Nat → Bool} {held : Bool}
set_option maxRecDepth 100000 in
theorem arg_expr {v : Value} {d : DataW H} {p : List MemPlace} (hval : Value.okWide Tryz.prog W .any base 25 v) (h : DataW.Trod enc Tryz.prog W 0 sp held 25 v d p) (hl : Light 25 d) : ∃ u l, v = .agg #[u] ∧ Nodes W.heap.size W u l ∧ ∀ y ∈ l, Fit y := by
  obtain ⟨cs, rfl, _⟩ := okWide_struct Tryz.underlying25 hval
  obtain ⟨fuel, hf⟩ := h
  obtain ⟨u, l, hcs, hn, hfit⟩ := open_expr hf
  refine ⟨u, l, ?_, hn, hfit hl⟩
  have : cs.toList = [u] := hcs
  rw [show cs = #[u] from by rw [← Array.toArray_toList (xs := cs), this]]
set_option maxRecDepth 100000 in
theorem arg_node {v : Value} {d : DataW H} {p : List MemPlace} (hval : Value.okWide Tryz.prog W .any base 37 v) (h : DataW.Trod enc Tryz.prog W 0 sp held 37 v d p) (hl : Light 37 d) : ∃ x u, v = .agg (ndArr x u) ∧ Flds W.heap.size W u x.l ∧ Fit x := by
  obtain ⟨cs, rfl, _⟩ := okWide_struct Tryz.underlying37 hval
  obtain ⟨fuel, hf⟩ := h
  obtain ⟨x, u, hcs, hn, hfit⟩ := open_nd hf
  refine ⟨x, u, ?_, hn, hfit hl⟩
  have : cs.toList = (ndArr x u).toList := hcs
  rw [show cs = ndArr x u from by rw [← Array.toArray_toList (xs := cs), this]]
theorem trod_1 {t0 : TypeId} {v0 : Value} {d0 : DataW H} {p0 : List MemPlace} (h0 : DataW.Trod enc Tryz.prog W base sp held t0 v0 d0 p0) : DataW.TrodAll enc Tryz.prog W base sp held [t0] [v0] [d0] p0 := by
  have := trodAll_cons_mk h0 trodAll_mk0
  rwa [List.append_nil] at this
theorem trod_2 {t0 t1 : TypeId} {v0 v1 : Value} {d0 d1 : DataW H} {p0 p1 : List MemPlace} (h0 : DataW.Trod enc Tryz.prog W base sp held t0 v0 d0 p0) (h1 : DataW.Trod enc Tryz.prog W base sp held t1 v1 d1 p1) : DataW.TrodAll enc Tryz.prog W base sp held [t0, t1] [v0, v1] [d0, d1] (p0 ++ p1) :=
  trodAll_cons_mk h0 (trod_1 h1)
theorem trod_3 {t0 t1 t2 : TypeId} {v0 v1 v2 : Value} {d0 d1 d2 : DataW H} {p0 p1 p2 : List MemPlace} (h0 : DataW.Trod enc Tryz.prog W base sp held t0 v0 d0 p0) (h1 : DataW.Trod enc Tryz.prog W base sp held t1 v1 d1 p1) (h2 : DataW.Trod enc Tryz.prog W base sp held t2 v2 d2 p2) : DataW.TrodAll enc Tryz.prog W base sp held [t0, t1, t2] [v0, v1, v2] [d0, d1, d2] (p0 ++ (p1 ++ p2)) :=
  trodAll_cons_mk h0 (trod_2 h1 h2)
end
end Go.Proofs.YtjakeidbajkdcaaGreatDoor.T
