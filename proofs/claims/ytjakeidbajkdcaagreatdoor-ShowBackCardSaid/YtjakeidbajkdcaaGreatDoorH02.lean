/- Joined by program. -/
import Derived.Test.YtjakeidbajkdcaaGreatDoorH00
import Derived.Test.YtjakeidbajkdcaaGreatDoorH01
import Derived.Test.YtjakeidbajkdcaaGreatDoorCards
import Derived.Test.YtjakeidbajkdcaaGreatDoorTie
import Derived.SizedLaws
import Derived.ChangeMaps5
import Derived.Carry
set_option maxRecDepth 100000
namespace Go.Proofs.YtjakeidbajkdcaaGreatDoor.T
open Go.RowKit Go.ChangeShapes Go.WideShapes Go.ChangeAt Go.ChangeMaps
theorem laidOut : laidOutB Tryz.prog = true := by kernel_rfl
theorem light_of {H : Type} {ts : List TypeId} {ds : List (DataW H)} (h : (DataW.weightsEach Tryz.prog ts ds).all (· <= reachBytes) = true) {j : Nat} {t : TypeId} {d : DataW H} (ht : ts[j]? = some t) (hd : ds[j]? = some d) : Light t d := fun n hn => by
  have := List.all_eq_true.1 h _ (DataW.weights_mem_each ht hd n hn)
  simpa using this
section
variable {H : Type} {enc : TypeId × Value -> H} {W : World} {base : Nat} {sp : Nat -> Bool} {held : Bool}
theorem arg_expr {v : Value} {d : DataW H} {p : List MemPlace} (hval : Value.okWide Tryz.prog W .any base 25 v) (h : DataW.Trod enc Tryz.prog W 0 sp held 25 v d p) (hl : Light 25 d) : ∃ u l, v = .agg #[u] /\ Nodes W.heap.size W u l /\ ∀ y ∈ l, Fit y := by
  obtain ⟨cs, rfl, _⟩ := okWide_struct Tryz.underlying25 hval
  obtain ⟨fuel, hf⟩ := h
  obtain ⟨u, l, hcs, hn, hfit⟩ := open_expr hf
  refine ⟨u, l, ?_, hn, hfit hl⟩
  have : cs.toList = [u] := hcs
  rw [show cs = #[u] from by rw [<- Array.toArray_toList (xs := cs), this]]
theorem trod_1 {t0 : TypeId} {v0 : Value} {d0 : DataW H} {p0 : List MemPlace} (h0 : DataW.Trod enc Tryz.prog W base sp held t0 v0 d0 p0) : DataW.TrodAll enc Tryz.prog W base sp held [t0] [v0] [d0] p0 := by
  have := trodAll_cons_mk h0 trodAll_mk0
  rwa [List.append_nil] at this
end
end Go.Proofs.YtjakeidbajkdcaaGreatDoor.T
