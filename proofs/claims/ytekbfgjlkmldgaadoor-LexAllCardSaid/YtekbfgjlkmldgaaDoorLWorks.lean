/- works: the chapter's example. -/
import Derived.Test.YtekbfgjlkmldgaaDoorLAllP
import Derived.KernelRfl
namespace Go.Proofs.YtekbfgjlkmldgaaDoor.L
open Go.RowKit
def ex : ByteArray := ⟨#[102, 117, 110, 32, 120, 32, 45, 62, 32, 49, 50]⟩
theorem ex_num : W.pv [49, 50] = 12 ∧ W.pe [49, 50] = 0 := by
  have e : ([49, 50] : List UInt8) = W.wtext 12 := by kernel_rfl
  rw [e]
  exact W.pv_yes (by decide)
theorem ex_1 : tok (ex.extract 0 ex.size) = ⟨1, ⟨#[102, 117, 110]⟩, 0, 3, 0⟩ := by kernel_rfl
theorem ex_2 : tok (ex.extract 4 ex.size) = ⟨2, ⟨#[120]⟩, 0, 1, 0⟩ := by kernel_rfl
theorem ex_3 : tok (ex.extract 6 ex.size) = ⟨7, ⟨#[45, 62]⟩, 0, 2, 0⟩ := by kernel_rfl
theorem ex_4 : tok (ex.extract 9 ex.size) = ⟨4, ⟨#[]⟩, 12, 2, 0⟩ := by kernel_rfl
def exL : List Item := [(⟨1, ⟨#[102, 117, 110]⟩, 0, 3, 0⟩, 0), (⟨2, ⟨#[120]⟩, 0, 1, 0⟩, 4), (⟨7, ⟨#[45, 62]⟩, 0, 2, 0⟩, 6), (⟨4, ⟨#[]⟩, 12, 2, 0⟩, 9)]
theorem ex_items : items ex = exL := by kernel_rfl
theorem ex_all : toks ex = exL ∧ place ex = 11 ∧ err ex = 0 := no_wrong (s := ex) ex_items.symm (by decide)
set_option maxHeartbeats 1000000 in
theorem works_any (w : World) (hO : On w.heap.size w) : Calls Tryd.prog 8 #[] w fun e w' => e = .returned (.bool true) ∧ Below w.heap.size w w' := by
  have HA : Hid (∀ w1, On w1.heap.size w1 → Calls Tryd.prog 6 #[.string ex] w1 (AllPost ex w1.heap.size w1)) := Lib.hid fun w1 h => all_any ex (by decide) w1 h
  unfold AllPost at HA
  rw [ex_all.1, ex_all.2.1, ex_all.2.2] at HA
  have HO := Lib.hid hO
  clear hO
  go_enter Tryd.func8, Tryd.ntmps8
  go_wp2_with (go_at_call 6; refine (HA.out _ HO.out).mono ?_; rintro e w1 ⟨v, rfl, hrow, hb⟩; obtain ⟨g, c, rfl⟩ := ownsRow_succ (k := 3) hrow; have c0 := World.ownsRow.cells hrow (g := g) rfl 0 _ rfl; have c9 := World.ownsRow.cells hrow (g := g) rfl 9 _ rfl; have c14 := World.ownsRow.cells hrow (g := g) rfl 14 _ rfl; rw [Addr.add_lit, Nat.zero_add] at c0 c9 c14; have HB := Lib.hid hb; clear hb hrow)
  go_ret
  exact ⟨rfl, HB.out⟩
end Go.Proofs.YtekbfgjlkmldgaaDoor.L
