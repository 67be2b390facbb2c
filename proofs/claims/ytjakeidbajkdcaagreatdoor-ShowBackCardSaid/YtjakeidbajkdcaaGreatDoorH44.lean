/- Joined by program. -/
import Derived.Test.YtjakeidbajkdcaaGreatDoorH37
import Derived.Test.YtjakeidbajkdcaaGreatDoorH33
import Derived.Test.YtjakeidbajkdcaaGreatDoorH42
import Derived.Test.YtjakeidbajkdcaaGreatDoorH34
import Derived.Test.YtjakeidbajkdcaaGreatDoorH43
set_option maxRecDepth 100000
set_option maxHeartbeats 1000000
namespace Go.Proofs.YtjakeidbajkdcaaGreatDoor.A
open T Go.RowKit L
def tkOf (x : L.Item) : Tk := ⟨x.1.k, x.1.t, x.1.n, x.2⟩
def tks (s : ByteArray) : List Tk := (toks s).map tkOf
def NewPost (l : List L.Item) (n : Int) (w : World) (e : Ending) (w' : World) : Prop := ∃ b A c, e = .returned (.pointer (some ⟨b, 0, none⟩)) /\ Rd w' b A l.length c n /\ l.length <= c /\ (l ≠ [] -> ∃ g, A = some ⟨g, 0, none⟩ /\ HoldsT w' g l /\ w.heap.size <= g /\ g < b) /\ w.heap.size <= b /\ Below w.heap.size w w'
theorem new0 (w : World) (n : Int) : Calls Tryz.prog 25 #[.slice none 0 0, .int .i64 n] w (NewPost [] n w) := by
  go_enter Tryz.func25, Tryz.ntmps25
  go_wp2_with (go_at_call 45; refine (clone_nil _).mono ?_; rintro e w1 ⟨rfl, rfl⟩)
  go_ret
  exact ⟨_, none, 0, rfl, Blk.new _ 82 _, Nat.zero_le _, fun h => absurd rfl h, Nat.le_refl _, (Below.refl _ _).alloc (Nat.le_refl _) _⟩
theorem newz (w : World) (a : Addr) (c : Nat) (n : Int) (ha : a.block < w.heap.size) : Calls Tryz.prog 25 #[.slice (some a) 0 c, .int .i64 n] w (NewPost [] n w) := by
  have HCl := Lib.hid (clone_pos w a 0 c [] (Lib.hid rfl) (by omega) ha (Lib.hid (fun j u h => by simp at h)) (Lib.hid (fun u h => by simp at h)))
  go_enter Tryz.func25, Tryz.ntmps25
  go_wp2_with (go_at_call 45; refine HCl.out.mono ?_; rintro e w1 ⟨v, rfl, hrow, hb, _⟩; obtain ⟨A, c', rfl⟩ := row_form hrow; have HB := Lib.hid hb; clear hrow hb)
  go_ret
  exact ⟨_, A, c', rfl, Blk.new w1 82 _, Nat.zero_le _, fun h => absurd rfl h, HB.out.size, HB.out.alloc HB.out.size _⟩
theorem new_any {B : Nat} (w : World) (l : List L.Item) (v : Value) (n : Int) (hL : l.length <= 1000000) (hv : w.ownsRow B 63 4 v l.length (cellsL l)) : Calls Tryz.prog 25 #[v, .int .i64 n] w (NewPost l n w) := by
  rcases hv.2 with ⟨rfl, hn⟩ | ⟨g, cap, cur, rfl, h1, h2, h3, h4⟩
  · have : l = [] := List.length_eq_zero_iff.1 hn
    subst this
    exact new0 w n
  · have hg := (Array.getElem?_eq_some_iff.1 h2).1
    by_cases h0 : l = []
    · subst h0; exact newz w ⟨g, 0, none⟩ cap n hg
    · have hp : 0 < l.length := List.length_pos_iff.2 h0
      refine (new_pos w ⟨g, 0, none⟩ l l.length cap n (Lib.hid rfl) hp hL hg (Lib.hid fun j u hj => World.ownsRow.cells hv (g := g) rfl _ _ hj)).mono ?_
      rintro e w' ⟨b, g', c', rfl, k1, k2, k3, k4, k5, k6⟩
      exact ⟨b, _, c', rfl, k1, k2, fun _ => ⟨g', rfl, k3, k4, k5⟩, by omega, k6⟩
theorem made {l : List L.Item} {n : Int} {w W : World} {b c : Nat} {A : Option Addr} (hR : Rd W b A l.length c n) (hc : l.length <= c) (hg : l ≠ [] -> ∃ g, A = some ⟨g, 0, none⟩ /\ HoldsT W g l /\ w.heap.size <= g /\ g < b) (hL : l.length <= 1000000) (ht : ∀ x ∈ l, x.1.t.size <= 281474976710656) :
    St (fun _ => False) (W.heap.size + 1) W.heap.size b (W.alloc (.cells #[.pointer (some ⟨b, 0, none⟩), .slice none 0 0, .int .i64 0, .int .i64 0, .int .i64 0] 51)) ⟨l.map tkOf, n, false, 0, 0, [], 0⟩ := by
  have hb := hR.facts.2.2.2
  refine ⟨fun g h => h.elim, by omega, by omega, by simp, by omega, some ⟨b, 0, none⟩, .slice none 0 0, [], World.alloc_heap_new W _, ?_, rfl, ownN_nil _ _, fun x hx => by cases hx⟩
  refine .inr ⟨rfl, rfl, A, c, (Below.heap_alloc _ _ _ hb).trans ?_, by simpa using hc, ⟨by simpa using hL, fun t h => ?_⟩, fun h => ?_⟩
  · rw [List.length_map]; exact hR
  · obtain ⟨x, hx, rfl⟩ := List.mem_map.1 h; exact ht x hx
  · obtain ⟨g, rfl, h1, h2, h3⟩ := hg (by intro e; subst e; exact h rfl)
    refine ⟨g, 0, rfl, by omega, by omega, by omega, fun j t hj => ?_⟩
    obtain ⟨x, hx, rfl⟩ := List.getElem?_map .. ▸ hj |> Option.map_eq_some_iff.1
    have hgl : g < W.heap.size := by omega
    have e : ∀ k, (W.alloc (.cells #[.pointer (some ⟨b, 0, none⟩), .slice none 0 0, .int .i64 0, .int .i64 0, .int .i64 0] 51)).cell? ⟨g, k, none⟩ = W.cell? ⟨g, k, none⟩ := fun k => World.cell?_of_block (a := ⟨g, k, none⟩) (Below.heap_alloc _ _ _ hgl)
    obtain ⟨a0, a1, a2, a3⟩ := h1 j x hx
    simp only [Nat.zero_add]
    exact ⟨(e _).trans a0, (e _).trans a1, (e _).trans a2, (e _).trans a3⟩
end Go.Proofs.YtjakeidbajkdcaaGreatDoor.A
