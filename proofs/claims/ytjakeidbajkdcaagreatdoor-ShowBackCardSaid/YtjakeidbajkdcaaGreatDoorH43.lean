/- Joined by program. -/
import Derived.Test.YtjakeidbajkdcaaGreatDoorH36
import Derived.Laws.AppendOwnNone
import Derived.WalkSpells
set_option maxRecDepth 100000
set_option maxHeartbeats 1000000
namespace Go.Proofs.YtjakeidbajkdcaaGreatDoor.L
open Go.RowKit
theorem clone_nil (w : World) : Calls Tryz.prog 45 #[.slice none 0 0] w fun e w' => e = .returned (.slice none 0 0) /\ w = w' := by
  have he := fun (w : World) (a : Option Addr) (n c : Nat) => Lib.run_eql_slice_nil (P := Tryz.prog) w 45 63 a n c 0 0 Tryz.underlying45
  go_enter Tryz.func45, Tryz.ntmps45
  go_wp2
  go_ret
  exact ⟨rfl, rfl⟩
theorem clone_pos (w : World) (a : Addr) (L c : Nat) (C : List Value) (hC : Hid (C.length = L * 4)) (hL : L <= 1000000) (ha : a.block < w.heap.size) (HC : Hid (∀ j u, C[j]? = some u -> w.cell? (a.add j) = some u)) (H1 : Hid (∀ u ∈ C, u.oneCell' = true)) :
    Calls Tryz.prog 45 #[.slice (some a) L c] w fun e w' => ∃ v, e = .returned v /\ w'.ownsRow w.heap.size 63 4 v L C /\ Below w.heap.size w w' /\ v ≠ .slice none 0 0 := by
  obtain ⟨i0, hi, hz0, hz1, hz2⟩ := info_parts tokInfo
  have hrow : Hid ((w.alloc (.cells #[] 63)).ownsRow w.heap.size 63 4 (.slice (some ⟨w.heap.size, 0, none⟩) 0 0) 0 []) := Lib.hid (World.ownsRow_made w #[] 0 (Nat.le_refl _) (by decide) rfl)
  have HC' : Hid (∀ j u, C[j]? = some u -> (w.alloc (.cells #[] 63)).cell? (a.add j) = some u) := Lib.hid fun j u h => by
    have hb := (Below.refl w.heap.size w).alloc (Nat.le_refl _) (.cells #[] 63)
    have hblk : (a.add j).block = a.block := by unfold Addr.add; split <;> rfl
    exact (World.cell?_of_block (hb.block _ (by rw [hblk]; exact ha))).trans (HC.out j u h)
  have he := fun (w : World) (a : Option Addr) (n c : Nat) => Lib.run_eql_slice_nil (P := Tryz.prog) w 45 63 a n c 0 0 Tryz.underlying45
  go_enter Tryz.func45, Tryz.ntmps45
  go_wp2_with (at_builtin; refine wpList_append_own _ rfl _ _ 45 rfl w.heap.size 63 i0 (.agg #[.int .i64 0, .string ⟨#[]⟩, .int .i64 0, .int .i64 0]) 4 40 Tryz.underlying45 hi hz0 hz1 hz2 rfl (by decide) _ 0 [] rfl hrow.out a L c C rfl hC.out HC'.out H1.out (by unfold maxLen; omega) (by omega) (by simp) ?_; intro v' w2 hown hgrow hnil)
  go_ret
  exact ⟨_, rfl, by simpa using hown, ((Below.refl w.heap.size w).alloc (Nat.le_refl _) _).grown hgrow (by simp) (fun k hk => by cases hk; exact Nat.le_refl _), fun e => by have := (hnil.1 e).1; cases this⟩
theorem new_pos (w : World) (a : Addr) (l : List Item) (L c : Nat) (n : Int) (HL : Hid (l.length = L)) (h0 : 0 < L) (hL : L <= 1000000) (ha : a.block < w.heap.size) (HC : Hid (∀ j u, (cellsL l)[j]? = some u -> w.cell? (a.add j) = some u)) :
    Calls Tryz.prog 25 #[.slice (some a) L c, .int .i64 n] w fun e w' => ∃ b g c', e = .returned (.pointer (some ⟨b, 0, none⟩)) /\ Rd w' b (some ⟨g, 0, none⟩) L c' n /\ L <= c' /\ HoldsT w' g l /\ w.heap.size <= g /\ g < b /\ Below w.heap.size w w' := by
  have H1 : Hid (∀ u ∈ cellsL l, u.oneCell' = true) := Lib.hid fun u hu => by
    obtain ⟨x, _, hx⟩ := List.mem_flatMap.1 hu
    exact one1 x u hx
  have H4 : Hid ((cellsL l).length = L * 4) := Lib.hid (by rw [cells_len, HL.out])
  have HCl := Lib.hid (clone_pos w a L c (cellsL l) H4 hL ha HC H1)
  go_enter Tryz.func25, Tryz.ntmps25
  go_wp2_with (go_at_call 45; refine HCl.out.mono ?_; rintro e w1 ⟨v, rfl, hrow, hb, _⟩; obtain ⟨g, c', rfl⟩ := row_pos hrow h0; have HR := Lib.hid hrow; have HB := Lib.hid hb; clear hrow hb)
  go_ret
  have hlt := row_lt HR.out
  have hcap : L <= c' /\ w.heap.size <= g := by
    rcases HR.out.2 with ⟨h, _⟩ | ⟨g', cap', cur, h, hg, _, hcc, _⟩
    · cases h
    · cases h; exact ⟨hcc, hg⟩
  have hr := HR.out
  rw [<- HL.out] at hr
  exact ⟨_, g, c', rfl, Blk.new w1 82 _, hcap.1, holdsT_below (holdsT_of hr) ((Below.refl _ w1).alloc (Nat.le_refl _) _) hlt, hcap.2, hlt, HB.out.alloc HB.out.size _⟩
end Go.Proofs.YtjakeidbajkdcaaGreatDoor.L
