/- Joined by program. -/
import Derived.Test.YtjakeidbajkdcaaGreatDoorRows
import Derived.WalkKit
import Derived.ProofKit
import Derived.OpenShut
import Derived.OwnWalk
import Derived.StillTailTactics
import Derived.RegionTactic
import Derived.Deep.RegionLaw
import Derived.Outline
import Derived.Deep.Draws
import Derived.Lib.Hide
import Derived.Lib.ConvBytes
import Derived.Laws.BytesArg
import Derived.ChangeMaps5
import Derived.ChangeSame
set_option maxRecDepth 100000
namespace Go.Proofs.YtjakeidbajkdcaaGreatDoor.Q
open Go.RowKit
theorem own : ownKnob Tryz.prog.godebug = none := by kernel_rfl
theorem byteInfo : (Tryz.prog.info? 5).map (fun i => (i.zero, i.size, i.bytes)) = some (some (.int .u8 0), 1, 1) := by kernel_rfl
def bv (l : List UInt8) : List Value := l.map fun c => .int .u8 (c.toNat : Int)
theorem bv_append (a b : List UInt8) : bv (a ++ b) = bv a ++ bv b := by simp [bv]
theorem bv_length (a : List UInt8) : (bv a).length = a.length := by simp [bv]
def Row (B : Nat) (w : World) (v : Value) (l : List UInt8) : Prop := w.ownsRow B 5 1 v l.length (bv l)
theorem Row.nil (B : Nat) (w : World) : Row B w (.slice none 0 0) [] := World.ownsRow_nil w B 5 1
theorem Row.one {B : Nat} (w : World) (c : UInt8) (hB : B <= w.heap.size) : Row B (w.alloc (.cells #[.int .u8 (c.toNat : Int)] 5)) (.slice (some ⟨w.heap.size, 0, none⟩) 1 1) [c] :=
  ⟨rfl, .inr ⟨w.heap.size, 1, #[.int .u8 (c.toNat : Int)], rfl, hB, heap_alloc_new w _, Nat.le_refl _, by decide, rfl, rfl⟩⟩
theorem Row.alloc {B : Nat} {w : World} {v : Value} {l : List UInt8} (h : Row B w v l) (o : Obj) : Row B (w.alloc o) v l := World.ownsRow.alloc h o
theorem Row.drew {B : Nat} {w : World} {v : Value} {l : List UInt8} (h : Row B w v l) : Row B w.drew v l := h
theorem Row.app {B : Nat} {w : World} {v : Value} {l : List UInt8} (h : Row B w v l) {g : Nat} {new : List UInt8}
    (hb : w.heap[g]? = some (.cells (bv new).toArray 5 (0, 0))) (hlen : l.length + new.length <= 140737488355328) (hB : B <= w.heap.size) {o : Oper} {a : Act} {K : Act -> World -> Prop} {Q : Exit -> Act -> World -> Prop}
    (s x : Operand) (c : Nat) (ho : o.op = .call { callee := .builtin .append, args := #[s, x], argTypes := #[120, 120] })
    (hs : a.eval s = v) (hx : a.eval x = .slice (some ⟨g, 0, none⟩) new.length c)
    (hk : ∀ v' w', Row B w' v' (l ++ new) -> Below B w w' -> K (a.put o.dst v') w') : o.wp Tryz.prog a w K Q := by
  obtain ⟨i0, hi0, hz0, hz1, hz2⟩ := info_parts byteInfo
  refine wp_append_own w s x 120 ho B 5 i0 (.int .u8 0) 1 1 Tryz.underlying120 hi0 hz0 hz1 hz2 rfl (by decide) v l.length (bv l) hs h ⟨g, 0, none⟩ new.length c (bv new) hx (by rw [bv_length]; omega) ?_ ?_
    (by simp only [maxLen]; omega) (by omega) hB fun v' w' h1 h2 _ => hk v' w' ?_ ?_
  · intro j u hu
    rw [Addr.add_lit, cell_of_row w g (0 + j) (bv new).toArray 5 (0, 0) hb, Nat.zero_add]
    simpa using hu
  · intro u hu
    obtain ⟨c, _, rfl⟩ := List.mem_map.1 hu
    rfl
  · show w'.ownsRow B 5 1 v' (l ++ new).length (bv (l ++ new))
    rw [List.length_append, bv_append]; exact h1
  · exact (Below.refl B w).grown h2 hB (fun k hk => (World.ownsRow.lt h k hk).1)
theorem wpList_app {B : Nat} {w : World} {v : Value} {l : List UInt8} (h : Row B w v l) {g : Nat} (new : List UInt8)
    (hb : w.heap[g]? = some (.cells (bv new).toArray 5 (0, 0))) (hlen : l.length + new.length <= 140737488355328) (hB : B <= w.heap.size) {ops : Array Oper} {rest : List Oper} {o : Oper} {a : Act} {Q : Exit -> Act -> World -> Prop}
    (hgd : o.guard = none) (s x : Operand) (c : Nat) (ho : o.op = .call { callee := .builtin .append, args := #[s, x], argTypes := #[120, 120] })
    (hs : a.eval s = v) (hx : a.eval x = .slice (some ⟨g, 0, none⟩) new.length c)
    (hk : ∀ v' w', Row B w' v' (l ++ new) -> Below B w w' -> wpList Tryz.prog ops Q rest (a.put o.dst v') w') : wpList Tryz.prog ops Q (o :: rest) a w :=
  wpList_plain hgd fun _ hK => h.app hb hlen hB s x c ho hs hx fun v' w' h1 h2 => hK _ _ (hk v' w' h1 h2)
theorem step_app {B : Nat} {w : World} {v : Value} {l : List UInt8} (h : Row B w v l) {g : Nat} (new : List UInt8)
    (hb : w.heap[g]? = some (.cells (bv new).toArray 5 (0, 0))) (hlen : l.length + new.length <= 140737488355328) (hB : B <= w.heap.size) {ops : Array Oper} {o : Oper} {a : Act} {K : Act -> World -> Prop} {Q : Exit -> Act -> World -> Prop} {E : Prop}
    (hgd : o.guard = none) (s x : Operand) (c : Nat) (ho : o.op = .call { callee := .builtin .append, args := #[s, x], argTypes := #[120, 120] })
    (hs : a.eval s = v) (hx : a.eval x = .slice (some ⟨g, 0, none⟩) new.length c)
    (hk : ∀ v' w', Row B w' v' (l ++ new) -> Below B w w' -> K (a.put o.dst v') w') : if Region.wanted o (yielded ops a.tmps) = true then Oper.wp Tryz.prog o a w K Q else E := by
  have hw : Region.wanted o (yielded ops a.tmps) = true := by simp [Region.wanted, hgd]
  rw [if_pos hw]
  exact h.app hb hlen hB s x c ho hs hx hk
theorem Row.conv {B : Nat} {w : World} {v : Value} {l : List UInt8} (h : Row B w v l) : (convert 120 9 v).run Tryz.prog w = .ok (.string ⟨l.toArray⟩) w := by
  rcases h.2 with ⟨rfl, hn⟩ | ⟨g, cap, cur, rfl, _, hh, _⟩
  · obtain rfl : l = [] := List.eq_nil_of_length_eq_zero hn
    exact run_convert_bytes_back (P := Tryz.prog) w 120 9 5 ⟨0, 0, none⟩ 0 [] Tryz.underlying120 Tryz.underlying5 Tryz.underlying9 (fun j hj => absurd hj (by simp))
  · refine run_convert_bytes_back (P := Tryz.prog) w 120 9 5 ⟨g, 0, none⟩ cap l Tryz.underlying120 Tryz.underlying5 Tryz.underlying9 (fun j hj => ?_)
    exact World.ownsRow.cells h (g := g) rfl j _ (by simp [bv, hj])
theorem Row.form {B : Nat} {w : World} {v : Value} {l : List UInt8} (h : Row B w v l) : ∃ A c, v = .slice A l.length c := by
  rcases h.2 with ⟨rfl, hn⟩ | ⟨g, cap, cur, rfl, _⟩
  · exact ⟨none, 0, by rw [hn]⟩
  · exact ⟨_, _, rfl⟩
theorem Row.drewN {B : Nat} {w : World} {v : Value} {l : List UInt8} (h : Row B w v l) (n : Nat) : Row B (w.drewN n) v l := h
theorem below_drewN {B : Nat} {a w : World} (h : Below B a w) (n : Nat) : Below B a (w.drewN n) := ⟨h.os, h.tape, h.output, h.size, h.block⟩
theorem size_len (s : ByteArray) : s.data.toList.length = s.size := by rw [Array.length_toList]; rfl
theorem drop_at (s : ByteArray) (k : Nat) (h : k < s.size) : s.data.toList.drop k = s[k] :: s.data.toList.drop (k + 1) := by
  rw [List.drop_eq_getElem_cons (by rw [size_len]; exact h)]; rfl
theorem take_snoc (s : ByteArray) (k : Nat) (h : k < s.size) : s.data.toList.take (k + 1) = s.data.toList.take k ++ [s[k]] := by
  rw [List.take_succ_eq_append_getElem (by simpa using h)]; rfl
theorem extract_drop (s : ByteArray) (k : Nat) : (s.extract k s.size).data.toList = s.data.toList.drop k := by
  rw [ByteArray.data_extract, Array.toList_extract, List.extract_eq_take_drop, List.take_of_length_le]
  rw [List.length_drop, size_len]; omega
theorem ret_str {a b : ByteArray} (h : a = b) : Ending.returned (.string a) = .returned (.string b) := by rw [h]
end Go.Proofs.YtjakeidbajkdcaaGreatDoor.Q
