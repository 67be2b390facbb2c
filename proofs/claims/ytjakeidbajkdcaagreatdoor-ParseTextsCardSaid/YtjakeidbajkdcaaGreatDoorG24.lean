/- Joined by program. -/
import Derived.Test.YtjakeidbajkdcaaGreatDoorG20
import Derived.Test.YtjakeidbajkdcaaGreatDoorRows
import Derived.WalkKit
import Derived.ProofKit
import Derived.OpenShut
import Derived.OwnWalk
import Derived.StillTailTactics
import Derived.RegionTactic
import Derived.Deep.RegionLaw
import Derived.Outline
import Derived.Deep.Draws
import Derived.Lib.Hide
import Derived.Lib.ConvBytes
import Derived.Laws.BytesArg
import Derived.ChangeMaps5
import Derived.ChangeSame
set_option maxRecDepth 100000
set_option maxHeartbeats 1000000
namespace Go.Proofs.YtjakeidbajkdcaaGreatDoor.Q
open Go.RowKit
theorem own : ownKnob Tryz.prog.godebug = none := by kernel_rfl
theorem byteInfo : (Tryz.prog.info? 5).map (fun i => (i.zero, i.size, i.bytes)) = some (some (.int .u8 0), 1, 1) := by kernel_rfl
def bv (l : List UInt8) : List Value := l.map fun c => .int .u8 (c.toNat : Int)
theorem zom (a b : List UInt8) : bv (a ++ b) = bv a ++ bv b := by simp [bv]
theorem zpq (a : List UInt8) : (bv a).length = a.length := by simp [bv]
def Row (B : Nat) (w : World) (v : Value) (l : List UInt8) : Prop := w.ownsRow B 5 1 v l.length (bv l)
theorem Row.nil (B : Nat) (w : World) : Row B w (.slice none 0 0) [] := World.ownsRow_nil w B 5 1
theorem Row.empty {B : Nat} (w : World) (hB : B <= w.heap.size) : Row B (w.alloc (.cells #[] 5)) (.slice (some ⟨w.heap.size, 0, none⟩) 0 0) [] :=
 World.ownsRow_made w #[] 0 hB (by decide) rfl
theorem Row.one {B : Nat} (w : World) (c : UInt8) (hB : B <= w.heap.size) : Row B (w.alloc (.cells #[.int .u8 (c.toNat : Int)] 5)) (.slice (some ⟨w.heap.size, 0, none⟩) 1 1) [c] :=
 ⟨rfl, .inr ⟨w.heap.size, 1, #[.int .u8 (c.toNat : Int)], rfl, hB, heap_alloc_new w _, lrf _, by decide, rfl, rfl⟩⟩
theorem Row.alloc {B : Nat} {w : World} {v : Value} {l : List UInt8} (h : Row B w v l) (o : Obj) : Row B (w.alloc o) v l := World.ownsRow.alloc h o
theorem Row.drew {B : Nat} {w : World} {v : Value} {l : List UInt8} (h : Row B w v l) : Row B w.drew v l := h
theorem Row.app {B : Nat} {w : World} {v : Value} {l : List UInt8} (h : Row B w v l) {g : Nat} {new : List UInt8}
  (hb : w.heap[g]? = some (.cells (bv new).toArray 5 (0, 0))) (hlen : l.length + new.length <= 140737488355328) (hB : B <= w.heap.size) {o : Oper} {a : Act} {K : Act -> World -> Prop} {Q : Exit -> Act -> World -> Prop}
  (s x : Operand) (c : Nat) (ho : o.op = .call { callee := .builtin .append, args := #[s, x], argTypes := #[120, 120] })
  (hs : a.eval s = v) (hx : a.eval x = .slice (some ⟨g, 0, none⟩) new.length c)
  (hk : ∀ v' w', Row B w' v' (l ++ new) -> Below B w w' -> K (a.put o.dst v') w') : o.wp Tryz.prog a w K Q := by
 obtain ⟨i0, hi0, hz0, hz1, hz2⟩ := info_parts byteInfo
 refine wp_append_own w s x 120 ho B 5 i0 (.int .u8 0) 1 1 Tryz.underlying120 hi0 hz0 hz1 hz2 rfl (by decide) v l.length (bv l) hs h ⟨g, 0, none⟩ new.length c (bv new) hx (by rw [zpq]; omega) ?_ ?_
  (by simp only [maxLen]; omega) (by omega) hB fun v' w' h1 h2 _ => hk v' w' ?_ ?_
 ·intro j u hu
  rw [Addr.add_lit, cell_of_row w g (0 + j) (bv new).toArray 5 (0, 0) hb, Nat.zero_add]
  simpa using hu
 ·intro u hu
  obtain ⟨c, _, rfl⟩ := List.mem_map.1 hu
  rfl
 ·show w'.ownsRow B 5 1 v' (l ++ new).length (bv (l ++ new))
  rw [List.length_append, zom]; exact h1
 ·exact (br B w).grown h2 hB (fun k hk => (World.ownsRow.lt h k hk).1)
theorem zbd {B : Nat} {w : World} {v : Value} {l : List UInt8} (h : Row B w v l) {g : Nat} (new : List UInt8)
  (hb : w.heap[g]? = some (.cells (bv new).toArray 5 (0, 0))) (hlen : l.length + new.length <= 140737488355328) (hB : B <= w.heap.size) {ops : Array Oper} {rest : List Oper} {o : Oper} {a : Act} {Q : Exit -> Act -> World -> Prop}
  (hgd : o.guard = none) (s x : Operand) (c : Nat) (ho : o.op = .call { callee := .builtin .append, args := #[s, x], argTypes := #[120, 120] })
  (hs : a.eval s = v) (hx : a.eval x = .slice (some ⟨g, 0, none⟩) new.length c)
  (hk : ∀ v' w', Row B w' v' (l ++ new) -> Below B w w' -> wpList Tryz.prog ops Q rest (a.put o.dst v') w') : wpList Tryz.prog ops Q (o :: rest) a w :=
 wpList_plain hgd fun _ hK => h.app hb hlen hB s x c ho hs hx fun v' w' h1 h2 => hK _ _ (hk v' w' h1 h2)
theorem zk8 {B : Nat} {w : World} {v : Value} {l : List UInt8} (h : Row B w v l) {g : Nat} (new : List UInt8)
  (hb : w.heap[g]? = some (.cells (bv new).toArray 5 (0, 0))) (hlen : l.length + new.length <= 140737488355328) (hB : B <= w.heap.size) {ops : Array Oper} {o : Oper} {a : Act} {K : Act -> World -> Prop} {Q : Exit -> Act -> World -> Prop} {E : Prop}
  (hgd : o.guard = none) (s x : Operand) (c : Nat) (ho : o.op = .call { callee := .builtin .append, args := #[s, x], argTypes := #[120, 120] })
  (hs : a.eval s = v) (hx : a.eval x = .slice (some ⟨g, 0, none⟩) new.length c)
  (hk : ∀ v' w', Row B w' v' (l ++ new) -> Below B w w' -> K (a.put o.dst v') w') : if Region.wanted o (yielded ops a.tmps) = true then Oper.wp Tryz.prog o a w K Q else E := by
 have hw : Region.wanted o (yielded ops a.tmps) = true := by simp [Region.wanted, hgd]
 rw [if_pos hw]
 exact h.app hb hlen hB s x c ho hs hx hk
theorem Row.conv {B : Nat} {w : World} {v : Value} {l : List UInt8} (h : Row B w v l) : (convert 120 9 v).run Tryz.prog w = .ok (.string ⟨l.toArray⟩) w := by
 rcases h.2 with ⟨rfl, hn⟩ | ⟨g, cap, cur, rfl, _, hh, _⟩
 ·obtain rfl : l = [] := List.eq_nil_of_length_eq_zero hn
  exact run_convert_bytes_back (P := Tryz.prog) w 120 9 5 ⟨0, 0, none⟩ 0 [] Tryz.underlying120 Tryz.underlying5 Tryz.underlying9 (fun j hj => absurd hj (by simp))
 ·refine run_convert_bytes_back (P := Tryz.prog) w 120 9 5 ⟨g, 0, none⟩ cap l Tryz.underlying120 Tryz.underlying5 Tryz.underlying9 (fun j hj => ?_)
  exact World.ownsRow.cells h (g := g) rfl j _ (by simp [bv, hj])
theorem Row.form {B : Nat} {w : World} {v : Value} {l : List UInt8} (h : Row B w v l) : ∃ A c, v = .slice A l.length c := by
 rcases h.2 with ⟨rfl, hn⟩ | ⟨g, cap, cur, rfl, _⟩
 ·exact ⟨none, 0, by rw [hn]⟩
 ·exact ⟨_, _, rfl⟩
theorem Row.drewN {B : Nat} {w : World} {v : Value} {l : List UInt8} (h : Row B w v l) (n : Nat) : Row B (w.drewN n) v l := h
theorem zav {B : Nat} {a w : World} (h : Below B a w) (n : Nat) : Below B a (w.drewN n) := ⟨h.os, h.tape, h.output, h.size, h.block⟩
theorem size_len (s : ByteArray) : s.data.toList.length = s.size := by rw [Array.length_toList]; rfl
theorem zal (s : ByteArray) (k : Nat) (h : k < s.size) : s.data.toList.drop k = s[k] :: s.data.toList.drop (k + 1) := by
 rw [List.drop_eq_getElem_cons (by rw [size_len]; exact h)]; rfl
theorem zao (s : ByteArray) (k : Nat) (h : k < s.size) : s.data.toList.take (k + 1) = s.data.toList.take k ++ [s[k]] := by
 rw [List.take_succ_eq_append_getElem (by simpa using h)]; rfl
theorem zjp (s : ByteArray) (k : Nat) : (s.extract k s.size).data.toList = s.data.toList.drop k := by
 rw [ByteArray.data_extract, Array.toList_extract, List.extract_eq_take_drop, List.take_of_length_le]
 rw [List.length_drop, size_len]; omega
theorem zot {a b : ByteArray} (h : a = b) : Ending.returned (.string a) = .returned (.string b) := by rw [h]
open Go.RowKit
theorem zue (c : UInt8) (w : World) : Calls Tryz.prog 143 #[.int .u8 (c.toNat : Int)] w fun e w' => e = .returned (.bool (decide (bare c))) /\ w = w' := by
 by_cases h : bare c
 ·obtain ⟨h1, h2, h3, h4⟩ := h
  have H : Hid (decide (bare c) = true) := decide_eq_true ⟨h1, h2, h3, h4⟩
  have h3' : ((c.toNat : Int) != 34) = true := by rw [bne_iff_ne]; omega
  have h4' : ((c.toNat : Int) != 92) = true := by rw [bne_iff_ne]; omega
  have h1' : (32 : Int) <= c.toNat := by omega
  have h2' : (c.toNat : Int) <= 126 := by omega
  clear h1 h2 h3 h4
  go_enter Tryz.func143, Tryz.ntmps143
  go_wp2
  go_ret
  exact ⟨by rw [H.out]; rfl, rfl⟩
 ·have H : Hid (decide (bare c) = false) := decide_eq_false h
  by_cases h1 : 32 <= c.toNat
  ·by_cases h2 : c.toNat <= 126
   ·have h1' : (32 : Int) <= c.toNat := by omega
    have h2' : (c.toNat : Int) <= 126 := by omega
    by_cases h3 : c.toNat = 34
    ·have h3' : ((c.toNat : Int) != 34) = false := by simp [h3]
     clear h3 h
     go_enter Tryz.func143, Tryz.ntmps143
     go_wp2
     go_ret
     exact ⟨by rw [H.out]; rfl, rfl⟩
    ·have h3' : ((c.toNat : Int) != 34) = true := by rw [bne_iff_ne]; omega
     have h4 : c.toNat = 92 := Decidable.byContradiction fun h4 => h ⟨h1, h2, h3, h4⟩
     have h4' : ((c.toNat : Int) != 92) = false := by simp [h4]
     clear h3 h4 h
     go_enter Tryz.func143, Tryz.ntmps143
     go_wp2
     go_ret
     exact ⟨by rw [H.out]; rfl, rfl⟩
   ·have h1' : (32 : Int) <= c.toNat := by omega
    have h2' : ¬ (c.toNat : Int) <= 126 := by omega
    clear h
    go_enter Tryz.func143, Tryz.ntmps143
    go_wp2
    go_ret
    exact ⟨by rw [H.out]; rfl, rfl⟩
  ·have h1' : ¬ (32 : Int) <= c.toNat := by omega
   clear h
   go_enter Tryz.func143, Tryz.ntmps143
   go_wp2
   go_ret
   exact ⟨by rw [H.out]; rfl, rfl⟩
theorem zud {c : UInt8} (h : Hid (bare c)) (w : World) : Calls Tryz.prog 143 #[.int .u8 (c.toNat : Int)] w fun e w' => e = .returned (.bool true) /\ w = w' := by
 have := zue c w
 rwa [decide_eq_true h.out] at this
theorem zh9 {c : UInt8} (h : Hid (¬ bare c)) (w : World) : Calls Tryz.prog 143 #[.int .u8 (c.toNat : Int)] w fun e w' => e = .returned (.bool false) /\ w = w' := by
 have := zue c w
 rwa [decide_eq_false h.out] at this
def WrPost (B : Nat) (l : List UInt8) (w : World) (e : Ending) (w' : World) : Prop := ∃ v, e = .returned v /\ Row B w' v l /\ Below B w w'
theorem eqb {c : UInt8} {n : Nat} (h : c.toNat = n) : ((c.toNat : Int) == (n : Int)) = true := by simp [h]
theorem neb {c : UInt8} {n : Nat} (h : ¬ c.toNat = n) : ((c.toNat : Int) == (n : Int)) = false := by rw [beq_eq_false_iff_ne]; omega
section
variable {B : Nat} {v : Value} {l : List UInt8} (w : World)
theorem zq0 (hrow : Row B w v l) (hl : l.length <= 900000) (hB : B <= w.heap.size) : Calls Tryz.prog 110 #[v, .int .u8 34] w (WrPost B (l ++ [92, 34]) w) := by
 go_enter Tryz.func110, Tryz.ntmps110
 go_wp2_with (at_builtin; refine zbd (hrow.alloc _) [92, 34] (heap_alloc_new w _) (by simp; omega) (by simp; omega) rfl _ _ 2 rfl rfl rfl ?_; intro v1 w1 hr1 hb1)
 go_ret
 exact ⟨v1, rfl, hr1, ((br B w).alloc hB _).trans hb1⟩
theorem zw1 (hrow : Row B w v l) (hl : l.length <= 900000) (hB : B <= w.heap.size) : Calls Tryz.prog 110 #[v, .int .u8 92] w (WrPost B (l ++ [92, 92]) w) := by
 go_enter Tryz.func110, Tryz.ntmps110
 go_wp2_with (at_builtin; refine zbd (hrow.alloc _) [92, 92] (heap_alloc_new w _) (by simp; omega) (by simp; omega) rfl _ _ 2 rfl rfl rfl ?_; intro v1 w1 hr1 hb1)
 go_ret
 exact ⟨v1, rfl, hr1, ((br B w).alloc hB _).trans hb1⟩
theorem zum (hrow : Row B w v l) (hl : l.length <= 900000) (hB : B <= w.heap.size) : Calls Tryz.prog 110 #[v, .int .u8 10] w (WrPost B (l ++ [92, 110]) w) := by
 go_enter Tryz.func110, Tryz.ntmps110
 go_wp2_with (at_builtin; refine zbd (hrow.alloc _) [92, 110] (heap_alloc_new w _) (by simp; omega) (by simp; omega) rfl _ _ 2 rfl rfl rfl ?_; intro v1 w1 hr1 hb1)
 go_ret
 exact ⟨v1, rfl, hr1, ((br B w).alloc hB _).trans hb1⟩
theorem zy9 (hrow : Row B w v l) (hl : l.length <= 900000) (hB : B <= w.heap.size) : Calls Tryz.prog 110 #[v, .int .u8 9] w (WrPost B (l ++ [92, 116]) w) := by
 go_enter Tryz.func110, Tryz.ntmps110
 go_wp2_with (at_builtin; refine zbd (hrow.alloc _) [92, 116] (heap_alloc_new w _) (by simp; omega) (by simp; omega) rfl _ _ 2 rfl rfl rfl ?_; intro v1 w1 hr1 hb1)
 go_ret
 exact ⟨v1, rfl, hr1, ((br B w).alloc hB _).trans hb1⟩
variable (c : UInt8)
theorem zwu (h : Hid (bare c)) (h10 : ((c.toNat : Int) == 10) = false) (h9 : ((c.toNat : Int) == 9) = false) (h34 : ((c.toNat : Int) == 34) = false) (h92 : ((c.toNat : Int) == 92) = false)
  (hrow : Row B w v l) (hl : l.length <= 900000) (hB : B <= w.heap.size) : Calls Tryz.prog 110 #[v, .int .u8 (c.toNat : Int)] w (WrPost B (l ++ [c]) w) := by
 go_enter Tryz.func110, Tryz.ntmps110
 go_wp2_with (first | (go_at_call 143; refine (zud h _).mono ?_; rintro e w' ⟨rfl, rfl⟩) | (at_builtin; refine zbd (hrow.alloc _) [c] (heap_alloc_new w _) (by simp; omega) (by simp; omega) rfl _ _ 1 rfl rfl rfl ?_; intro v1 w1 hr1 hb1))
 go_ret
 exact ⟨v1, rfl, hr1, ((br B w).alloc hB _).trans hb1⟩
abbrev digs : ByteArray := { data := #[48, 49, 50, 51, 52, 53, 54, 55, 56, 57, 97, 98, 99, 100, 101, 102] }
theorem zog (k : IntKind) (hk : k = .u8 ∨ k = .i64) : ∀ (n : Nat) (_ : n < 16) (W : World), (Instr.index 9 (.string digs) (.int k (n : Int))).run Tryz.prog W = .ok (.int .u8 ((hexd n).toNat : Int)) W := by
 rcases hk with rfl | rfl
 ·intro n hn W
  match n, hn with
  | 0, _ => rfl
  | 1, _ => rfl
  | 2, _ => rfl
  | 3, _ => rfl
  | 4, _ => rfl
  | 5, _ => rfl
  | 6, _ => rfl
  | 7, _ => rfl
  | 8, _ => rfl
  | 9, _ => rfl
  | 10, _ => rfl
  | 11, _ => rfl
  | 12, _ => rfl
  | 13, _ => rfl
  | 14, _ => rfl
  | 15, _ => rfl
  | n + 16, h => omega
 ·intro n hn W
  match n, hn with
  | 0, _ => rfl
  | 1, _ => rfl
  | 2, _ => rfl
  | 3, _ => rfl
  | 4, _ => rfl
  | 5, _ => rfl
  | 6, _ => rfl
  | 7, _ => rfl
  | 8, _ => rfl
  | 9, _ => rfl
  | 10, _ => rfl
  | 11, _ => rfl
  | 12, _ => rfl
  | 13, _ => rfl
  | 14, _ => rfl
  | 15, _ => rfl
  | n + 16, h => omega
theorem and15 : ∀ n : Nat, n < 256 -> bits .and .u8 (n : Int) 15 = ((n % 16 : Nat) : Int) := by decide +kernel
theorem zy3 (h : Hid (¬ bare c)) (h10 : ((c.toNat : Int) == 10) = false) (h9 : ((c.toNat : Int) == 9) = false) (h34 : ((c.toNat : Int) == 34) = false) (h92 : ((c.toNat : Int) == 92) = false)
  (hrow : Row B w v l) (hl : l.length <= 900000) (hB : B <= w.heap.size) : Calls Tryz.prog 110 #[v, .int .u8 (c.toNat : Int)] w (WrPost B (l ++ [92, 120, hexd (c.toNat / 16), hexd (c.toNat % 16)]) w) := by
 have hlt := c.toNat_lt
 have i1 : ∀ W : World, (Instr.index 9 (.string digs) (.int .u8 ((c.toNat : Int) / 16))).run Tryz.prog W = .ok (.int .u8 ((hexd (c.toNat / 16)).toNat : Int)) W := zog .u8 (.inl rfl) (c.toNat / 16) (by omega)
 have i2 : ∀ W : World, (Instr.index 9 (.string digs) (.int .u8 ((c.toNat : Int) % 16))).run Tryz.prog W = .ok (.int .u8 ((hexd (c.toNat % 16)).toNat : Int)) W := zog .u8 (.inl rfl) (c.toNat % 16) (by omega)
 have i3 := and15 c.toNat (by omega)
 go_enter Tryz.func110, Tryz.ntmps110
 go_wp2_with (first | (go_at_call 143; refine (zh9 h _).mono ?_; rintro e w' ⟨rfl, rfl⟩))
 go_region_law ((refine zk8 (hrow.drew.alloc _) [92, 120, hexd (c.toNat / 16), hexd (c.toNat % 16)] (heap_alloc_new w.drew _) (by simp; omega) (by simp; omega) rfl _ _ 4 rfl rfl rfl ?_; intro v1 w1 hr1 hb1))
 all_goals
  go_wp2
  go_ret
  exact ⟨_, rfl, hr1, ((br B w).drew.alloc hB _).trans hb1⟩
theorem zzs (c : UInt8) (hrow : Row B w v l) (hl : l.length <= 900000) (hB : B <= w.heap.size) : Calls Tryz.prog 110 #[v, .int .u8 (c.toNat : Int)] w (WrPost B (l ++ wr1 c) w) := by
 by_cases h34 : c.toNat = 34
 ·rw [show wr1 c = [92, 34] by rw [wr1, if_pos h34], h34]; exact zq0 w hrow hl hB
 by_cases h92 : c.toNat = 92
 ·rw [show wr1 c = [92, 92] by rw [wr1, if_neg h34, if_pos h92], h92]; exact zw1 w hrow hl hB
 by_cases h10 : c.toNat = 10
 ·rw [show wr1 c = [92, 110] by rw [wr1, if_neg h34, if_neg h92, if_pos h10], h10]; exact zum w hrow hl hB
 by_cases h9 : c.toNat = 9
 ·rw [show wr1 c = [92, 116] by rw [wr1, if_neg h34, if_neg h92, if_neg h10, if_pos h9], h9]; exact zy9 w hrow hl hB
 by_cases hb : bare c
 ·rw [show wr1 c = [c] by rw [wr1, if_neg h34, if_neg h92, if_neg h10, if_neg h9, if_pos hb]]
  exact zwu w c (jj hb) (neb h10) (neb h9) (neb h34) (neb h92) hrow hl hB
 ·rw [show wr1 c = [92, 120, hexd (c.toNat / 16), hexd (c.toNat % 16)] by rw [wr1, if_neg h34, if_neg h92, if_neg h10, if_neg h9, if_neg hb]]
  exact zy3 w c (jj hb) (neb h10) (neb h9) (neb h34) (neb h92) hrow hl hB
end
theorem zw6 (s : ByteArray) (k : Nat) (h : k < s.size) : 34 :: wrt (s.data.toList.take (k + 1)) = (34 :: wrt (s.data.toList.take k)) ++ wr1 s[k] := by
 rw [zao s k h, zup]; rfl
def Wrote (B : Nat) (s : ByteArray) (k : Nat) (w : World) (v : Value) : Prop := Row B w v (34 :: wrt (s.data.toList.take k))
theorem zen {B : Nat} (s : ByteArray) (hs : s.size <= 10000) (w : World) (hB : B <= w.heap.size) :
  Calls Tryz.prog 66 #[.string s] w fun e w' => e = .returned (.string ⟨(qtext s.data.toList).toArray⟩) /\ Below B w w' := by
 go_enter Tryz.func66, Tryz.ntmps66
 go_wp2
 go_loopw [3, 8] (fun v i wr => ∃ k : Nat, k <= s.size /\ i = .int .i64 k /\ Wrote B s k wr v /\ Below B w wr) (fun _ i _ => s.size - (intOf i).toNat)
 case atStart => exact ⟨0, Nat.zero_le _, rfl, Row.one w 34 hB, (br B w).alloc hB _⟩
 case round =>
  obtain ⟨k, hk, rfl, hrow, hbw⟩ := hrel
  have hz := hbw.size
  have hlen : (34 :: wrt (s.data.toList.take k)).length <= 40001 := by
   have h1 := zn0 (s.data.toList.take k)
   have h2 : (s.data.toList.take k).length <= k := List.length_take_le _ _
   simp only [List.length_cons]; omega
  by_cases hlt : k < s.size
  ·have HT := jj (zw6 s k hlt)
   go_wp2_with (go_at_call 110; refine (zzs _ s[k] hrow (by omega) (by omega)).mono ?_; rintro e w1 ⟨v1, rfl, hr1, hb1⟩)
   go_roundw
   case rel => exact ⟨k + 1, by omega, by go_num, by unfold Wrote; rw [HT.out]; exact hr1, hbw.trans hb1⟩
   case measure => simp [intOf]; omega
  ·obtain rfl : k = s.size := by omega
   unfold Wrote at hrow
   rw [List.take_of_length_le (by rw [size_len]; exact lrf _)] at hrow hlen
   go_wp2_with (at_builtin; refine zbd (hrow.alloc _) [34] (heap_alloc_new _ _) (by simp only [List.length_cons, List.length_nil] at hlen ⊢; omega) (by simp; omega) rfl _ _ 1 rfl rfl rfl ?_; intro v1 w1 hr1 hb1; have hcv := hr1.conv)
   go_ret
   exact ⟨rfl, (hbw.alloc (by omega) _).trans hb1⟩
open Go.RowKit
section
variable (s : ByteArray) (n : Nat)
def At (k : Nat) (b : UInt8) : Prop := rk (s.data.toList.drop n) = k /\ rb (s.data.toList.drop n) = b
theorem zv8 (h : n < s.size) (hb : bare s[n]) : At s n 1 s[n] := by
 unfold At; rw [zal s n h]; simp [rk, rb, hb]
theorem z0k (h : n < s.size) (hb : ¬ bare s[n]) (h92 : ¬ s[n].toNat = 92) : At s n 0 0 := by
 unfold At; rw [zal s n h]; simp [rk, rb, hb, h92]
theorem no92 {c : UInt8} (h92 : c.toNat = 92) : ¬ bare c := fun h => h.2.2.2 h92
theorem zrs (h : n < s.size) (h92 : s[n].toNat = 92) (h1 : ¬ n + 1 < s.size) : At s n 0 0 := by
 have hb := no92 h92
 have e1 : s.data.toList.drop (n + 1) = [] := List.drop_of_length_le (by rw [size_len]; omega)
 unfold At; rw [zal s n h, e1]; simp [rk, rb, hb, h92]
theorem zql (h : n < s.size) (h92 : s[n].toNat = 92) (h1 : n + 1 < s.size) (hd : s[n + 1].toNat = 34 ∨ s[n + 1].toNat = 92) : At s n 2 s[n + 1] := by
 have hb := no92 h92
 unfold At; rw [zal s n h, zal s (n + 1) h1]
 rcases hd with hd | hd <;> simp [rk, rb, hb, h92, hd]
theorem zxr (h : n < s.size) (h92 : s[n].toNat = 92) (h1 : n + 1 < s.size) (hd : s[n + 1].toNat = 110) : At s n 2 10 := by
 have hb := no92 h92
 unfold At; rw [zal s n h, zal s (n + 1) h1]; simp [rk, rb, hb, h92, hd]
theorem zzr (h : n < s.size) (h92 : s[n].toNat = 92) (h1 : n + 1 < s.size) (hd : s[n + 1].toNat = 116) : At s n 2 9 := by
 have hb := no92 h92
 unfold At; rw [zal s n h, zal s (n + 1) h1]; simp [rk, rb, hb, h92, hd]
theorem zw0 (h : n < s.size) (h92 : s[n].toNat = 92) (h1 : n + 1 < s.size) (a34 : ¬ s[n + 1].toNat = 34) (a92 : ¬ s[n + 1].toNat = 92) (a110 : ¬ s[n + 1].toNat = 110) (a116 : ¬ s[n + 1].toNat = 116) (a120 : ¬ s[n + 1].toNat = 120) : At s n 0 0 := by
 have hb := no92 h92
 unfold At; rw [zal s n h, zal s (n + 1) h1]; simp [rk, rb, hb, h92, a34, a92, a110, a116, a120]
theorem zp7 (h : n < s.size) (h92 : s[n].toNat = 92) (h1 : n + 1 < s.size) (a120 : s[n + 1].toNat = 120) (h3 : ¬ n + 3 < s.size) : At s n 0 0 := by
 have hb := no92 h92
 have hl : (s.data.toList.drop (n + 1 + 1)).length <= 1 := by rw [List.length_drop, size_len]; omega
 unfold At; rw [zal s n h, zal s (n + 1) h1]
 rcases hq : s.data.toList.drop (n + 1 + 1) with _ | ⟨a, _ | ⟨b, r⟩⟩
 ·simp [rk, rb, hb, h92, a120]
 ·simp [rk, rb, hb, h92, a120]
 ·rw [hq] at hl; simp at hl
theorem zxh (h : n < s.size) (h92 : s[n].toNat = 92) (h1 : n + 1 < s.size) (a120 : s[n + 1].toNat = 120) (h2 : n + 2 < s.size) (h3 : n + 3 < s.size) (x : ¬ (0 : Int) <= hx s[n + 2]) : At s n 0 0 := by
 have hb := no92 h92
 unfold At; rw [zal s n h, zal s (n + 1) h1, zal s (n + 2) h2, zal s (n + 3) h3]; simp [rk, rb, hb, h92, a120, x]
theorem zxg (h : n < s.size) (h92 : s[n].toNat = 92) (h1 : n + 1 < s.size) (a120 : s[n + 1].toNat = 120) (h2 : n + 2 < s.size) (h3 : n + 3 < s.size) (x : ¬ (0 : Int) <= hx s[n + 3]) : At s n 0 0 := by
 have hb := no92 h92
 unfold At; rw [zal s n h, zal s (n + 1) h1, zal s (n + 2) h2, zal s (n + 3) h3]; simp [rk, rb, hb, h92, a120, x]
theorem zwm (h : n < s.size) (h92 : s[n].toNat = 92) (h1 : n + 1 < s.size) (a120 : s[n + 1].toNat = 120) (h2 : n + 2 < s.size) (h3 : n + 3 < s.size) (x : (0 : Int) <= hx s[n + 2]) (y : (0 : Int) <= hx s[n + 3]) :
  At s n 4 (UInt8.ofNat ((hx s[n + 2]).toNat * 16 + (hx s[n + 3]).toNat)) := by
 have hb := no92 h92
 unfold At; rw [zal s n h, zal s (n + 1) h1, zal s (n + 2) h2, zal s (n + 3) h3]; simp [rk, rb, hb, h92, a120, x, y]
variable {s n} {o : Option (List UInt8 × Nat)} {acc : List UInt8}
def Going (s : ByteArray) (o : Option (List UInt8 × Nat)) (n : Nat) (acc : List UInt8) : Prop := tkAt s.data.toList n acc = o
theorem Going.end_ (h : Going s o n acc) (hn : s.size <= n) : o = none := by rw [<- show tkAt s.data.toList n acc = o from h]; exact zn1 (by rw [size_len]; exact hn)
theorem Going.quote (h : Going s o n acc) (hn : n < s.size) (h34 : s[n].toNat = 34) : o = some (acc, n + 1) := by rw [<- show tkAt s.data.toList n acc = o from h]; exact zks (zal s n hn) h34
theorem Going.bad (h : Going s o n acc) (hn : n < s.size) (h34 : ¬ s[n].toNat = 34) {b : UInt8} (ha : At s n 0 b) : o = none := by rw [<- show tkAt s.data.toList n acc = o from h]; exact zt4 (zal s n hn) h34 ha.1
theorem Going.step (h : Going s o n acc) (hn : n < s.size) (h34 : ¬ s[n].toNat = 34) {k : Nat} {b : UInt8} (ha : At s n k b) (hk : k ≠ 0) : Going s o (n + k) (acc ++ [b]) := by
 have h1 := zpm (acc := acc) (zal s n hn) h34 (by rw [ha.1]; exact hk)
 rw [ha.1, ha.2] at h1
 unfold Going
 rw [<- h1]; exact h
end
end Go.Proofs.YtjakeidbajkdcaaGreatDoor.Q
