/- isOf, remark, refused, taken: the small calls of package lex. -/
import Derived.Test.YtekbfgjlkmldgaaDoorLMath
import Derived.Test.YtekbfgjlkmldgaaDoorShelf
import Derived.Test.YtekbfgjlkmldgaaDoorMNames
import Derived.Outline
namespace Go.Proofs.YtekbfgjlkmldgaaDoor.L
open Go.RowKit
/-- What is answered of a token, without a place. -/
def R.val (r : R) (pos : Int) : Value := .agg #[.int .i64 r.k, .string r.t, .int .i64 r.n, .int .i64 pos]
def FP (r : R) (B : Nat) (w : World) (e : Ending) (w' : World) : Prop :=
  e = .returned (.tuple #[r.val 0, .int .i64 r.long, .int .i64 r.e]) ∧ Below B w w'
theorem is_of (kind : ByteArray) (c : UInt8) (b : Bool) (h : Hid (decide (0 ≤ Lib.indexByte kind.data.toList c) = b)) (w : World) :
    Calls Tryd.prog 26 #[.string kind, .int .u8 (c.toNat : Int)] w fun e w' => e = .returned (.bool b) ∧ w = w' := by
  have hi := Tryd.strings_IndexByte kind (c.toNat : Int) w
  rw [Int.toNat_natCast, show c.toNat.toUInt8 = c by simp] at hi
  have HI := Lib.hid hi
  clear hi
  go_enter Tryd.func26, Tryd.ntmps26
  go_wp2_with (go_at_call 39; refine HI.out.mono ?_; rintro e w' ⟨rfl, rfl⟩)
  go_ret
  exact ⟨by have := h.out; subst this; rfl, rfl⟩
theorem remark_no (s : ByteArray) (h : Hid (Lib.indexByte s.data.toList 10 = -1)) (w : World) :
    Calls Tryd.prog 27 #[.string s] w fun e w' => e = .returned (.int .i64 s.size) ∧ w = w' := by
  have hi := Tryd.strings_IndexByte s 10 w
  rw [show (10 : Int).toNat.toUInt8 = 10 from rfl, h.out] at hi
  have HI := Lib.hid hi
  clear hi
  go_enter Tryd.func27, Tryd.ntmps27
  go_wp2_with (go_at_call 39; refine HI.out.mono ?_; rintro e w' ⟨rfl, rfl⟩)
  go_ret
  exact ⟨rfl, rfl⟩
theorem remark_yes (s : ByteArray) (k : Nat) (h : Hid (Lib.indexByte s.data.toList 10 = k)) (w : World) :
    Calls Tryd.prog 27 #[.string s] w fun e w' => e = .returned (.int .i64 k) ∧ w = w' := by
  have hi := Tryd.strings_IndexByte s 10 w
  rw [show (10 : Int).toNat.toUInt8 = 10 from rfl, h.out] at hi
  have HI := Lib.hid hi
  clear hi
  go_enter Tryd.func27, Tryd.ntmps27
  go_wp2_with (go_at_call 39; refine HI.out.mono ?_; rintro e w' ⟨rfl, rfl⟩)
  go_ret
  exact ⟨rfl, rfl⟩
theorem bcell {W w1 : World} (hb : Below W.heap.size W w1) : (∀ b o, b < W.heap.size → w1.cell? ⟨b, o, none⟩ = W.cell? ⟨b, o, none⟩) ∧ (∀ b o, b < W.heap.size → w1.frozen? ⟨b, o, none⟩ = W.frozen? ⟨b, o, none⟩) :=
  ⟨fun b o h => hb.cell (p := ⟨b, o, none⟩) h, fun b o h => hb.frozen (p := ⟨b, o, none⟩) h⟩
theorem below4 {B : Nat} {w w' : World} {o : Obj} {b : Nat} (hB : B ≤ w.heap.size) (hb : Below b (w.alloc o) w') (h : b = w.heap.size + 1) (v0 v1 v2 v3 : Value) :
    Below B w ((((w'.setCell ⟨w.heap.size, 0, none⟩ v0).setCell ⟨w.heap.size, 1, none⟩ v1).setCell ⟨w.heap.size, 2, none⟩ v2).setCell ⟨w.heap.size, 3, none⟩ v3) :=
  ((((((Below.refl B w).alloc hB o).trans (hb.mono (by omega))).setCell (p := ⟨w.heap.size, 0, none⟩) hB _).setCell (p := ⟨w.heap.size, 1, none⟩) hB _).setCell (p := ⟨w.heap.size, 2, none⟩) hB _).setCell (p := ⟨w.heap.size, 3, none⟩) hB _
theorem refused_any {B : Nat} (x : Int) (w : World) (hB : B ≤ w.heap.size) : Calls Tryd.prog 47 #[.int .i64 x] w (FP (bad x) B w) := by
  go_enter Tryd.func47, Tryd.ntmps47
  go_wp2
  exact bodyPost_ret (v := .tuple #[.agg #[.int .i64 0, .string ⟨#[]⟩, .int .i64 0, .int .i64 0], .int .i64 0, .int .i64 x]) (by simp [results, Tryd.results47, go_sem]) rfl ⟨rfl, (Below.refl _ w).alloc hB _⟩
theorem clone_any (s : ByteArray) (hs : s.size ≤ 281474976710656) (w : World) : Calls Tryd.prog 52 #[.string s] w fun e w' => e = .returned (.string s) ∧ Below w.heap.size w w' := by
  have hc := Tryd.stringslite_Clone s w hs
  go_enter Tryd.func52, Tryd.ntmps52
  go_wp2_with (go_at_call 61; refine hc.mono ?_; rintro e w' ⟨rfl, hb⟩)
  go_ret
  exact ⟨rfl, hb⟩
theorem taken_any {B : Nat} (kind : Int) (s : ByteArray) (long : Nat) (hs : s.size ≤ 281474976710656) (w : World) (hB : B ≤ w.heap.size) :
    Calls Tryd.prog 44 #[.int .i64 kind, .string s, .int .i64 (long : Int)] w (FP ⟨kind, s, 0, long, 0⟩ B w) := by
  have HC := Lib.hid (clone_any s hs)
  go_enter Tryd.func44, Tryd.ntmps44
  go_wp2_with (go_at_call 52; refine (HC.out _).mono ?_; rintro e w' ⟨rfl, hb⟩; obtain ⟨hc, hf⟩ := bcell hb)
  exact bodyPost_ret (v := .tuple #[.agg #[.int .i64 kind, .string s, .int .i64 0, .int .i64 0], .int .i64 (long : Int), .int .i64 0]) (by simp [results, Tryd.results44, go_sem, hc]) rfl ⟨rfl, below4 hB hb (by simp) _ _ _ _⟩
end Go.Proofs.YtekbfgjlkmldgaaDoor.L
