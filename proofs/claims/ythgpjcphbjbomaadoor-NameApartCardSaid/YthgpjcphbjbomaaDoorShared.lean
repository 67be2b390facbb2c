/- What the two laws on fresh names share: a slice of the call's own that stays, the two Fresh calls as one, and the slice that came in. -/
import Derived.Test.YthgpjcphbjbomaaDoorWorks
import Derived.Test.YthgpjcphbjbomaaDoorRFresh
import Derived.Test.YthgpjcphbjbomaaDoorFew
import Derived.Test.YthgpjcphbjbomaaDoorCards
import Derived.Test.YthgpjcphbjbomaaDoorTie
import Derived.SizedLaws
import Derived.ChangeMaps5
import Derived.SliceStrings
import Derived.Carry
import Derived.Deep.CutRange
import Derived.Deep.DeepCutAuto
namespace Go.Proofs.YthgpjcphbjbomaaDoor
open Go.ChangeShapes Go.WideShapes Go.ChangeAt Go.RowKit Go.ChangeMaps
theorem laidOut : laidOutB Tryd.prog = true := by kernel_rfl
theorem bytes9 : Tryd.prog.bytesOf 9 = 16 := by kernel_rfl
theorem trodAll_two_mk {H : Type} {enc : TypeId × Value → H} {w : World} {base : Nat} {sp : Nat → Bool} {held : Bool} {t0 t1 : TypeId} {v0 v1 : Value} {d0 d1 : DataW H} {p1 : List MemPlace}
    (h0 : DataW.Trod enc Tryd.prog w base sp held t0 v0 d0 []) (h1 : DataW.Trod enc Tryd.prog w base sp held t1 v1 d1 p1) : DataW.TrodAll enc Tryd.prog w base sp held [t0, t1] [v0, v1] [d0, d1] p1 := by
  have := trodAll_cons_mk h0 (trodAll_cons_mk h1 trodAll_mk0)
  simpa using this
/-- A slice with no text. -/
theorem few_zero {B : Nat} (a : Addr) (c : Nat) (w : World) (hB : B ≤ w.heap.size) : Calls Tryd.prog 18 #[.slice (some a) 0 c] w (Few B [] w) := by
  obtain ⟨i0, hi0, hz0, hz1, hz2⟩ := info_parts textInfo
  have hrow : Hid ((w.alloc (.cells #[] 9)).ownsRow B 9 1 (.slice (some ⟨w.heap.size, 0, none⟩) 0 0) 0 []) := Lib.hid (World.ownsRow_made w #[] 0 hB (by decide) rfl)
  have hBb : B ≤ (w.alloc (.cells #[] 9)).heap.size := by simp; omega
  go_enter Tryd.func18, Tryd.ntmps18
  go_wp2_with (at_builtin; refine wpList_append_own _ rfl _ _ 25 rfl B 9 i0 (.string ⟨#[]⟩) 1 16 Tryd.underlying25 hi0 hz0 hz1 hz2 rfl (by decide) _ 0 [] rfl hrow.out a 0 c [] rfl rfl (fun j u h => by simp at h) (fun u h => by cases h) (by unfold maxLen; omega) (by omega) hBb ?_; intro v' w1 hown hgrow hnil)
  go_ret
  exact few_end (ss := []) hown (fun e => by have := (hnil.1 e).1; cases this) (((Below.refl B w).alloc hB _).grown hgrow hBb (fun k hk => by cases hk; exact hB))
/-- Fresh is F, by both. -/
def Both (t : ByteArray) (l : List ByteArray) (F : ByteArray) (f : FuncId) : Prop :=
  ∀ g c w, g < w.heap.size → Hid (Holds w g l) → Calls Tryd.prog f #[.string t, .slice (some ⟨g, 0, none⟩) l.length c] w fun e w' => e = .returned (.string F) ∧ Below w.heap.size w w'
theorem fresh_both (t : ByteArray) (l : List ByteArray) (ht : t.size ≤ 1000) (hl : l.length ≤ 90) (hz : Short l) : ∃ F, Both t l F 19 ∧ Both t l F 20 ∧ inB F l = false := by
  cases hi : inB t l with
  | false => exact ⟨t, fun g c w hg hh => fresh_no l g c w hl hz hg hh t ht (Lib.hid hi), fun g c w hg hh => rfresh_no l g c w hl hh t (Lib.hid hi), hi⟩
  | true =>
    obtain ⟨m, hm⟩ := least_is l (t.extract 0 (min (t.size : Int) 16).toNat)
    have hb : (t.extract 0 (min (t.size : Int) 16).toNat).size ≤ 16 := by rw [ByteArray.size_extract]; omega
    exact ⟨_, fun g c w hg hh => fresh_yes l g c w hl hz hg hh t _ ht rfl m hb (Lib.hid hi) (Lib.hid hm), fun g c w hg hh => rfresh_yes l g c w hl hg hh t _ ht rfl m hb (Lib.hid hi) (Lib.hid hm), hm.2.2.1⟩
/-- World w stands above block B as W did; the slice of block g holds l; the keywords lie in their variable. -/
def On (B : Nat) (W w : World) (g : Nat) (l : List ByteArray) : Prop := Below B W w ∧ B ≤ w.heap.size ∧ g < w.heap.size ∧ Hid (Holds w g l) ∧ Kws B w
theorem On.next {B : Nat} {W w w' : World} {g : Nat} {l : List ByteArray} (h : On B W w g l) (hb : Below w.heap.size w w') : On B W w' g l :=
  ⟨h.1.trans (hb.mono h.2.1), Nat.le_trans h.2.1 hb.size, Nat.lt_of_lt_of_le h.2.2.1 hb.size, Lib.hid (h.2.2.2.1.out.on h.2.2.1 hb), h.2.2.2.2.on (hb.mono h.2.1)⟩
/-- few of a slice of the call's own. -/
theorem few_l (l : List ByteArray) (g c : Nat) (w : World) (hl : l.length ≤ 30) (hc : l.length ≤ c) (hg : g < w.heap.size) (hh : Hid (Holds w g l)) : Calls Tryd.prog 18 #[.slice (some ⟨g, 0, none⟩) l.length c] w (Few w.heap.size l w) := by
  have h := few_some (B := w.heap.size) l g 0 c w (Nat.le_refl _) hg hc (by omega) (Lib.hid fun j hj => by rw [Nat.zero_add]; exact hh.out j hj)
  rw [List.take_of_length_le hl] at h
  exact h
end Go.Proofs.YthgpjcphbjbomaaDoor
