/- The chapter's example holds; what lay below is as it was. Condition: the keywords lie in their variable. -/
import Derived.Test.YthgpjcphbjbomaaDoorFresh
import Derived.Test.YthgpjcphbjbomaaDoorNames
namespace Go.Proofs.YthgpjcphbjbomaaDoor
open Go.RowKit
theorem inB_data (s : ByteArray) (ss : List ByteArray) : inB s ss = ss.any fun t => t.data.toList == s.data.toList := by
  unfold inB; simp only [ByteArray.toList_eq]
def tX : ByteArray := ⟨#[120]⟩
def tX1 : ByteArray := ⟨#[120, 49]⟩
theorem dec1 : tX ++ dec 1 = ⟨#[120, 49]⟩ := by rw [dec, dec_small (by omega)]; rfl
theorem dec2 : tX ++ dec 2 = ⟨#[120, 50]⟩ := by rw [dec, dec_small (by omega)]; rfl
theorem least2 : Least [tX, tX1] tX 2 := by
  refine ⟨by omega, by simp, ?_, fun j h1 h2 => ?_⟩
  · rw [dec2, inB_data]; rfl
  · obtain rfl : j = 1 := by omega
    rw [dec1, inB_data]; rfl
theorem kw_fun : kwB ⟨#[102, 117, 110]⟩ = true := by rw [kwB, inB_data]; rfl
theorem kw_x1 : kwB ⟨#[120, 49]⟩ = false := by rw [kwB, inB_data]; rfl
theorem name_x1 : nameB ⟨#[120, 49]⟩ = true := by rw [nameB, kw_x1]; rfl
theorem name_fun : nameB ⟨#[102, 117, 110]⟩ = false := by rw [nameB, kw_fun]; rfl
theorem tag_A : tagB ⟨#[65]⟩ = true := rfl
theorem name_is {B : Nat} {s : ByteArray} {b : Bool} (h : nameB s = b) (hs : s.size ≤ 140737488351232) (w : World) (hK : Kws B w) :
    Calls Tryd.prog 10 #[.string s] w fun e w' => e = .returned (.bool b) ∧ w = w' := by subst h; exact name_any s hs w hK
theorem tag_is {s : ByteArray} {b : Bool} (h : tagB s = b) (hs : s.size ≤ 140737488351232) (w : World) :
    Calls Tryd.prog 12 #[.string s] w fun e w' => e = .returned (.bool b) ∧ w = w' := by subst h; exact tag_any s hs w
theorem holds_two (w : World) : Holds (w.alloc (.cells #[.string ⟨#[120]⟩, .string ⟨#[120, 49]⟩] 9)) w.heap.size [tX, tX1] := fun j hj => by
  rw [World.cell?_alloc_new]
  match j, hj with
  | 0, _ => rfl
  | 1, _ => rfl
  | j + 2, h => exact absurd h (by show ¬ j + 2 < 2; omega)
theorem fresh_ex (w : World) : Calls Tryd.prog 19 #[.string ⟨#[120]⟩, .slice (some ⟨w.heap.size, 0, none⟩) 2 2] (w.alloc (.cells #[.string ⟨#[120]⟩, .string ⟨#[120, 49]⟩] 9))
    fun e w' => e = .returned (.string ⟨#[120, 50]⟩) ∧ Below w.heap.size (w.alloc (.cells #[.string ⟨#[120]⟩, .string ⟨#[120, 49]⟩] 9)) w' := by
  have h := fresh_yes [tX, tX1] w.heap.size 2 (w.alloc (.cells #[.string ⟨#[120]⟩, .string ⟨#[120, 49]⟩] 9)) (by simp) (fun s hs => by
    have : s = tX ∨ s = tX1 := by simpa using hs
    rcases this with rfl | rfl <;> (unfold maxLen; decide)) (by simp) (Lib.hid (holds_two w)) ⟨#[120]⟩ tX (by decide) rfl 2 (by decide) (Lib.hid (by rw [inB_data]; rfl)) (Lib.hid least2)
  rw [dec2] at h
  exact h.mono fun _ _ ⟨he, hb⟩ => ⟨he, hb.mono (by simp)⟩
set_option maxHeartbeats 1000000 in
theorem works_any {B : Nat} (w : World) (hK : Kws B w) (hB : B ≤ w.heap.size) :
    Calls Tryd.prog 17 #[] w fun e w' => e = .returned (.bool true) ∧ Below w.heap.size w w' := by
  go_enter Tryd.func17, Tryd.ntmps17
  go_wp2_with (first
    | (go_at_call 19; refine (fresh_ex w).mono ?_; rintro e w1 ⟨rfl, hb1⟩; have hb2 := ((Below.refl _ w).alloc (Nat.le_refl _) _).trans hb1; have hK1 := hK.on (hb2.mono hB))
    | (go_at_call 10; (with_reducible refine (name_is name_x1 (by decide) _ hK1).mono ?_); rintro e w2 ⟨rfl, rfl⟩)
    | (go_at_call 10; (with_reducible refine (name_is name_fun (by decide) _ hK1).mono ?_); rintro e w2 ⟨rfl, rfl⟩)
    | (go_at_call 12; refine (tag_is tag_A (by decide) _).mono ?_; rintro e w2 ⟨rfl, rfl⟩)
    | (go_at_call 8; refine (keyword_is kw_fun _ hK1).mono ?_; rintro e w2 ⟨rfl, rfl⟩))
  go_ret
  exact ⟨rfl, hb2⟩
end Go.Proofs.YthgpjcphbjbomaaDoor
