/- Joined by program: AAll. -/
import Derived.Test.YtjakeidbajkdcaaGreatDoorG42
import Derived.Test.YtjakeidbajkdcaaGreatDoorG43
/- All rows of the reader's. -/
namespace Go.Proofs.YtjakeidbajkdcaaGreatDoor.A
open T Go.RowKit
section
variable {Av : Nat → Prop} {B rb b : Nat} {w w' W : World} {s s' : PS}
theorem expr_any : ∀ f, Reads B rb b 26 (exprP f) := by
  intro f
  induction f with
  | zero => intro Av w s af sf h ho; cases ho
  | succ f HX =>
    intro Av w s af sf h ho
    rw [exprP] at ho
    by_cases hd : s.d < 1000
    case neg => rw [if_neg hd] at ho; cases ho
    rw [if_pos hd] at ho
    obtain ⟨a, s1, h1, h2⟩ := bind_some ho
    cases h2
    have hs1 : s1.d = s.d + 1 := inner_d (expr_d f) _ _ _ h1
    have hf : Hid (1 ≤ s1.d ∧ s1.d ≤ 100000) := Lib.hid ⟨by omega, by omega⟩
    have HA := app_any (post_any (atom_any HX))
    have HS := sum_any (prod_any HA)
    unfold innerP at h1
    by_cases g0 : s.deep.is 1 w_fun = true
    · rw [if_pos g0] at h1
      by_cases hh : s.d = 100
      · exact ex_deep_fun h hd hh g0 (Lib.hid fun W hW => fun_any HX _ hW h1) hf
      · exact ex_go_fun h hd hh g0 (Lib.hid fun W hW => fun_any HX _ hW h1) hf
    rw [if_neg g0] at h1
    have n0 := Bool.eq_false_iff.2 g0
    by_cases g1 : s.deep.is 1 w_let = true
    · rw [if_pos g1] at h1
      by_cases hh : s.d = 100
      · exact ex_deep_let h hd hh n0 g1 (Lib.hid fun W hW => bind_any HX _ hW h1) hf
      · exact ex_go_let h hd hh n0 g1 (Lib.hid fun W hW => bind_any HX _ hW h1) hf
    rw [if_neg g1] at h1
    have n1 := Bool.eq_false_iff.2 g1
    by_cases g2 : s.deep.is 1 w_if = true
    · rw [if_pos g2] at h1
      by_cases hh : s.d = 100
      · exact ex_deep_if h hd hh n0 n1 g2 (Lib.hid fun W hW => if_any HX _ hW h1) hf
      · exact ex_go_if h hd hh n0 n1 g2 (Lib.hid fun W hW => if_any HX _ hW h1) hf
    rw [if_neg g2] at h1
    have n2 := Bool.eq_false_iff.2 g2
    by_cases hh : s.d = 100
    · exact ex_deep_cmp h hd hh n0 n1 n2 (Lib.hid fun W hW => cmp_any HS W _ _ _ hW h1) hf
    · exact ex_go_cmp h hd hh n0 n1 n2 (Lib.hid fun W hW => cmp_any HS W _ _ _ hW h1) hf
end
end Go.Proofs.YtjakeidbajkdcaaGreatDoor.A
