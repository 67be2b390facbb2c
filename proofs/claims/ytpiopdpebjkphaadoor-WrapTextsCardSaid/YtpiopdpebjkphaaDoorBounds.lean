/- The document's quotient at any two numbers of 64 bits, and the bounds of such a number. -/
import Derived.Test.YtpiopdpebjkphaaDoorPrims
namespace Go.Proofs.YtpiopdpebjkphaaDoor
open Go.RowKit
theorem rprim4 (a b : Int) (ha0 : -9223372036854775808 ≤ a) (ha1 : a ≤ 9223372036854775807) (hb0 : -9223372036854775808 ≤ b) (hb1 : b ≤ 9223372036854775807) (hb : (b == 0) = false) (hb' : ¬ b = 0) (w : World) :
    Calls Tryd.prog 7 #[.int .i64 4, .int .i64 a, .int .i64 b] w fun e w' => e = .returned (.tuple #[.int .i64 (wrap64 (a.tdiv b)), .int .i64 0]) ∧ w = w' := by
  by_cases h1 : a < 0 <;> by_cases h2 : b < 0
  · exact rprim4nn a b hb hb' ha0 h1 hb0 h2 w
  · exact rprim4np a b hb hb' ha0 h1 hb1 (by omega) w
  · exact rprim4pn a b hb hb' ha1 (by omega) hb0 h2 w
  · exact rprim4pp a b hb hb' ha1 (by omega) hb1 (by omega) w
theorem i64_bounds {a : Int} (h : (Lit.int .i64 a).wf = true) : -9223372036854775808 ≤ a ∧ a ≤ 9223372036854775807 := by
  simp only [Lit.wf, IntKind.min, IntKind.max, IntKind.signed, IntKind.bits, Bool.and_eq_true, decide_eq_true_eq, if_true] at h
  omega
end Go.Proofs.YtpiopdpebjkphaaDoor
