/- Joined by program. -/
import Derived.Test.YtjakeidbajkdcaaGreatDoorH04
import Derived.Test.YtjakeidbajkdcaaGreatDoorH01
namespace Go.Proofs.YtjakeidbajkdcaaGreatDoor.W
open Go.Shelf Go.RowKit
theorem fmt_any {B : Nat} (n : Int) (h0 : -9223372036854775808 <= n) (h1 : n <= 9223372036854775807) (w : World) (hp : Pow B w) (hB : B <= w.heap.size) :
    Calls Tryz.prog 109 #[.int .i64 n, .int .i64 10] w fun e w' => e = .returned (.string ⟨(Lib.itoa n).toArray⟩) /\ Below B w w' :=
  (Tryz.strconv_FormatInt_10 n h0 h1 w hp.here).mono fun _ _ ⟨he, k, os, hw⟩ => ⟨he, by rw [hw]; exact Lib.below_grow B w hB k os⟩
end Go.Proofs.YtjakeidbajkdcaaGreatDoor.W
