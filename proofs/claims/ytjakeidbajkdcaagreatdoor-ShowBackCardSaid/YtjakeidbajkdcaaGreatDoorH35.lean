/- Joined by program. -/
import Derived.Test.YtjakeidbajkdcaaGreatDoorH33
import Derived.Deep.QuietTactic
import Derived.BigQuiet
import Derived.Deep.Draws
import Derived.WalkSmall
set_option maxRecDepth 100000
namespace Go.Proofs.YtjakeidbajkdcaaGreatDoor.L
open Go.RowKit
end Go.Proofs.YtjakeidbajkdcaaGreatDoor.L
