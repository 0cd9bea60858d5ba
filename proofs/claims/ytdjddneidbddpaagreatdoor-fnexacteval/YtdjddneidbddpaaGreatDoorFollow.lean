import Derived.Test.YtdjddneidbddpaaGreatDoorSSort
import Derived.Test.YtdjddneidbddpaaGreatDoorIMinA
import Derived.Test.YtdjddneidbddpaaGreatDoorCln
import Derived.Test.YtdjddneidbddpaaGreatDoorByP
import Derived.Deep.DrawnRows
import Derived.Deep.QuietTactic
import Derived.BigQuiet
import Derived.Test.YtdjddneidbddpaaGreatDoorPsZ
namespace Go.Proofs.YtdjddneidbddpaaGreatDoor
set_option linter.unusedSectionVars false
open Go.RowKit
set_option linter.unusedSimpArgs false
set_option linter.unusedVariables false
attribute [local go_sem ↓] Go.wp_at_zero Go.wp_at_succ


attribute [local go_sem ↓] Go.wp_at_zero Go.wp_at_succ




end Go.Proofs.YtdjddneidbddpaaGreatDoor
