import Derived.Test.YtcidjhnogldgmaaGreatDoorSLen
import Derived.Lib.ItoaLen
namespace Go.Proofs.YtcidjhnogldgmaaGreatDoor
open Go.RowKit
set_option linter.unusedSimpArgs false
set_option linter.unusedVariables false
end Go.Proofs.YtcidjhnogldgmaaGreatDoor
