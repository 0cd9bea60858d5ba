import Derived.Test.YtcidjhnogldgmaaGreatDoorDrLn
import Derived.Test.YtcidjhnogldgmaaGreatDoorBigK
import Derived.ProofKit
import Derived.OpenShut
import Derived.ShutString
import Derived.ChangeOld
import Derived.Below
namespace Go.Proofs.YtcidjhnogldgmaaGreatDoor
open Go.ChangeShapes Go.WideShapes Go.ChangeAt Go.RowKit
set_option linter.unusedSimpArgs false
set_option linter.unusedVariables false
end Go.Proofs.YtcidjhnogldgmaaGreatDoor
