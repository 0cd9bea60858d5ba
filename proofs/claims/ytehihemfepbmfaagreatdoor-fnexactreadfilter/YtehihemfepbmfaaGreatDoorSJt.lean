/-
  Plain: how long JSON's bytes of a right tree are.
-/
import Derived.Test.YtehihemfepbmfaaGreatDoorJsT
import Derived.Lib.ItoaLen
import Derived.Test.YtehihemfepbmfaaGreatDoorSDec
import Derived.Test.YtehihemfepbmfaaGreatDoorSDig
import Derived.Test.YtehihemfepbmfaaGreatDoorSpc3
namespace Go.Proofs.YtehihemfepbmfaaGreatDoor
open Go.RowKit
set_option linter.unusedSimpArgs false
set_option linter.unusedVariables false

end Go.Proofs.YtehihemfepbmfaaGreatDoor

/-
  The specification's l2Scalar and l2Text: JSON's bytes of a node.
-/
namespace Go.Proofs.YtehihemfepbmfaaGreatDoor
open Go.RowKit Go.WideShapes
set_option linter.unusedSimpArgs false
set_option linter.unusedVariables false

end Go.Proofs.YtehihemfepbmfaaGreatDoor

/-
  The specification's l2Text: JSON's bytes of a node.
-/
namespace Go.Proofs.YtehihemfepbmfaaGreatDoor
open Go.RowKit Go.WideShapes
set_option linter.unusedSimpArgs false
set_option linter.unusedVariables false
end Go.Proofs.YtehihemfepbmfaaGreatDoor
