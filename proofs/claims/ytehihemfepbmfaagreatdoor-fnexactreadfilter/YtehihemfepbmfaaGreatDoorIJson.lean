/-
  The program's and the specification's JsonText and Indented.
-/
import Derived.Test.YtehihemfepbmfaaGreatDoorIJw
import Derived.Test.YtehihemfepbmfaaGreatDoorSJt
import Derived.Test.YtehihemfepbmfaaGreatDoorFEq
namespace Go.Proofs.YtehihemfepbmfaaGreatDoor
open Go.RowKit
set_option linter.unusedSimpArgs false
set_option linter.unusedVariables false

end Go.Proofs.YtehihemfepbmfaaGreatDoor
