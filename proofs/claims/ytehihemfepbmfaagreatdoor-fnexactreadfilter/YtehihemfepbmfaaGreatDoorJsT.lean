/-
  Plain: JSON's bytes of a tree, in one line or in lines.
-/
import Derived.Test.YtehihemfepbmfaaGreatDoorUneP
import Derived.Test.YtehihemfepbmfaaGreatDoorVAt
import Derived.Lib.ItoaNum
namespace Go.Proofs.YtehihemfepbmfaaGreatDoor
open Go.RowKit
set_option linter.unusedSimpArgs false
set_option linter.unusedVariables false

end Go.Proofs.YtehihemfepbmfaaGreatDoor
