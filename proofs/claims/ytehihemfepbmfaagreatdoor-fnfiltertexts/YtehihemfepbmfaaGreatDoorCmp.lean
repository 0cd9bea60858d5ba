import Derived.Test.YtehihemfepbmfaaGreatDoorUneP
import Derived.Test.YtehihemfepbmfaaGreatDoorProg
import Derived.Lib.Bytealg
import Derived.Laws.Cover1
import Derived.Laws.Externs
import Derived.KernelRfl
namespace Go.Proofs.YtehihemfepbmfaaGreatDoor
set_option linter.unusedSectionVars false
open Go.RowKit
set_option linter.unusedSimpArgs false
set_option linter.unusedVariables false
end Go.Proofs.YtehihemfepbmfaaGreatDoor
