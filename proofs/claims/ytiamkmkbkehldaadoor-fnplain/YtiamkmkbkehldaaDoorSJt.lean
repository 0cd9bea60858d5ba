/-
  The specification's l1Dec: a number in decimal.
-/
import Derived.Test.YtiamkmkbkehldaaDoorProg
import Derived.Test.YtiamkmkbkehldaaDoorPkP
import Derived.Lib.ItoaNum
import Derived.Laws.IdiomStrings
import Derived.Below
import Derived.WideShapes
import Derived.WalkKit
import Derived.Test.YtiamkmkbkehldaaDoorIxB
import Derived.Test.YtiamkmkbkehldaaDoorStepC
import Derived.Deep.RegionWith
import Derived.Test.YtiamkmkbkehldaaDoorJsB
import Derived.Test.YtiamkmkbkehldaaDoorSpc3
namespace Go.Proofs.YtiamkmkbkehldaaDoor
open Go.RowKit Go.WideShapes
set_option linter.unusedSimpArgs false
set_option linter.unusedVariables false

end Go.Proofs.YtiamkmkbkehldaaDoor

/-
  The specification's l2Quoted.
-/
namespace Go.Proofs.YtiamkmkbkehldaaDoor
open Go.RowKit Go.WideShapes
set_option linter.unusedSimpArgs false
set_option linter.unusedVariables false
end Go.Proofs.YtiamkmkbkehldaaDoor

/-
  The specification's l2Scalar and l2Text: JSON's bytes of a node.
-/
namespace Go.Proofs.YtiamkmkbkehldaaDoor
open Go.RowKit Go.WideShapes
set_option linter.unusedSimpArgs false
set_option linter.unusedVariables false

end Go.Proofs.YtiamkmkbkehldaaDoor

/-
  The specification's l2Text: JSON's bytes of a node.
-/
namespace Go.Proofs.YtiamkmkbkehldaaDoor
open Go.RowKit Go.WideShapes
set_option linter.unusedSimpArgs false
set_option linter.unusedVariables false
end Go.Proofs.YtiamkmkbkehldaaDoor
