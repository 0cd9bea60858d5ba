import Derived.Shelf.SlGeneric
import Derived.Shelf.Spec.SlicesGrow
import Derived.Test.YtcidjhnogldgmaaGreatDoorProg
namespace Go.Proofs
open Go.Shelf
end Go.Proofs
