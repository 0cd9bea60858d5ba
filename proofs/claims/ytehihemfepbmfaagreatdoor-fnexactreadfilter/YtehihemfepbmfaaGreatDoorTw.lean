/-
  Which type lies behind the interface: all pairs, in the order of a type switch.
-/
import Derived.Test.YtehihemfepbmfaaGreatDoorProg
import Derived.WalkKit
namespace Go.Proofs.YtehihemfepbmfaaGreatDoor
open Go.RowKit
end Go.Proofs.YtehihemfepbmfaaGreatDoor
