/-
  A nest of nodes, from a lower block on.
-/
import Derived.Test.YtnbhologgonjnaaSPart
import Derived.Maps.Range
import Derived.Test.YtnbhologgonjnaaVal
namespace Go.Proofs.Ytnbhologgonjnaa
open Go.RowKit

end Go.Proofs.Ytnbhologgonjnaa

/-
  Laying nodes one behind the other in memory: what withNodes leaves, and what holds while it is under way. No walk.
-/
namespace Go.Proofs.Ytnbhologgonjnaa
open Go.RowKit
set_option linter.unusedSimpArgs false
set_option linter.unusedVariables false

theorem grownBy_of_below {w w' : World} {row : Option Nat} (h : Below w.heap.size w w') : w.grownBy w' row := ⟨h.os, h.tape, h.output, h.size, fun k hk _ => h.block k hk⟩

end Go.Proofs.Ytnbhologgonjnaa

/-
  What the methods kind and parts say, and a type switch's tests, one fact a pair of types. (The same facts as in CmpF and CmpE, for texts that don't reach the order: never import both.)
-/
namespace Go.Proofs.Ytnbhologgonjnaa
open Go.RowKit
set_option linter.unusedSimpArgs false
set_option linter.unusedVariables false

theorem Below.next {w w1 w2 : World} (h : Below w.heap.size w w1) (k : Below w1.heap.size w1 w2) : Below w.heap.size w w2 := h.trans (k.mono h.size)
end Go.Proofs.Ytnbhologgonjnaa
