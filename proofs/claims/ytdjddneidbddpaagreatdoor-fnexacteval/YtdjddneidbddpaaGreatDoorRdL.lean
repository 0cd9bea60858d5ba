import Derived.Test.YtdjddneidbddpaaGreatDoorProg
import Derived.Test.YtdjddneidbddpaaGreatDoorByP
import Derived.Below
import Derived.BigQuiet
import Derived.Deep.QuietTactic
import Derived.Defers
import Derived.Recover
import Derived.WalkLawsBesides
namespace Go.Proofs.YtdjddneidbddpaaGreatDoor
set_option linter.unusedSectionVars false
open Go.RowKit
set_option linter.unusedSimpArgs false
set_option linter.unusedVariables false
structure BrAt (w:World) (rb:Nat) (s:ByteArray) (p:Nat):Prop where
 lt:rb<w.heap.size
 src:w.cell? ⟨rb,0,none⟩=some (.string s)
 place:w.cell? ⟨rb,1,none⟩=some (.int .i64 p)
 free:w.frozen? ⟨rb,1,none⟩=false
 le:p<=s.size
structure But (rb:Nat) (w w':World):Prop where
 os:w'.os=w.os
 tape:w'.tape=w.tape
 output:w'.output=w.output
 size:w.heap.size<=w'.heap.size
 block:∀c,c<w.heap.size->c≠rb->w'.heap[c]? =w.heap[c]?


end Go.Proofs.YtdjddneidbddpaaGreatDoor
