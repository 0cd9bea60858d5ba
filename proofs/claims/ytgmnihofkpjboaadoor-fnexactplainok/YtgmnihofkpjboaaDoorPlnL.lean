/-
  The letters: what the two functions that ask for a letter answer.
-/
import Derived.Test.YtgmnihofkpjboaaDoorPlnP
import Derived.Test.YtgmnihofkpjboaaDoorProg
import Derived.WalkKit
namespace Go.Proofs.YtgmnihofkpjboaaDoor
open Go.RowKit
set_option linter.unusedSimpArgs false
set_option linter.unusedVariables false

set_option maxRecDepth 100000 in
theorem l5Letter_walk (c : Int) (w : World) : Calls Tryd.prog 14 #[.int .u8 c] w fun e w' => e = .returned (.bool (letterI c)) ∧ w' = w := by
  go_enter Tryd.func14, Tryd.ntmps14
  go_wp2
  all_goals (go_ret; refine ⟨?_, rfl⟩; show Ending.returned (Value.bool _) = _; congr 2; rw [Bool.eq_iff_iff]; simp [letterI]; omega)

set_option maxRecDepth 100000 in
theorem beginsPlain_walk (c : Int) (w : World) : Calls Tryd.prog 16 #[.int .u8 c] w fun e w' => e = .returned (.bool (letterI c)) ∧ w' = w := by
  go_enter Tryd.func16, Tryd.ntmps16
  go_wp2
  all_goals (go_ret; refine ⟨?_, rfl⟩; show Ending.returned (Value.bool _) = _; congr 2; rw [Bool.eq_iff_iff]; simp [letterI]; omega)
end Go.Proofs.YtgmnihofkpjboaaDoor
