/-
  The law FnExactPlainOk returns true at every text.
-/
import Derived.Test.YtgmnihofkpjboaaDoorIPlY
namespace Go.Proofs.YtgmnihofkpjboaaDoor
open Go.RowKit
set_option linter.unusedSimpArgs false
set_option linter.unusedVariables false

set_option maxRecDepth 100000 in
set_option maxHeartbeats 1600000 in
theorem lawPlainOk_walk (s : ByteArray) (w : World) : Calls Tryd.prog 3 #[.string s] w fun e w' => e = .returned (.bool true) ∧ Below w.heap.size w w' := by
  go_enter Tryd.func3, Tryd.ntmps3
  by_cases h : (1048576 : Int) < (s.size : Int)
  · go_wp2_with fail
    go_ret
    exact ⟨rfl, Below.refl _ _⟩
  obtain ⟨b, hb⟩ : ∃ b, plainL s.data.toList = b := ⟨_, rfl⟩
  have C4 := hideB (sPlain_walk s)
  have C5 := hideB (iPlain_walk s)
  rw [hb] at C4 C5
  clear hb
  go_wp2_with fail
  refine (C4.out _).mono ?_
  rintro e w1 ⟨rfl, hb1⟩
  have H1 := hideB hb1
  clear hb1
  go_wp2_with fail
  refine (C5.out _).mono ?_
  rintro e w2 ⟨rfl, hb2⟩
  have H2 := hideB (H1.out.trans (hb2.mono H1.out.size))
  clear hb2
  cases b
  all_goals (
    go_wp2_with fail
    go_ret
    exact ⟨rfl, H2.out⟩)
end Go.Proofs.YtgmnihofkpjboaaDoor
