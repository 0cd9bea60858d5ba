/-
  The law FnExactUnescaped returns true at every text.
-/
import Derived.Test.YtnbhologgonjnaaIUne
namespace Go.Proofs.Ytnbhologgonjnaa
open Go.RowKit
set_option linter.unusedSimpArgs false
set_option linter.unusedVariables false

set_option maxRecDepth 100000 in
set_option maxHeartbeats 1600000 in
theorem lawUnescaped_walk (s : ByteArray) (w : World) : Calls Try.prog 5 #[.string s] w fun e w' => e = .returned (.bool true) ∧ Below w.heap.size w w' := by
  go_enter Try.func5, Try.ntmps5
  by_cases h : (1048576 : Int) < (s.size : Int)
  · go_wp2_with fail
    go_ret
    exact ⟨rfl, Below.refl _ _⟩
  obtain ⟨t, ht⟩ : ∃ t, txt (unT s.data.toList) = t := ⟨_, rfl⟩
  obtain ⟨b, hb⟩ : ∃ b, unB s.data.toList = b := ⟨_, rfl⟩
  have C4 := hideB (fun w => sUne_any s w (by omega))
  have C5 := hideB (fun w => iUne_any s w (by omega))
  rw [unV, ht, hb] at C4 C5
  clear hb ht
  go_wp2_with fail
  refine (C4.out _).mono ?_
  rintro e w1 ⟨rfl, hb1⟩
  have H1 := hideB hb1
  clear hb1
  go_wp2_with fail
  refine (C5.out _).mono ?_
  rintro e w2 ⟨rfl, hb2⟩
  have H2 := hideB (H1.out.trans (hb2.mono H1.out.size))
  clear hb2
  cases b
  all_goals (
    go_wp2_with fail
    go_ret
    exact ⟨rfl, H2.out⟩)
end Go.Proofs.Ytnbhologgonjnaa
