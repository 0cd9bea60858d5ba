/-
  The specification's check of a node that is a map: its keys, one behind the other.
-/
import Derived.Test.YtnbhologgonjnaaSpc1
import Derived.Laws.Cover1
namespace Go.Proofs.Ytnbhologgonjnaa
open Go.RowKit
set_option linter.unusedSimpArgs false
set_option linter.unusedVariables false

theorem riseB_true {l : List ByteArray} (h : ∀ j, j < l.length → riseAt l j = true) : riseB l = true := by
  unfold riseB
  rw [List.all_eq_true]
  exact fun j hj => h j (List.mem_range.1 hj)

theorem riseB_false {l : List ByteArray} {k : Nat} (hk : k < l.length) (h : riseAt l k = false) : riseB l = false := by
  unfold riseB
  rw [List.all_eq_false]
  exact ⟨k, List.mem_range.2 hk, by simp [h]⟩

theorem natEq (a b : Nat) : ((a : Int) == (b : Int)) = decide (a = b) := by
  rw [Bool.eq_iff_iff]; simp; omega

end Go.Proofs.Ytnbhologgonjnaa
