/-
  The specification's checks of one node: whether a number is within bounds, a text is one, a node is right.
-/
import Derived.Test.YtnbhologgonjnaaMem
import Derived.Test.YtnbhologgonjnaaProg
import Derived.Deep.QuietTactic
import Derived.BigQuiet
import Derived.WalkSmall
namespace Go.Proofs.Ytnbhologgonjnaa
open Go.RowKit
set_option linter.unusedSimpArgs false
set_option linter.unusedVariables false

def inB (n lo hi : Int) : Bool := decide (lo ≤ n) && decide (n ≤ hi)

/-- The first k bytes are of a text. -/
def low (s : ByteArray) (k : Nat) : Prop := ∀ j (h : j < s.size), j < k → s[j].toNat ≤ 127

theorem textB_of_low {s : ByteArray} (h : low s s.size) : textB s = decide (s.size ≤ 60) := by
  unfold textB
  rw [show (s.data.toList.all fun c => decide (c.toNat ≤ 127)) = true from ?_, Bool.and_true]
  rw [List.all_eq_true]
  intro c hc
  obtain ⟨j, hj, rfl⟩ := List.getElem_of_mem hc
  have hj' : j < s.size := by simpa using hj
  exact decide_eq_true (h j hj' hj')

theorem textB_high {s : ByteArray} {k : Nat} (hk : k < s.size) (h : 127 < s[k].toNat) : textB s = false := by
  unfold textB
  rw [show (s.data.toList.all fun c => decide (c.toNat ≤ 127)) = false from ?_, Bool.and_false]
  rw [List.all_eq_false]
  exact ⟨s[k], by rw [show s[k] = s.data.toList[k]'(by simpa using hk) from rfl]; exact List.getElem_mem _, by simp; omega⟩

theorem low_succ {s : ByteArray} {k : Nat} (hk : k < s.size) (h : low s k) (h1 : s[k].toNat ≤ 127) : low s (k + 1) := by
  intro j hj hjk
  by_cases e : j = k
  · subst e; exact h1
  · exact h j hj (by omega)

theorem inB_01 (n : Int) : (decide (n = 0) || decide (n = 1)) = inB n 0 1 := by
  rw [Bool.eq_iff_iff]; simp [inB]; omega

end Go.Proofs.Ytnbhologgonjnaa
