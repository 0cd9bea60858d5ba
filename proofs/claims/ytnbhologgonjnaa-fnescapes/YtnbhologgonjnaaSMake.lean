/-
  spec.l1Make: the nodes of all parts, and a root behind them.
-/
import Derived.Test.YtnbhologgonjnaaSAdd
import Derived.Test.YtnbhologgonjnaaSS
namespace Go.Proofs.Ytnbhologgonjnaa
open Go.RowKit
set_option linter.unusedSimpArgs false
set_option linter.unusedVariables false

def catNs (L : Nat → List VN) : Nat → List VN
  | 0 => []
  | i + 1 => catNs L i ++ (L i).map (shiftN ((catNs L i).length : Int))
def catKs (L : Nat → List VN) : Nat → List Int
  | 0 => []
  | i + 1 => catKs L i ++ [((catNs L (i + 1)).length : Int) - 1]
def makeNs (kind : Int) (keys : List ByteArray) (L : Nat → List VN) (m : Nat) : List VN := catNs L m ++ [{ kind := kind, n := 0, s := ByteArray.empty, keys := keys, kids := catKs L m }]

theorem catKs_len (L : Nat → List VN) : ∀ i, (catKs L i).length = i := by
  intro i
  induction i with
  | zero => rfl
  | succ i ih => simp [catKs, ih]
theorem catNs_len (L : Nat → List VN) (i : Nat) : (catNs L (i + 1)).length = (catNs L i).length + (L i).length := by simp [catNs]
theorem catNs_mono (L : Nat → List VN) {i j : Nat} (h : i ≤ j) : (catNs L i).length ≤ (catNs L j).length := by
  induction j with
  | zero => obtain rfl : i = 0 := by omega
            exact Nat.le_refl _
  | succ j ih =>
    rcases Nat.lt_or_ge i (j + 1) with e | e
    · have := ih (by omega)
      rw [catNs_len]
      omega
    · obtain rfl : i = j + 1 := by omega
      exact Nat.le_refl _

end Go.Proofs.Ytnbhologgonjnaa
