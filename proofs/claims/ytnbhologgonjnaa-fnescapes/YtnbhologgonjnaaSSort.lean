/-
  One node alone, in new memory.
-/
import Derived.Test.YtnbhologgonjnaaNest
import Derived.Test.YtnbhologgonjnaaDrP
import Derived.Test.YtnbhologgonjnaaSortP
import Derived.Test.YtnbhologgonjnaaAppS
import Derived.Test.YtnbhologgonjnaaSPart
import Derived.BigQuiet
namespace Go.Proofs.Ytnbhologgonjnaa
open Go.RowKit
set_option linter.unusedSimpArgs false
set_option linter.unusedVariables false

def leafN (kind n : Int) (s : ByteArray) : List VN := [{ kind := kind, n := n, s := s, keys := [], kids := [] }]

end Go.Proofs.Ytnbhologgonjnaa

/-
  Values of one node, as they are drawn.
-/
namespace Go.Proofs.Ytnbhologgonjnaa
open Go.RowKit
set_option linter.unusedSimpArgs false
set_option linter.unusedVariables false

theorem leaf_fine {kind n : Int} {s : ByteArray} (h1 : 0 ≤ kind) (h2 : kind ≤ 6) (h3 : -10000000000000000 ≤ n) (h4 : n ≤ 10000000000000000) (h5 : s.size ≤ 60) : Fine 1 (leafN kind n s) := by
  refine ⟨by simp [leafN], by simp [leafN], fun j hj => ?_⟩
  obtain rfl : j = 0 := by simp [leafN] at hj; omega
  exact ⟨by show 0 ≤ 3; omega, fun i hi => absurd hi (by show ¬ i < 0; omega), by show 0 ≤ 3; omega, fun i hi => absurd hi (by show ¬ i < 0; omega), h5, ⟨by show _ ≤ kind; omega, by show kind ≤ _; omega⟩, ⟨by show _ ≤ n; omega, by show n ≤ _; omega⟩⟩

end Go.Proofs.Ytnbhologgonjnaa

/-
  spec.l1Sorted: keys with their values, by the keys.
-/
namespace Go.Proofs.Ytnbhologgonjnaa
open Go.RowKit
set_option linter.unusedSimpArgs false
set_option linter.unusedVariables false

theorem strs_one (l : List ByteArray) : ∀ u ∈ l.map Value.string, u.oneCell' = true := by
  intro u hu
  obtain ⟨x, _, rfl⟩ := List.mem_map.1 hu
  rfl

end Go.Proofs.Ytnbhologgonjnaa
