/-
  spec.l1Add: the nodes of a value behind those that lie there, their kids shifted.
-/
import Derived.Test.YtnbhologgonjnaaKp
namespace Go.Proofs.Ytnbhologgonjnaa
open Go.RowKit
set_option linter.unusedSimpArgs false
set_option linter.unusedVariables false

theorem take_node {vs : List VN} {k : Nat} (h : k < vs.length) : vs.take (k + 1) = vs.take k ++ [nodeAt vs k] := by
  rw [List.take_add_one, List.getElem?_eq_getElem h]
  simp [nodeAt, h]

/-- The first k kids, shifted. -/
def addKs (l : List Int) (d : Int) (k : Nat) : List Int := (l.take k).map (· + d)
theorem addKs_zero (l : List Int) (d : Int) : addKs l d 0 = [] := by simp [addKs]
theorem addKs_len {l : List Int} {d : Int} {k : Nat} (h : k ≤ l.length) : (addKs l d k).length = k := by unfold addKs; rw [List.length_map, List.length_take]; omega
theorem addKs_succ {l : List Int} {d : Int} {k : Nat} (h : k < l.length) : addKs l d (k + 1) = addKs l d k ++ [intAt l k + d] := by
  unfold addKs
  rw [List.take_add_one, List.getElem?_eq_getElem h, List.map_append, intAt_get h]
  simp
theorem addKs_all (l : List Int) (d : Int) : addKs l d l.length = l.map (· + d) := by simp [addKs]

/-- Kids and keys that are few, and near. -/
def Near (x : VN) : Prop := x.keys.length ≤ 100000 ∧ x.kids.length ≤ 100000 ∧ ∀ j, j < x.kids.length → -1000000 ≤ intAt x.kids j ∧ intAt x.kids j ≤ 1000000

end Go.Proofs.Ytnbhologgonjnaa
