/-
  The specification's check of a whole value: the tree of a node, and all nodes.
-/
import Derived.Test.YtnbhologgonjnaaSpc2
namespace Go.Proofs.Ytnbhologgonjnaa
open Go.RowKit
set_option linter.unusedSimpArgs false
set_option linter.unusedVariables false

/-! ### The kids of a node from the last one on -/
def stAt (T : Nat → Option (Nat × Nat)) (kids : List Int) (n r : Nat) : Option (Nat × Nat) := ((kids.drop r).reverse).foldl (stepKid T) (some (n, 0))

theorem stAt_end (T : Nat → Option (Nat × Nat)) (kids : List Int) (n : Nat) : stAt T kids n kids.length = some (n, 0) := by simp [stAt]

theorem stAt_step (T : Nat → Option (Nat × Nat)) (kids : List Int) (n r : Nat) (h : r < kids.length) : stAt T kids n r = stepKid T (stAt T kids n (r + 1)) (intAt kids r) := by
  unfold stAt
  rw [List.drop_eq_getElem_cons h, List.reverse_cons, List.foldl_append]
  simp [intAt, h]

theorem stAt_none {T : Nat → Option (Nat × Nat)} {kids : List Int} {n : Nat} : ∀ r, r ≤ kids.length → stAt T kids n r = none → stAt T kids n 0 = none := by
  intro r
  induction r with
  | zero => intro _ h; exact h
  | succ r ih =>
    intro hr h
    apply ih (by omega)
    rw [stAt_step T kids n r (by omega), h]
    rfl

theorem tr_of_st {K : Nat → List Int} {n b h : Nat} (e : stAt (tr K) (K n) n 0 = some (b, h)) : tr K n = some (b, h + 1) := by
  rw [tr_eq]
  unfold stAt at e
  rw [List.drop_zero] at e
  rw [e]
  rfl

theorem tr_none_of {K : Nat → List Int} {n r : Nat} (hr : r ≤ (K n).length) (e : stAt (tr K) (K n) n r = none) : tr K n = none := by
  have e0 := stAt_none r hr e
  rw [tr_eq]
  unfold stAt at e0
  rw [List.drop_zero] at e0
  rw [e0]
  rfl

theorem max_if (h p : Nat) : (if h < p then (p : Int) else (h : Int)) = ((max h p : Nat) : Int) := by
  split <;> omega

def trF (o : Option (Nat × Nat)) : Int := match o with
  | some p => p.1
  | none => -1
def trD (o : Option (Nat × Nat)) : Int := match o with
  | some p => p.2
  | none => 0

theorem ret_pair {a b c d : Int} (h1 : a = c) (h2 : b = d) : Ending.returned (.tuple #[.int .i64 a, .int .i64 b]) = .returned (.tuple #[.int .i64 c, .int .i64 d]) := by rw [h1, h2]

theorem intAt_get {l : List Int} {j : Nat} (h : j < l.length) : intAt l j = l[j] := by simp [intAt, h]

theorem okB_size {vs : List VN} (h : vs.length < 1 ∨ 80 < vs.length) : okB vs = false := by
  have : sizeB vs = false := by simp [sizeB]; omega
  simp [okB, this]

theorem okB_node {vs : List VN} {k : Nat} (hk : k < vs.length) (h : nodeB (nodeAt vs k) = false) : okB vs = false := by
  unfold okB
  rw [show ((List.range vs.length).all fun i => nodeB (nodeAt vs i) && kidsIn vs i) = false from ?_, Bool.and_false, Bool.false_and]
  rw [List.all_eq_false]
  exact ⟨k, List.mem_range.2 hk, by simp [h]⟩

theorem okB_kid {vs : List VN} {k j : Nat} (hk : k < vs.length) (hj : j < (nodeAt vs k).kids.length) (h : inB (intAt (nodeAt vs k).kids j) 0 ((k : Int) - 1) = false) : okB vs = false := by
  unfold okB
  rw [show ((List.range vs.length).all fun i => nodeB (nodeAt vs i) && kidsIn vs i) = false from ?_, Bool.and_false, Bool.false_and]
  rw [List.all_eq_false]
  refine ⟨k, List.mem_range.2 hk, ?_⟩
  have : kidsIn vs k = false := by
    unfold kidsIn
    rw [List.all_eq_false]
    refine ⟨intAt (nodeAt vs k).kids j, ?_, by simpa [inB] using h⟩
    unfold kidsOf
    rw [intAt_get hj]
    exact List.getElem_mem _
  simp [this]

theorem kidsIn_of {vs : List VN} {k : Nat} (h : ∀ j, j < (nodeAt vs k).kids.length → inB (intAt (nodeAt vs k).kids j) 0 ((k : Int) - 1) = true) : kidsIn vs k = true := by
  unfold kidsIn
  rw [List.all_eq_true]
  intro x hx
  obtain ⟨j, hj, rfl⟩ := List.getElem_of_mem hx
  have hj' : j < (nodeAt vs k).kids.length := hj
  have := h j hj'
  rw [intAt_get hj'] at this
  exact this

theorem okB_of {vs : List VN} (h1 : 1 ≤ vs.length) (h2 : vs.length ≤ 80) (h : ∀ k, k < vs.length → nodeB (nodeAt vs k) = true ∧ kidsIn vs k = true) : okB vs = rootB vs := by
  unfold okB
  rw [show ((List.range vs.length).all fun i => nodeB (nodeAt vs i) && kidsIn vs i) = true from ?_]
  · simp [sizeB, h1, h2]
  · rw [List.all_eq_true]
    intro k hk
    have := h k (List.mem_range.1 hk)
    simp [this.1, this.2]

end Go.Proofs.Ytnbhologgonjnaa
