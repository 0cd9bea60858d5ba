/-
  The length of a value, on its nodes: plain mathematics.
-/
import Derived.Test.YtgmnihofkpjboaaDoorLeaf
import Derived.Test.YtgmnihofkpjboaaDoorSS
namespace Go.Proofs.YtgmnihofkpjboaaDoor
open Go.RowKit
set_option linter.unusedSimpArgs false
set_option linter.unusedVariables false

/-- The length of a value with that root; none of a truth value. -/
def lenK (x : VN) : Option Int :=
  if x.kind = 1 then some 0
  else if x.kind = 3 then some (max x.n (-x.n))
  else if x.kind = 4 then some (x.s.size : Int)
  else if x.kind = 5 ∨ x.kind = 6 then some (x.kids.length : Int)
  else none

def rootN (vs : List VN) : VN := nodeAt vs (vs.length - 1)
def oneNs (o : Option Int) : List VN := match o with
  | some n => leafN 3 n ByteArray.empty
  | none => []
def kindC (o : Option Int) : Int := match o with
  | some _ => 0
  | none => 2
def lenNs (vs : List VN) : List VN := if okB vs = true then oneNs (lenK (rootN vs)) else []
def lenC (vs : List VN) : Int := if okB vs = true then kindC (lenK (rootN vs)) else 1

theorem leaf_few (n : Int) (h1 : -9223372036854775808 ≤ n) (h2 : n ≤ 9223372036854775807) : Few (leafN 3 n ByteArray.empty) ∧ ∀ i, i < (leafN 3 n ByteArray.empty).length → Fits (nodeAt (leafN 3 n ByteArray.empty) i) := by
  have h0 : ∀ i, i < (leafN 3 n ByteArray.empty).length → i = 0 := fun i hi => by simp [leafN] at hi; omega
  refine ⟨⟨by simp [leafN], fun i hi => ?_⟩, fun i hi => ?_⟩
  · obtain rfl := h0 i hi
    exact ⟨by simp [leafN, nodeAt], by simp [leafN, nodeAt]⟩
  · obtain rfl := h0 i hi
    refine ⟨by simp [leafN, nodeAt], fun i hi => absurd hi (by simp [leafN, nodeAt]), by simp [leafN, nodeAt], fun i hi => absurd hi (by simp [leafN, nodeAt]), by simp [leafN, nodeAt], by simp [leafN, nodeAt], by simp [leafN, nodeAt], by simpa [leafN, nodeAt] using h1, by simpa [leafN, nodeAt] using h2⟩

theorem none_few : Few ([] : List VN) ∧ ∀ i, i < ([] : List VN).length → Fits (nodeAt [] i) := ⟨⟨by simp, fun i hi => absurd hi (by simp)⟩, fun i hi => absurd hi (by simp)⟩

/-- What a right value's root is. -/
theorem root_says {vs : List VN} (hok : okB vs = true) : (rootN vs).kind = 1 ∨ (rootN vs).kind = 2 ∨ ((rootN vs).kind = 3 ∧ -1000000000000000 ≤ (rootN vs).n ∧ (rootN vs).n ≤ 1000000000000000) ∨ ((rootN vs).kind = 4 ∧ (rootN vs).s.size ≤ 60) ∨ ((rootN vs).kind = 5 ∧ (rootN vs).kids.length ≤ 80) ∨ ((rootN vs).kind = 6 ∧ (rootN vs).kids.length ≤ 80) := by
  obtain ⟨p1, p2, _, p4⟩ := okB_parts hok
  have hn := (p2 (vs.length - 1) (by omega)).1
  have hk := p4 (vs.length - 1) (by omega)
  have hk' : (rootN vs).kids.length ≤ 80 := by unfold rootN; omega
  change nodeB (rootN vs) = true at hn
  unfold nodeB namedB at hn
  simp only [Bool.and_eq_true] at hn
  have h2 := hn.2
  by_cases k1 : (rootN vs).kind = 1
  · exact Or.inl k1
  by_cases k2 : (rootN vs).kind = 2
  · exact Or.inr (Or.inl k2)
  by_cases k3 : (rootN vs).kind = 3
  · simp [k3] at h2; exact Or.inr (Or.inr (Or.inl ⟨k3, by omega, by omega⟩))
  by_cases k4 : (rootN vs).kind = 4
  · simp [k4, textB] at h2; exact Or.inr (Or.inr (Or.inr (Or.inl ⟨k4, h2.1⟩)))
  by_cases k5 : (rootN vs).kind = 5
  · exact Or.inr (Or.inr (Or.inr (Or.inr (Or.inl ⟨k5, hk'⟩))))
  by_cases k6 : (rootN vs).kind = 6
  · exact Or.inr (Or.inr (Or.inr (Or.inr (Or.inr ⟨k6, hk'⟩))))
  simp [k1, k2, k3, k4, k5, k6] at h2

theorem len_range {vs : List VN} (hok : okB vs = true) {n : Int} (h : lenK (rootN vs) = some n) : 0 ≤ n ∧ n ≤ 1000000000000000 := by
  unfold lenK at h
  rcases root_says hok with k | k | ⟨k, a, b⟩ | ⟨k, a⟩ | ⟨k, a⟩ | ⟨k, a⟩ <;> simp [k] at h <;> omega

theorem len_few (vs : List VN) : Few (lenNs vs) ∧ ∀ i, i < (lenNs vs).length → Fits (nodeAt (lenNs vs) i) := by
  unfold lenNs
  split
  · rename_i hok
    cases h : lenK (rootN vs) with
    | none => exact none_few
    | some n =>
      have := len_range hok h
      exact leaf_few n (by omega) (by omega)
  · exact none_few
end Go.Proofs.YtgmnihofkpjboaaDoor
