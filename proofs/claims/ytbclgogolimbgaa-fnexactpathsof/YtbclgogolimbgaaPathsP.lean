/-
  The paths of a value, node by node. Plain mathematics.
-/
import Derived.Test.YtbclgogolimbgaaPsM
import Derived.Test.YtbclgogolimbgaaPartP
import Derived.Test.YtbclgogolimbgaaTree
namespace Go.Proofs.Ytbclgogolimbgaa
open Go.RowKit
set_option linter.unusedSimpArgs false
set_option linter.unusedVariables false

/-- The step to part i. -/
def stepOf (kind : Int) (keys : List ByteArray) (i : Nat) : PS := if kind = 6 then ⟨true, keyAt keys i, 0⟩ else ⟨false, ByteArray.empty, (i : Int)⟩

def pathsN (vs : List VN) : Nat → Nat → List PS → List (List PS)
  | 0, _, _ => []
  | f + 1, n, head => head :: (List.range (nodeAt vs n).kids.length).flatMap fun i => pathsN vs f (intAt (nodeAt vs n).kids i).toNat (head ++ [stepOf (nodeAt vs n).kind (nodeAt vs n).keys i])

/-- With the paths of the first k parts. -/
def pathsTo (vs : List VN) (f n : Nat) (head : List PS) (k : Nat) : List (List PS) :=
  head :: (List.range k).flatMap fun i => pathsN vs f (intAt (nodeAt vs n).kids i).toNat (head ++ [stepOf (nodeAt vs n).kind (nodeAt vs n).keys i])

theorem pathsTo_zero (vs : List VN) (f n : Nat) (head : List PS) : pathsTo vs f n head 0 = [head] := by simp [pathsTo]
theorem pathsTo_succ (vs : List VN) (f n : Nat) (head : List PS) (k : Nat) : pathsTo vs f n head (k + 1) = pathsTo vs f n head k ++ pathsN vs f (intAt (nodeAt vs n).kids k).toNat (head ++ [stepOf (nodeAt vs n).kind (nodeAt vs n).keys k]) := by
  unfold pathsTo; rw [List.range_succ, List.flatMap_append]; simp
theorem pathsN_eq (vs : List VN) (f n : Nat) (head : List PS) : pathsN vs (f + 1) n head = pathsTo vs f n head (nodeAt vs n).kids.length := rfl

theorem paths_len (vs : List VN) : ∀ (f n : Nat) (head : List PS) (sh : Nat), (pathsN vs f n head).length = (layT f (treeOf vs f n) sh).length := by
  intro f
  induction f with
  | zero => intro n head sh; rfl
  | succ f ih =>
    intro n head sh
    rw [pathsN_eq, treeOf, layT_eq, List.length_append, List.length_map]
    have key : ∀ k, k ≤ (nodeAt vs n).kids.length → (pathsTo vs f n head k).length = (accT f sh ((nodeAt vs n).kids.map fun k => treeOf vs f k.toNat) k).length + 1 := by
      intro k
      induction k with
      | zero => intro _; rw [pathsTo_zero, accT_zero]; rfl
      | succ k ihk =>
        intro hk
        rw [pathsTo_succ, List.length_append, ihk (by omega), accT_succ f sh (by rw [List.length_map]; omega), List.length_append, kidT_map (by omega), ih _ _ (sh + (accT f sh ((nodeAt vs n).kids.map fun k => treeOf vs f k.toNat) k).length)]
        omega
    rw [key _ (Nat.le_refl _)]
    rfl

theorem paths_le {vs : List VN} (hok : okB vs = true) {f n : Nat} (hf : n < f) (hn : n < vs.length) (head : List PS) : (pathsN vs f n head).length ≤ 80 := by
  rw [paths_len vs f n head 0, (lay_part hok hf hn).1]
  exact (lay_part hok hf hn).2

theorem pathsTo_le {vs : List VN} (f n : Nat) (head : List PS) {k : Nat} (hk : k ≤ (nodeAt vs n).kids.length) : (pathsTo vs f n head k).length ≤ (pathsN vs (f + 1) n head).length := by
  rw [pathsN_eq]
  obtain ⟨d, hd⟩ : ∃ d, (nodeAt vs n).kids.length = k + d := ⟨_, (Nat.add_sub_cancel' hk).symm⟩
  rw [hd]
  clear hd hk
  induction d with
  | zero => exact Nat.le_refl _
  | succ d ih => rw [← Nat.add_assoc, pathsTo_succ, List.length_append]; omega

/-- The rows' lengths, and what their steps hold. -/
def Short (m : Nat) (ps : List PS) : Prop := ps.length ≤ m ∧ ∀ i, i < ps.length → (stepAt ps i).key.size ≤ 1048576 ∧ -9223372036854775808 ≤ (stepAt ps i).pl ∧ (stepAt ps i).pl ≤ 9223372036854775807

theorem Short.snoc {m : Nat} {ps : List PS} (h : Short m ps) {x : PS} (hx : x.key.size ≤ 1048576 ∧ -9223372036854775808 ≤ x.pl ∧ x.pl ≤ 9223372036854775807) : Short (m + 1) (ps ++ [x]) := by
  refine ⟨by simp; exact h.1, fun i hi => ?_⟩
  by_cases e : i < ps.length
  · have : stepAt (ps ++ [x]) i = stepAt ps i := by unfold stepAt; rw [List.getD_eq_getElem?_getD, List.getD_eq_getElem?_getD, List.getElem?_append_left e]
    rw [this]; exact h.2 i e
  · have e2 : i = ps.length := by simp at hi; omega
    subst e2
    have : stepAt (ps ++ [x]) ps.length = x := by unfold stepAt; simp
    rw [this]; exact hx

theorem Short.wide {m m' : Nat} {ps : List PS} (h : Short m ps) (hm : m ≤ m') : Short m' ps := ⟨by have := h.1; omega, h.2⟩

theorem stepOf_short {vs : List VN} (hok : okB vs = true) {n i : Nat} (hn : n < vs.length) (hi : i < (nodeAt vs n).kids.length) : (stepOf (nodeAt vs n).kind (nodeAt vs n).keys i).key.size ≤ 1048576 ∧ -9223372036854775808 ≤ (stepOf (nodeAt vs n).kind (nodeAt vs n).keys i).pl ∧ (stepOf (nodeAt vs n).kind (nodeAt vs n).keys i).pl ≤ 9223372036854775807 := by
  have hk := (keys_few hok n hn).2.1
  have hnb := ((okB_parts hok).2.1 n hn).1
  unfold stepOf
  split
  · rename_i h6
    unfold nodeB namedB at hnb
    simp [h6] at hnb
    have hr := hnb.2.2
    unfold riseB at hr
    rw [List.all_eq_true] at hr
    have := hr i (List.mem_range.2 (by rw [hnb.2.1]; exact hi))
    unfold riseAt textB at this
    simp only [Bool.and_eq_true, decide_eq_true_eq] at this
    simp only
    omega
  · refine ⟨by simp, by simp only; omega, by simp only; omega⟩

theorem paths_short {vs : List VN} (hok : okB vs = true) : ∀ (f n m : Nat) (head : List PS), n < f → n < vs.length → Short m head → ∀ p ∈ pathsN vs f n head, Short (m + f) p := by
  intro f
  induction f with
  | zero => intro n m head hf; omega
  | succ f ih =>
    intro n m head hf hn hs p hp
    rw [pathsN] at hp
    rcases List.mem_cons.1 hp with rfl | hp
    · exact hs.wide (by omega)
    · obtain ⟨i, hi, hp⟩ := List.mem_flatMap.1 hp
      have hi' := List.mem_range.1 hi
      have hkin := kidsIn_get (keys_few hok n hn).1 hi'
      have := ih (intAt (nodeAt vs n).kids i).toNat (m + 1) _ (by omega) (by omega) (hs.snoc (stepOf_short hok hn hi')) p hp
      exact this.wide (by omega)
end Go.Proofs.Ytbclgogolimbgaa
