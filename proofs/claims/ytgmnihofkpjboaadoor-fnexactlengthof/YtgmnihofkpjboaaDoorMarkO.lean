/-
  Copies that the laws make have memory of their own: they can be marked.
-/
import Derived.Test.YtgmnihofkpjboaaDoorMarkM
namespace Go.Proofs.YtgmnihofkpjboaaDoor
open Go.RowKit
set_option linter.unusedSimpArgs false
set_option linter.unusedVariables false

theorem rowW {w : World} {b t n : Nat} {f : Nat → Value} (h : w.rowIs b t n f) : WRow w b n := fun j hj => ⟨⟨_, h.cell hj⟩, h.frozen j⟩

theorem OwnAt.marky {w : World} {b : Nat} {vs : List VN} {KB KI : Nat → Nat} (h : OwnAt w b vs KB KI) (hn : vs.length ≤ 1048576) (hk : ∀ i, i < vs.length → (nodeAt vs i).keys.length ≤ 1048576 ∧ (nodeAt vs i).kids.length ≤ 1048576) :
    Marky b w b vs.length (fun i => (nodeAt vs i).keys.length) (fun i => (nodeAt vs i).kids.length) KB KI := by
  have mono : ∀ i j, i < vs.length → j < vs.length → i ≠ j → KI i < KB j ∨ KI j < KB i := by
    intro i j hi hj e
    rcases Nat.lt_or_gt_of_ne e with e | e
    · exact Or.inl (h.to.mono i j e hj)
    · exact Or.inr (h.to.mono j i e hi)
  refine ⟨Nat.le_refl _, h.row.lt, hn, rowW h.row, hk, fun i hi => ?_, fun i hi => ?_, fun i hi => ?_, fun i j hi hj e _ _ => ?_, fun i j hi hj _ _ => ?_, fun i j hi hj e _ _ => ?_⟩
  · refine ⟨_, _, by rw [h.row.cell (by omega), nodeCell3], fun _ => ⟨rfl, ?_, (h.to.rk i hi).lt, rowW (h.to.rk i hi)⟩⟩
    have := h.to.lo i hi
    omega
  · refine ⟨_, _, by rw [h.row.cell (by omega), nodeCell4], fun _ => ⟨rfl, ?_, (h.to.ri i hi).lt, rowW (h.to.ri i hi)⟩⟩
    have := h.to.lo i hi
    omega
  · have := h.to.lo i hi
    exact ⟨fun _ => by omega, fun _ => by omega⟩
  · have := h.to.lo i hi
    have := h.to.lo j hj
    have := mono i j hi hj e
    omega
  · have := h.to.lo i hi
    have := h.to.lo j hj
    by_cases e : i = j
    · subst e; omega
    · have := mono i j hi hj e
      omega
  · have := h.to.lo i hi
    have := h.to.lo j hj
    have := mono i j hi hj e
    omega

/-- The blocks that the marks of such a copy write: from its row on, and below its end. -/
theorem OwnAt.marked {w : World} {b x : Nat} {vs : List VN} {KB KI : Nat → Nat} (h : OwnAt w b vs KB KI) (hx : Marked b vs.length (fun i => (nodeAt vs i).keys.length) (fun i => (nodeAt vs i).kids.length) KB KI x) : b ≤ x ∧ x < w.heap.size := by
  obtain ⟨_, rfl | ⟨i, hi, ⟨_, rfl⟩ | ⟨_, rfl⟩⟩⟩ := hx
  · exact ⟨Nat.le_refl _, h.row.lt⟩
  · have := h.to.lo i hi
    exact ⟨by omega, (h.to.rk i hi).lt⟩
  · have := h.to.lo i hi
    exact ⟨by omega, (h.to.ri i hi).lt⟩
end Go.Proofs.YtgmnihofkpjboaaDoor
