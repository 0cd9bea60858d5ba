/-
  All blocks from one on are kept. No walk.
-/
import Derived.Test.YtgmnihofkpjboaaDoorNest
namespace Go.Proofs.YtgmnihofkpjboaaDoor
open Go.RowKit
set_option linter.unusedSimpArgs false
set_option linter.unusedVariables false

/-- All blocks from base on are as they were. -/
def From (base : Nat) (w w' : World) : Prop := w.heap.size ≤ w'.heap.size ∧ ∀ c, base ≤ c → c < w.heap.size → w'.heap[c]? = w.heap[c]?
theorem From.below {base : Nat} {a w w' : World} (h : From base a w) (hb : Below w.heap.size w w') : From base a w' :=
  ⟨Nat.le_trans h.1 hb.size, fun c h1 h2 => (hb.block c (by have := h.1; omega)).trans (h.2 c h1 h2)⟩
theorem From.refl (base : Nat) (w : World) : From base w w := ⟨Nat.le_refl _, fun _ _ _ => rfl⟩
theorem From.mono {base base' : Nat} {w w' : World} (h : From base w w') (hb : base ≤ base') : From base' w w' := ⟨h.1, fun c h1 h2 => h.2 c (by omega) h2⟩

theorem own_from {w w' : World} {base e s n : Nat} {v : Value} {xs : List Value} (h : w.ownsRow base e s v n xs) (hf : From base w w') : w'.ownsRow base e s v n xs := by
  refine ⟨h.1, ?_⟩
  rcases h.2 with hn | ⟨g, cap, cur, rfl, hg, hgg, rest⟩
  · exact .inl hn
  · exact .inr ⟨g, cap, cur, rfl, hg, (hf.2 g hg (h.lt g rfl).2).trans hgg, rest⟩

end Go.Proofs.YtgmnihofkpjboaaDoor
