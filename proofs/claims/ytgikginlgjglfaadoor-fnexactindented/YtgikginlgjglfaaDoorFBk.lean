/-
  A builder in a struct, kept while other memory is made.
-/
import Derived.Test.YtgikginlgjglfaaDoorFBld
import Derived.RangeFuncOwn
namespace Go.Proofs.YtgikginlgjglfaaDoor
open Go.RowKit Go.Shelf
set_option linter.unusedSimpArgs false
set_option linter.unusedVariables false

theorem FB.grown {T : TypeId} {B b : Nat} {rest : List Value} {l : List UInt8} {X Y : World} {row : Option Nat} (h : FB T B b rest l X) (hg : X.grownBy Y row) (hr : ∀ r, row = some r → ∃ o : Obj, X.heap[r]? = some o ∧ o.isCells = false) : FB T B b rest l Y := by
  obtain ⟨hB, p, v, hp, hb, hrow, hne⟩ := h
  refine ⟨hB, p, v, hp, (grownBy_keeps_cells hg hr hb rfl).trans hb, ⟨hrow.1, ?_⟩, hne⟩
  rcases hrow.2 with h0 | ⟨g, cap, cur, hv, h1, h2, h3⟩
  · exact .inl h0
  · exact .inr ⟨g, cap, cur, hv, h1, (grownBy_keeps_cells hg hr h2 rfl).trans h2, h3⟩
theorem FB.lt {T : TypeId} {B b : Nat} {rest : List Value} {l : List UInt8} {w : World} (h : FB T B b rest l w) : b < w.heap.size := by
  obtain ⟨hB, p, v, hp, hb, _⟩ := h
  exact lt_heap hb
theorem FB.drew {T : TypeId} {B b : Nat} {rest : List Value} {l : List UInt8} {X : World} (h : FB T B b rest l X) : FB T B b rest l X.drew := h
theorem FB.alloc {T : TypeId} {B b : Nat} {rest : List Value} {l : List UInt8} {X : World} (h : FB T B b rest l X) (o : Obj) : FB T B b rest l (X.alloc o) := h.grown (World.grownBy_alloc X o none) (fun r e => by cases e)

theorem FB.keep {T : TypeId} {B b : Nat} {rest : List Value} {l : List UInt8} {X Y : World} (h : FB T B b rest l X) (hk : Below X.heap.size X Y) : FB T B b rest l Y := by
  obtain ⟨hB, p, v, hp, hb, hrow, hne⟩ := h
  refine ⟨hB, p, v, hp, (hk.block b (lt_heap hb)).trans hb, ⟨hrow.1, ?_⟩, hne⟩
  rcases hrow.2 with h0 | ⟨g, cap, cur, hv, h1, h2, h3⟩
  · exact .inl h0
  · exact .inr ⟨g, cap, cur, hv, h1, (hk.block g (lt_heap h2)).trans h2, h3⟩
theorem call_wbyte (u v : Value) : ∀ w, (callFunc 21 #[u, v]).run Tryd.prog w = .ok (.enter 21 #[u, v]) w := fun w => by kernel_rfl
end Go.Proofs.YtgikginlgjglfaaDoor
