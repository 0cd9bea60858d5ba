/-
  Rows of rows of nodes: how they lie, laid by appending. No walk.
-/
import Derived.Test.YtnbhologgonjnaaSPart
import Derived.Maps.Range
namespace Go.Proofs.Ytnbhologgonjnaa
open Go.RowKit
set_option linter.unusedSimpArgs false
set_option linter.unusedVariables false

/-- All blocks from base on are as they were. -/
def From (base : Nat) (w w' : World) : Prop := w.heap.size ≤ w'.heap.size ∧ ∀ c, base ≤ c → c < w.heap.size → w'.heap[c]? = w.heap[c]?
theorem From.below {base : Nat} {a w w' : World} (h : From base a w) (hb : Below w.heap.size w w') : From base a w' :=
  ⟨Nat.le_trans h.1 hb.size, fun c h1 h2 => (hb.block c (by have := h.1; omega)).trans (h.2 c h1 h2)⟩
theorem From.only {base : Nat} {P : Nat → Prop} {a w w' : World} (h : From base a w) (ho : Only P w w') (hP : ∀ c, P c → c < base) : From base a w' :=
  ⟨Nat.le_trans h.1 ho.1, fun c h1 h2 => (ho.2 c (by have := h.1; omega) (fun p => by have := hP c p; omega)).trans (h.2 c h1 h2)⟩
theorem From.refl (base : Nat) (w : World) : From base w w := ⟨Nat.le_refl _, fun _ _ _ => rfl⟩
theorem From.mono {base base' : Nat} {w w' : World} (h : From base w w') (hb : base ≤ base') : From base' w w' := ⟨h.1, fun c h1 h2 => h.2 c (by omega) h2⟩

theorem own_from {w w' : World} {base e s n : Nat} {v : Value} {xs : List Value} (h : w.ownsRow base e s v n xs) (hf : From base w w') : w'.ownsRow base e s v n xs := by
  refine ⟨h.1, ?_⟩
  rcases h.2 with hn | ⟨g, cap, cur, rfl, hg, hgg, rest⟩
  · exact .inl hn
  · exact .inr ⟨g, cap, cur, rfl, hg, (hf.2 g hg (h.lt g rfl).2).trans hgg, rest⟩

def blk (v : Value) : Nat := (v.ownBlock).getD 0
def knOf (vs : List VN) (i : Nat) : Nat := (nodeAt vs i).keys.length
def inOf (vs : List VN) (i : Nat) : Nat := (nodeAt vs i).kids.length

/-- Few nodes, with few keys and kids. -/
def Few (vs : List VN) : Prop := vs.length ≤ 80 ∧ ∀ i, i < vs.length → (nodeAt vs i).keys.length ≤ 80 ∧ (nodeAt vs i).kids.length ≤ 80

/-- The blocks of a Nest. -/
def InNest (r : Value) (n : Nat) (K I : Nat → Value) (x : Nat) : Prop := r.ownBlock = some x ∨ ∃ j, j < n ∧ ((K j).ownBlock = some x ∨ (I j).ownBlock = some x)

theorem blk_of {w : World} {base e s n : Nat} {v : Value} {xs : List Value} (h : w.ownsRow base e s v n xs) (hn : 0 < n) : v.ownBlock = some (blk v) := by
  obtain ⟨g, cap, rfl, _⟩ := h.form hn
  rfl

def updF {α : Type} (F : Nat → α) (k : Nat) (v : α) (i : Nat) : α := if i = k then v else F i
theorem updF_same {α : Type} (F : Nat → α) (k : Nat) (v : α) : updF F k v k = v := if_pos rfl
theorem updF_other {α : Type} (F : Nat → α) {k i : Nat} (v : α) (h : i ≠ k) : updF F k v i = F i := if_neg h

theorem range_map_snoc {m : Nat} {rs : Nat → Value} {r : Value} : (List.range (m + 1)).map (updF rs m r) = (List.range m).map rs ++ [r] := by
  rw [List.range_succ, List.map_append]
  congr 1
  · apply List.map_congr_left
    intro j hj
    exact updF_other _ _ (by have := List.mem_range.1 hj; omega)
  · simp [updF_same]

/-- Rows of nodes as they are read. -/
def RowsAt (B : Nat) (w : World) (v : Value) (m : Nat) (L : Nat → List VN) : Prop :=
  m ≤ 1048576 ∧ ∃ a cap, v = .slice a m cap ∧ (0 < m → ∃ b, a = some ⟨b, 0, none⟩ ∧ b < B ∧ ∀ i, i < m → ∃ r, w.cell? ⟨b, i, none⟩ = some r ∧ NodesAt B w r (L i))

end Go.Proofs.Ytnbhologgonjnaa
