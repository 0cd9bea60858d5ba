/-
  append of a slice that came in, nil or not, onto a row of one's own: what the row is then, and where it lies.
-/
import Derived.Test.YtiamkmkbkehldaaDoorNest
import Derived.Maps.AppendAt
import Derived.Laws.OwnMore
import Derived.Test.YtiamkmkbkehldaaDoorStepC
import Derived.Test.YtiamkmkbkehldaaDoorSpc3
import Derived.Test.YtiamkmkbkehldaaDoorVal
import Derived.Test.YtiamkmkbkehldaaDoorTree
import Derived.Test.YtiamkmkbkehldaaDoorPkP
namespace Go.Proofs.YtiamkmkbkehldaaDoor
open Go.RowKit
set_option linter.unusedSimpArgs false
set_option linter.unusedVariables false

end Go.Proofs.YtiamkmkbkehldaaDoor

/-
  The specification's part of a value: nodes from the part's first on, in new memory.
-/
namespace Go.Proofs.YtiamkmkbkehldaaDoor
open Go.RowKit
set_option linter.unusedSimpArgs false
set_option linter.unusedVariables false

theorem own_below {w w' : World} {base e s n : Nat} {v : Value} {xs : List Value} {B : Nat} (h : w.ownsRow base e s v n xs) (hb : Below B w w') (hB : ∀ x, v.ownBlock = some x → x < B) : w'.ownsRow base e s v n xs := by
  refine ⟨h.1, ?_⟩
  rcases h.2 with hn | ⟨g, cap, cur, rfl, hg, hgg, rest⟩
  · exact .inl hn
  · exact .inr ⟨g, cap, cur, rfl, hg, (hb.block g (hB g rfl)).trans hgg, rest⟩

theorem Nest.below {base : Nat} {w w' : World} {v : Value} {vs : List VN} {KV IV : Nat → Value} (h : Nest base w v vs KV IV) (hb : Below w.heap.size w w') : Nest base w' v vs KV IV :=
  ⟨own_below h.row hb (fun x hx => (h.row.lt x hx).2), fun i hi => own_below (h.rk i hi) hb (fun x hx => ((h.rk i hi).lt x hx).2), fun i hi => own_below (h.ri i hi) hb (fun x hx => ((h.ri i hi).lt x hx).2), h.dkk, h.dii⟩

theorem own_mono {w : World} {base base' e s n : Nat} {v : Value} {xs : List Value} (h : w.ownsRow base e s v n xs) (hb : base' ≤ base) : w.ownsRow base' e s v n xs := by
  refine ⟨h.1, ?_⟩
  rcases h.2 with hn | ⟨g, cap, cur, rfl, hg, rest⟩
  · exact .inl hn
  · exact .inr ⟨g, cap, cur, rfl, by omega, rest⟩

def shifted (l : List Int) (d : Int) (k : Nat) : List Value := (l.take k).map (fun q => .int .i64 (q + d))
theorem own_slice {w : World} {base e s n : Nat} {v : Value} {xs : List Value} (h : w.ownsRow base e s v n xs) : ∃ a c, v = .slice a n c := by
  rcases h.2 with ⟨rfl, rfl⟩ | ⟨g, cap, cur, rfl, _⟩
  · exact ⟨_, _, rfl⟩
  · exact ⟨_, _, rfl⟩

end Go.Proofs.YtiamkmkbkehldaaDoor

/-
  A part's nodes: plain mathematics.
-/
namespace Go.Proofs.YtiamkmkbkehldaaDoor
open Go.RowKit
set_option linter.unusedSimpArgs false
set_option linter.unusedVariables false

/-- The part's nodes. -/
def partOf (vs : List VN) (n : Nat) : List VN := run vs (-(trF (tr (kidsOf vs) n))) (trF (tr (kidsOf vs) n)).toNat (n + 1 - (trF (tr (kidsOf vs) n)).toNat)

theorem keys_few {vs : List VN} (h : okB vs = true) : ∀ k, k < vs.length → kidsIn vs k = true ∧ (nodeAt vs k).kids.length ≤ 80 ∧ (nodeAt vs k).keys.length ≤ 80 := by
  intro k hk
  obtain ⟨h1, h2, _, h4⟩ := okB_parts h
  have hn := h2 k hk
  have := h4 k hk
  refine ⟨hn.2, by omega, ?_⟩
  by_cases e : (nodeAt vs k).kind = 6
  · have hb := hn.1
    unfold nodeB namedB at hb
    simp [e] at hb
    omega
  · have hb := hn.1
    unfold nodeB unnamedB at hb
    simp [e] at hb
    have := hb.1.1.2
    simp [this]

theorem lay_part {vs : List VN} (hok : okB vs = true) {f m : Nat} (hf : m < f) (hm : m < vs.length) : layT f (treeOf vs f m) 0 = partOf vs m ∧ (partOf vs m).length ≤ 80 := by
  obtain ⟨p1, _, p3, _⟩ := okB_parts hok
  obtain ⟨⟨a0, h0⟩, htr⟩ := p3 m hm
  have e : partOf vs m = run vs (-(a0 : Int)) a0 (m + 1 - a0) := by rw [partOf, htr]; simp [trF]
  rw [← lay_tree, lay_run vs f m 0 a0 h0 hf htr, e]
  exact ⟨by simp, by rw [run_length]; omega⟩

end Go.Proofs.YtiamkmkbkehldaaDoor

/-
  Plain: MessagePack's bytes of a tree.
-/
namespace Go.Proofs.YtiamkmkbkehldaaDoor
open Go.RowKit
set_option linter.unusedSimpArgs false
set_option linter.unusedVariables false

/-- What a right node says. -/
theorem node_says {vs : List VN} (hok : okB vs = true) {i : Nat} (hi : i < vs.length) :
    (nodeAt vs i).kind = 1 ∨ ((nodeAt vs i).kind = 2 ∧ 0 ≤ (nodeAt vs i).n ∧ (nodeAt vs i).n ≤ 1) ∨ ((nodeAt vs i).kind = 3 ∧ -1000000000000000 ≤ (nodeAt vs i).n ∧ (nodeAt vs i).n ≤ 1000000000000000) ∨ ((nodeAt vs i).kind = 4 ∧ (nodeAt vs i).s.size ≤ 60) ∨
    ((nodeAt vs i).kind = 5) ∨ ((nodeAt vs i).kind = 6 ∧ (nodeAt vs i).keys.length = (nodeAt vs i).kids.length ∧ ∀ j, j < (nodeAt vs i).keys.length → (keyAt (nodeAt vs i).keys j).size ≤ 60) := by
  obtain ⟨p1, p2, _, p4⟩ := okB_parts hok
  have hn := (p2 i hi).1
  unfold nodeB namedB at hn
  simp only [Bool.and_eq_true] at hn
  have h2 := hn.2
  by_cases k1 : (nodeAt vs i).kind = 1
  · exact Or.inl k1
  by_cases k2 : (nodeAt vs i).kind = 2
  · simp [k2] at h2; exact Or.inr (Or.inl ⟨k2, by omega, by omega⟩)
  by_cases k3 : (nodeAt vs i).kind = 3
  · simp [k3] at h2; exact Or.inr (Or.inr (Or.inl ⟨k3, by omega, by omega⟩))
  by_cases k4 : (nodeAt vs i).kind = 4
  · simp [k4, textB] at h2; exact Or.inr (Or.inr (Or.inr (Or.inl ⟨k4, h2.1⟩)))
  by_cases k5 : (nodeAt vs i).kind = 5
  · exact Or.inr (Or.inr (Or.inr (Or.inr (Or.inl k5))))
  by_cases k6 : (nodeAt vs i).kind = 6
  · simp [k6] at h2
    refine Or.inr (Or.inr (Or.inr (Or.inr (Or.inr ⟨k6, h2.1, fun j hj => ?_⟩))))
    have := List.all_eq_true.1 h2.2 j (List.mem_range.2 hj)
    unfold riseAt at this
    simp [textB] at this
    exact this.1.1
  simp [k1, k2, k3, k4, k5, k6] at h2
end Go.Proofs.YtiamkmkbkehldaaDoor
