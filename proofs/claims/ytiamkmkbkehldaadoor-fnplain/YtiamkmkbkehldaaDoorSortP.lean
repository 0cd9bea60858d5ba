/-
  spec.l1Make: the nodes of all parts, and a root behind them.
-/
import Derived.Test.YtiamkmkbkehldaaDoorSS
import Derived.Test.YtiamkmkbkehldaaDoorPkT
import Derived.Test.YtiamkmkbkehldaaDoorPsM
namespace Go.Proofs.YtiamkmkbkehldaaDoor
open Go.RowKit
set_option linter.unusedSimpArgs false
set_option linter.unusedVariables false

/-- Nodes and kids, each in a row of its own. -/
structure Duo (base : Nat) (w wr : World) (v kv : Value) (ns : List VN) (ks : List Int) (KV IV : Nat → Value) : Prop where
  nest : Nest base wr v ns KV IV
  kids : wr.ownsRow base 2 1 kv ks.length (ks.map (.int .i64))
  ki : ∀ j, j < ns.length → ∀ y, kv.ownBlock = some y → (IV j).ownBlock ≠ some y
  frame : Below base w wr

theorem Duo.laid {base : Nat} {w wr w' : World} {v v' kv : Value} {ns add : List VN} {ks : List Int} {KV IV KV' IV' : Nat → Value} (h : Duo base w wr v kv ns ks KV IV) (l : Laid base wr w' v v' ns add KV IV KV' IV') (hb : base ≤ wr.heap.size) : Duo base w w' v' kv (ns ++ add) ks KV' IV' := by
  refine ⟨l.1, h.kids.kept l.2.1 (own_apart h.kids h.nest.row (by decide)), fun j hj y hy => ?_, h.frame.grown l.2.1 hb (fun k hk => (h.nest.row.lt k hk).1)⟩
  by_cases e : j < ns.length
  · rw [(l.2.2.2.1 j e).2]; exact h.ki j e y hy
  · intro e2
    have := (l.2.2.2.2 j (by omega) (by simpa using hj)).2 y e2
    have := (h.kids.lt y hy).2
    omega

theorem Duo.kid {base : Nat} {w wr w5 : World} {v kv kv' : Value} {ns : List VN} {ks : List Int} {KV IV : Nat → Value} {o : Obj} {q : Int} (h : Duo base w wr v kv ns ks KV IV) (hb : base ≤ wr.heap.size)
    (hown : w5.ownsRow base 2 1 kv' (ks.length + 1) (ks.map (.int .i64) ++ [.int .i64 q])) (hg : (wr.alloc o).grownBy w5 kv.ownBlock) (hat : kv'.ownBlock = kv.ownBlock ∨ kv'.ownBlock = some (wr.heap.size + 1)) :
    Duo base w w5 v kv' ns (ks ++ [q]) KV IV := by
  have hg1 : wr.grownBy w5 kv.ownBlock := (World.grownBy_alloc wr o _).trans hg
  have hkk : ∀ i, i < ns.length → (IV i).ownBlock = none ∨ (IV i).ownBlock ≠ kv.ownBlock := by
    intro i hi
    cases e : kv.ownBlock with
    | none => cases e2 : (IV i).ownBlock with
      | none => exact Or.inl rfl
      | some y => exact Or.inr (by simp)
    | some y => exact Or.inr (h.ki i hi y e)
  refine ⟨h.nest.kept hg1 (own_apart h.nest.row h.kids (by decide)) (fun i hi => own_apart (h.nest.rk i hi) h.kids (by decide)) hkk, by simpa using hown, fun j hj y hy => ?_, h.frame.grown hg1 hb (fun k hk => (h.kids.lt k hk).1)⟩
  rcases hat with e | e
  · exact h.ki j hj y (e ▸ hy)
  · rw [e] at hy
    simp at hy
    intro e2
    have := ((h.nest.ri j hj).lt y e2).2
    omega

end Go.Proofs.YtiamkmkbkehldaaDoor

/-
  A part of a right value is right. Plain mathematics.
-/
namespace Go.Proofs.YtiamkmkbkehldaaDoor
open Go.RowKit
set_option linter.unusedSimpArgs false
set_option linter.unusedVariables false

end Go.Proofs.YtiamkmkbkehldaaDoor

/-
  Paths into nodes: where a step leads, said by the place of a key among keys that rise. Plain mathematics.
-/
namespace Go.Proofs.YtiamkmkbkehldaaDoor
open Go.RowKit
set_option linter.unusedSimpArgs false
set_option linter.unusedVariables false

theorem bytes_lt (x : List UInt8) : ∀ y : List UInt8, Op.bytesLess x y = true ↔ x < y := by
  induction x with
  | nil => intro y; cases y <;> simp [Op.bytesLess]
  | cons a x ih =>
    intro y
    cases y with
    | nil => simp [Op.bytesLess]
    | cons b y =>
      have h := ih y
      rw [List.cons_lt_cons_iff, ← h]
      by_cases h1 : a < b <;> by_cases h2 : a = b <;> simp [Op.bytesLess, h1, h2]

theorem less_iff (a b : ByteArray) : lessB a b = true ↔ a.toList < b.toList := bytes_lt _ _

theorem less_trans {a b c : ByteArray} (h1 : lessB a b = true) (h2 : lessB b c = true) : lessB a c = true := by
  rw [less_iff] at *; exact List.lt_trans h1 h2
theorem less_total {a b : ByteArray} (h1 : lessB a b = false) (h2 : a.toList ≠ b.toList) : lessB b a = true := by
  have h3 : ¬ a.toList < b.toList := fun h => by rw [← less_iff] at h; rw [h1] at h; cases h
  rw [less_iff]
  by_cases h : b.toList < a.toList
  · exact h
  · exact absurd (List.le_antisymm (List.not_lt.1 h) (List.not_lt.1 h3)) h2

/-- Keys rise: each is ahead of the next one. -/
def Rise (l : List ByteArray) : Prop := ∀ i j, i < j → j < l.length → lessB (keyAt l i) (keyAt l j) = true

/-- Keys behind the place are not ahead of the key, but for the first they are behind it. -/
theorem Rise.behind {l : List ByteArray} (h : Rise l) {key : ByteArray} {i : Nat} (hi : i < l.length) (h1 : lessB (keyAt l i) key = false) {j : Nat} (hij : i < j) (hj : j < l.length) : lessB (keyAt l j) key = false ∧ (keyAt l j).toList ≠ key.toList := by
  have h2 := h i j hij hj
  have key1 : lessB key (keyAt l j) = true := by
    by_cases e : (keyAt l i).toList = key.toList
    · rw [less_iff] at h2 ⊢; rw [← e]; exact h2
    · exact less_trans (less_total h1 e) h2
  rw [less_iff] at key1
  refine ⟨?_, fun e => ?_⟩
  · cases h3 : lessB (keyAt l j) key
    · rfl
    · rw [less_iff] at h3; exact absurd (List.lt_trans h3 key1) (List.lt_irrefl _)
  · rw [e] at key1; exact absurd key1 (List.lt_irrefl _)

end Go.Proofs.YtiamkmkbkehldaaDoor

/-
  Keys with their places put in order, one behind the other. Plain mathematics, and slices of a row.
-/
namespace Go.Proofs.YtiamkmkbkehldaaDoor
open Go.RowKit
set_option linter.unusedSimpArgs false
set_option linter.unusedVariables false

end Go.Proofs.YtiamkmkbkehldaaDoor
