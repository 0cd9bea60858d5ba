/-
  The laws' marks of nodes: each field of each node and each part of its keys and kids gets its own number, and holds it.
-/
import Derived.Test.YtnnofahlmlikcaaMark
namespace Go.Proofs.Ytnnofahlmlikcaa
open Go.RowKit
set_option linter.unusedSimpArgs false
set_option linter.unusedVariables false

def off (KN IN : Nat → Nat) (k : Nat) : Nat → Nat
  | 0 => k
  | i + 1 => off KN IN k i + 3 + KN i + IN i

theorem off_le (KN IN : Nat → Nat) (k : Nat) : ∀ i, (∀ j, j < i → KN j ≤ 1048576 ∧ IN j ≤ 1048576) → off KN IN k i ≤ k + i * 2097155 := by
  intro i
  induction i with
  | zero => intro _; simp [off]
  | succ i ih =>
    intro h
    have := ih (fun j hj => h j (by omega))
    have := h i (by omega)
    rw [off]
    omega
theorem off_ge (KN IN : Nat → Nat) (k : Nat) : ∀ i, k ≤ off KN IN k i := by
  intro i
  induction i with
  | zero => exact Nat.le_refl _
  | succ i ih => rw [off]; omega

/-- Nodes whose memory is their own: rows apart, all of them to be written. -/
structure Marky (lo : Nat) (w : World) (b n : Nat) (KN IN KB KI : Nat → Nat) : Prop where
  low : lo ≤ b
  lt : b < w.heap.size
  few : n ≤ 1048576
  row : WRow w b (n * 5)
  kn : ∀ i, i < n → KN i ≤ 1048576 ∧ IN i ≤ 1048576
  c3 : ∀ i, i < n → ∃ a c, w.cell? ⟨b, i * 5 + 3, none⟩ = some (.slice a (KN i) c) ∧ (0 < KN i → a = some ⟨KB i, 0, none⟩ ∧ lo ≤ KB i ∧ KB i < w.heap.size ∧ WRow w (KB i) (KN i))
  c4 : ∀ i, i < n → ∃ a c, w.cell? ⟨b, i * 5 + 4, none⟩ = some (.slice a (IN i) c) ∧ (0 < IN i → a = some ⟨KI i, 0, none⟩ ∧ lo ≤ KI i ∧ KI i < w.heap.size ∧ WRow w (KI i) (IN i))
  db : ∀ i, i < n → (0 < KN i → KB i ≠ b) ∧ (0 < IN i → KI i ≠ b)
  dkk : ∀ i j, i < n → j < n → i ≠ j → 0 < KN i → 0 < KN j → KB i ≠ KB j
  dki : ∀ i j, i < n → j < n → 0 < KN i → 0 < IN j → KB i ≠ KI j
  dii : ∀ i j, i < n → j < n → i ≠ j → 0 < IN i → 0 < IN j → KI i ≠ KI j

/-- Node i holds its marks, from o on. -/
structure HNode (w : World) (b i kn ni kb ki o : Nat) : Prop where
  lt : b < w.heap.size
  c0 : w.cell? ⟨b, i * 5, none⟩ = some (.int .i64 (o : Nat))
  c1 : w.cell? ⟨b, i * 5 + 1, none⟩ = some (.int .i64 (o + 1 : Nat))
  c2 : w.cell? ⟨b, i * 5 + 2, none⟩ = some (.string (markOf (o + 2)))
  c3 : ∃ a c, w.cell? ⟨b, i * 5 + 3, none⟩ = some (.slice a kn c) ∧ (0 < kn → a = some ⟨kb, 0, none⟩ ∧ kb < w.heap.size ∧ ∀ j, j < kn → w.cell? ⟨kb, j, none⟩ = some (.string (markOf (o + 3 + j))))
  c4 : ∃ a c, w.cell? ⟨b, i * 5 + 4, none⟩ = some (.slice a ni c) ∧ (0 < ni → a = some ⟨ki, 0, none⟩ ∧ ki < w.heap.size ∧ ∀ j, j < ni → w.cell? ⟨ki, j, none⟩ = some (.int .i64 (o + 3 + kn + j : Nat)))

theorem HNode.keep {w w' : World} {b i kn ni kb ki o : Nat} (h : HNode w b i kn ni kb ki o) (hs : w.heap.size ≤ w'.heap.size) (hb : ∀ j, j < 5 → w'.cell? ⟨b, i * 5 + j, none⟩ = w.cell? ⟨b, i * 5 + j, none⟩)
    (hk : 0 < kn → ∀ j, w'.cell? ⟨kb, j, none⟩ = w.cell? ⟨kb, j, none⟩) (hi : 0 < ni → ∀ j, w'.cell? ⟨ki, j, none⟩ = w.cell? ⟨ki, j, none⟩) : HNode w' b i kn ni kb ki o := by
  refine ⟨by have := h.lt; omega, (hb 0 (by omega)).trans h.c0, (hb 1 (by omega)).trans h.c1, (hb 2 (by omega)).trans h.c2, ?_, ?_⟩
  · obtain ⟨a, c, e, hx⟩ := h.c3
    refine ⟨a, c, (hb 3 (by omega)).trans e, fun hp => ?_⟩
    obtain ⟨e1, e2, e3⟩ := hx hp
    exact ⟨e1, by omega, fun j hj => (hk hp j).trans (e3 j hj)⟩
  · obtain ⟨a, c, e, hx⟩ := h.c4
    refine ⟨a, c, (hb 4 (by omega)).trans e, fun hp => ?_⟩
    obtain ⟨e1, e2, e3⟩ := hx hp
    exact ⟨e1, by omega, fun j hj => (hi hp j).trans (e3 j hj)⟩

theorem HNode.below {w w' : World} {b i kn ni kb ki o : Nat} (h : HNode w b i kn ni kb ki o) (hb : Below w.heap.size w w') : HNode w' b i kn ni kb ki o := by
  obtain ⟨_, _, _, h3⟩ := h.c3
  obtain ⟨_, _, _, h4⟩ := h.c4
  exact h.keep hb.size (fun j _ => below_cell hb h.lt) (fun hp j => below_cell hb (h3 hp).2.1) (fun hp j => below_cell hb (h4 hp).2.1)

end Go.Proofs.Ytnnofahlmlikcaa
