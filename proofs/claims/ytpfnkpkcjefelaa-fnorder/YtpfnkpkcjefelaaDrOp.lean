/-
  A code of bytes is opened for drawing.
-/
import Derived.Test.YtpfnkpkcjefelaaRd4
namespace Go.Proofs.Ytpfnkpkcjefelaa
open Go.RowKit
set_option linter.unusedSimpArgs false
set_option linter.unusedVariables false

/-- A code of n bytes. -/
def CodeAt (B : Nat) (w : World) (v : Value) (n : Nat) : Prop :=
  n ≤ 1048576 ∧ ∃ a cap, v = .slice a n cap ∧ (0 < n → ∃ b o, a = some ⟨b, o, none⟩ ∧ b < B ∧ ∀ i, i < n → ∃ x : Nat, x < 256 ∧ w.cell? ⟨b, o + i, none⟩ = some (.int .u8 x))

theorem CodeAt.below {B : Nat} {w w' : World} {v : Value} {n : Nat} (h : CodeAt B w v n) (hb : Below B w w') : CodeAt B w' v n := by
  obtain ⟨hn, a, cap, e, hc⟩ := h
  refine ⟨hn, a, cap, e, fun hp => ?_⟩
  obtain ⟨b, o, e2, hlt, hx⟩ := hc hp
  exact ⟨b, o, e2, hlt, fun i hi => by obtain ⟨x, h3, h4⟩ := hx i hi; exact ⟨x, h3, (below_cell hb hlt).trans h4⟩⟩

set_option maxHeartbeats 800000 in
theorem l1Open_any (B : Nat) (v : Value) (n : Nat) (w : World) (h : CodeAt B w v n) (hB : B ≤ w.heap.size) :
    Calls Try.prog 47 #[v] w fun e w' => e = .returned (.pointer (some ⟨w.heap.size, 0, none⟩)) ∧ RdAt w' w.heap.size n 0 ∧ Below w.heap.size w w' := by
  obtain ⟨hn, a, cap, rfl, hc⟩ := h
  have HC := hideIt hc
  clear hc
  go_enter Try.func47, Try.ntmps47
  go_wp2_with fail
  go_ret
  have hb : Below w.heap.size w (w.alloc (.cells #[.slice a n cap, .int .i64 0] 116)) := (Below.refl _ _).alloc (Nat.le_refl _) _
  refine ⟨rfl, ⟨by simp, ⟨a, cap, by simp, fun hp => ?_⟩, by simp, by omega, hn, frozen_of_row _ _ 1 _ _ (heap_alloc_new w _)⟩, hb⟩
  obtain ⟨b, o, e, hlt, hx⟩ := HC.out hp
  exact ⟨b, o, e, by omega, fun i hi => by obtain ⟨x, h3, h4⟩ := hx i hi; exact ⟨x, h3, (below_cell hb (by omega)).trans h4⟩⟩

end Go.Proofs.Ytpfnkpkcjefelaa
