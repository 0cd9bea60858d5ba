/-
  Steps of paths: what makes a path right, and how a slice of steps lies in memory.
-/
import Derived.Test.YtbclgogolimbgaaMem
namespace Go.Proofs.Ytbclgogolimbgaa
open Go.RowKit
set_option linter.unusedSimpArgs false
set_option linter.unusedVariables false

/-- A step of a path. -/
structure PS where
  named : Bool
  key : ByteArray
  pl : Int

def PS.zero : PS := ⟨false, ByteArray.empty, 0⟩
def stepAt (ps : List PS) (i : Nat) : PS := ps.getD i PS.zero
def stepB (x : PS) : Bool := (x.named && (textB x.key && decide (x.pl = 0))) || (!x.named && (decide (x.key.toList = []) && (decide (0 ≤ x.pl) && decide (x.pl ≤ 80))))
def pathB (ps : List PS) : Bool := decide (ps.length ≤ 10) && (List.range ps.length).all fun i => stepB (stepAt ps i)

theorem pathB_false {ps : List PS} {k : Nat} (hk : k < ps.length) (h : stepB (stepAt ps k) = false) : pathB ps = false := by
  unfold pathB
  rw [show ((List.range ps.length).all fun i => stepB (stepAt ps i)) = false from ?_, Bool.and_false]
  rw [List.all_eq_false]
  exact ⟨k, List.mem_range.2 hk, by simp [h]⟩

theorem pathB_all {ps : List PS} (h : ∀ k, k < ps.length → stepB (stepAt ps k) = true) : pathB ps = decide (ps.length ≤ 10) := by
  unfold pathB
  rw [show ((List.range ps.length).all fun i => stepB (stepAt ps i)) = true from ?_, Bool.and_true]
  rw [List.all_eq_true]
  exact fun k hk => h k (List.mem_range.1 hk)

/-- A slice of at most M steps, the texts of at most S bytes, below the block B. -/
def StepsIn (M S B : Nat) (w : World) (v : Value) (ps : List PS) : Prop :=
  ps.length ≤ M ∧ (∀ i, i < ps.length → (stepAt ps i).key.size ≤ S ∧ -9223372036854775808 ≤ (stepAt ps i).pl ∧ (stepAt ps i).pl ≤ 9223372036854775807) ∧
  ∃ a cap, v = .slice a ps.length cap ∧ (0 < ps.length → ∃ b o, a = some ⟨b, o, none⟩ ∧ b < B ∧ ∀ i, i < ps.length →
    w.cell? ⟨b, o + i * 3, none⟩ = some (.bool (stepAt ps i).named) ∧ w.cell? ⟨b, o + i * 3 + 1, none⟩ = some (.string (stepAt ps i).key) ∧ w.cell? ⟨b, o + i * 3 + 2, none⟩ = some (.int .i64 (stepAt ps i).pl))

theorem StepsIn.below {M S B : Nat} {w w' : World} {v : Value} {ps : List PS} (h : StepsIn M S B w v ps) (hb : Below B w w') : StepsIn M S B w' v ps := by
  obtain ⟨h1, h2, a, cap, e, h3⟩ := h
  refine ⟨h1, h2, a, cap, e, fun hl => ?_⟩
  obtain ⟨b, o, ea, hbB, hc⟩ := h3 hl
  exact ⟨b, o, ea, hbB, fun i hi => ⟨(below_cell hb hbB).trans (hc i hi).1, (below_cell hb hbB).trans (hc i hi).2.1, (below_cell hb hbB).trans (hc i hi).2.2⟩⟩

theorem StepsIn.wide {M S B B' : Nat} {w : World} {v : Value} {ps : List PS} (h : StepsIn M S B w v ps) (hb : B ≤ B') : StepsIn M S B' w v ps := by
  obtain ⟨h1, h2, a, cap, e, h3⟩ := h
  refine ⟨h1, h2, a, cap, e, fun hl => ?_⟩
  obtain ⟨b, o, ea, hbB, hc⟩ := h3 hl
  exact ⟨b, o, ea, by omega, hc⟩

theorem StepsIn.fit {M S B M' S' : Nat} {w : World} {v : Value} {ps : List PS} (h : StepsIn M S B w v ps) (h1 : ps.length ≤ M') (h2 : ∀ i, i < ps.length → (stepAt ps i).key.size ≤ S') : StepsIn M' S' B w v ps :=
  ⟨h1, fun i hi => ⟨h2 i hi, (h.2.1 i hi).2⟩, h.2.2⟩
end Go.Proofs.Ytbclgogolimbgaa
