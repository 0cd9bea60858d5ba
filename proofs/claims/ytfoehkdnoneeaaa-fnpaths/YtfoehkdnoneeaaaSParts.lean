/-
  spec.PartsOf: the rows of the parts' nodes.
-/
import Derived.Test.YtfoehkdnoneeaaaPartP
import Derived.Test.YtfoehkdnoneeaaaSS
namespace Go.Proofs.Ytfoehkdnoneeaaa
open Go.RowKit
set_option linter.unusedSimpArgs false
set_option linter.unusedVariables false

theorem infoRow : (Try.prog.info? 24).map (fun i => (i.zero, i.size, i.bytes)) = some (some (.slice none 0 0), 1, 24) := by kernel_rfl

/-- The root's kids, and their nodes. -/
def rootKids (vs : List VN) : List Int := (nodeAt vs (vs.length - 1)).kids
def PL (vs : List VN) (i : Nat) : List VN := partOf vs (intAt (rootKids vs) i).toNat
def partsN (vs : List VN) : Nat := if okB vs = true then (rootKids vs).length else 0

theorem root_kid {vs : List VN} (hok : okB vs = true) {k : Nat} (hk : k < (rootKids vs).length) : ∃ q : Nat, intAt (rootKids vs) k = (q : Int) ∧ q + 1 < vs.length := by
  obtain ⟨p1, p2, _, _⟩ := okB_parts hok
  have := kidsIn_get (p2 (vs.length - 1) (by omega)).2 hk
  refine ⟨(intAt (rootKids vs) k).toNat, ?_, ?_⟩
  · unfold rootKids; omega
  · unfold rootKids; omega

theorem PL_few {vs : List VN} (hf : ∀ i, i < vs.length → Fits (nodeAt vs i)) : partsN vs ≤ 80 ∧ ∀ i, i < partsN vs → Few (PL vs i) ∧ ∀ j, j < (PL vs i).length → Fits (nodeAt (PL vs i) j) := by
  unfold partsN
  by_cases hok : okB vs = true
  · rw [if_pos hok]
    obtain ⟨p1, _, _, p4⟩ := okB_parts hok
    refine ⟨by have := p4 (vs.length - 1) (by omega); unfold rootKids; omega, fun i hi => ?_⟩
    obtain ⟨q, hq, hql⟩ := root_kid hok hi
    have e : PL vs i = partOf vs q := by unfold PL; rw [hq]; simp
    rw [e]
    have hp := part_fits hok hf (m := q) (by omega)
    exact ⟨⟨(lay_part hok (Nat.lt_succ_self q) (by omega)).2, fun j hj => (hp j hj).2⟩, fun j hj => (hp j hj).1⟩
  · rw [if_neg hok]
    exact ⟨by omega, fun i hi => absurd hi (by omega)⟩

end Go.Proofs.Ytfoehkdnoneeaaa
