/-
  The order of texts by their places, and the program's sortedPlaces.
-/
import Derived.Test.YthoeockngjmipaaStbA
import Derived.Test.YthoeockngjmipaaOrdP
import Derived.Test.YthoeockngjmipaaTo
namespace Go.Proofs.Ythoeockngjmipaa
open Go.RowKit
set_option linter.unusedSimpArgs false
set_option linter.unusedVariables false

/-- The texts at two places, held against each other. -/
def cfK (l : List ByteArray) (x y : Int) : Int := cmpS (keyAt l x.toNat) (keyAt l y.toNat)
def RK (l : List ByteArray) (x y : Int) : Prop := cfK l x y < 0 ∨ (cfK l x y = 0 ∧ x < y)

theorem rk_tot (l : List ByteArray) : Tot (RK l) := by
  have r3 : ∀ a b, R3 (cfK l a b) := fun a b => cmpS_r3 _ _
  have fl : ∀ a b, cfK l b a = -cfK l a b := fun a b => cmpS_flip _ _
  have tr : ∀ a b c, Tri (cfK l a b) (cfK l b c) (cfK l a c) := fun a b c => cmpS_tri _ _ _
  refine ⟨fun x y z h1 h2 => ?_, fun x y h1 h2 => ?_, fun x y h => ?_⟩
  · have t := tr x y z
    have a1 := r3 x y
    have a2 := r3 y z
    unfold RK at *
    unfold Tri comb at t
    unfold R3 at a1 a2
    rcases h1 with h1 | ⟨h1, h1'⟩ <;> rcases h2 with h2 | ⟨h2, h2'⟩
    · left
      have := t (by omega) (by omega)
      rw [this]; split <;> omega
    · left
      have := t (by omega) (by omega)
      rw [this]; split <;> omega
    · left
      have := t (by omega) (by omega)
      rw [this]; split <;> omega
    · right
      have := t (by omega) (by omega)
      refine ⟨?_, by omega⟩
      rw [this]; split <;> omega
  · have := fl x y
    unfold RK at h1 h2
    omega
  · have := fl x y
    unfold RK
    rcases Int.lt_or_gt_of_ne h with c | c
    · by_cases e : cfK l x y < 0
      · exact Or.inl (Or.inl e)
      · by_cases e2 : cfK l x y = 0
        · exact Or.inl (Or.inr ⟨e2, c⟩)
        · exact Or.inr (Or.inl (by omega))
    · by_cases e : cfK l y x < 0
      · exact Or.inr (Or.inl e)
      · by_cases e2 : cfK l y x = 0
        · exact Or.inr (Or.inr ⟨e2, c⟩)
        · exact Or.inl (Or.inl (by omega))

theorem rk_cross (l : List ByteArray) : ∀ x y : Int, x < y → (cfK l y x < 0 ↔ RK l y x) := fun x y h => by
  unfold RK
  constructor
  · exact Or.inl
  · rintro (h | h)
    · exact h
    · omega
end Go.Proofs.Ythoeockngjmipaa
