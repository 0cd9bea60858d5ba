import Derived.Test.YtehihemfepbmfaaGreatDoorVAt
import Derived.Lib.ItoaLen
import Derived.Test.YtehihemfepbmfaaGreatDoorSDig
import Derived.Test.YtehihemfepbmfaaGreatDoorSpc3
namespace Go.Proofs.YtehihemfepbmfaaGreatDoor
set_option linter.unusedSectionVars false
open Go.RowKit
set_option linter.unusedSimpArgs false
set_option linter.unusedVariables false
theorem Xvx (u : Nat) : 1 ≤ (Lib.decDigits u).length := by
 rw [Lib.decDigits]
 split <;> simp
theorem Xsc (n : Int) : 1 ≤ (Lib.itoa n).length := by
 unfold Lib.itoa
 split
 ·simp
 ·exact Xvx _
theorem Xgi {vs : List VN} (hok : okB vs = true) (lines : Bool) (f deep : Nat) {i : Nat} (hi : i < vs.length) : 1 ≤ (Ym lines (f + 1) deep (Yr vs (f + 1) i)).length := by
 rw [Yr]
 have hl := Z9 lines f deep (kind := (Xc vs i).kind) (n := (Xc vs i).n) (s := (Xc vs i).s) (keys := (Xc vs i).keys) (kids := (Xc vs i).kids.map fun k => Yr vs f k.toNat)
 rcases Xa8 hok hi with k | ⟨k, _⟩ | ⟨k, _⟩ | ⟨k, _⟩ | k | ⟨k, _⟩
 ·rw [hl.1 k]; simp
 ·rw [hl.2.1 k]; split <;> simp
 ·rw [hl.2.2.1 k]; exact Xsc _
 ·rw [hl.2.2.2.1 k]; have := (U1 (Xc vs i).s).1; omega
 ·rw [hl.2.2.2.2.1 k]; simp
 ·rw [hl.2.2.2.2.2 k]; simp
theorem Xsd {vs : List VN} (hok : okB vs = true) (lines : Bool) : ∀ (f deep i : Nat) (sh : Nat), i < vs.length → i < f → deep + i ≤ 100 → (Ym lines f deep (Yr vs f i)).length + 600 ≤ 1200 * (Ux f (Yr vs f i) sh).length := by
 intro f
 induction f with
 | zero => intro deep i sh hi hf; omega
 | succ f ih =>
  intro deep i sh hi hf hd
  rw [Yr]
  have hl := Z9 lines f deep (kind := (Xc vs i).kind) (n := (Xc vs i).n) (s := (Xc vs i).s) (keys := (Xc vs i).keys) (kids := (Xc vs i).kids.map fun k => Yr vs f k.toNat)
  rw [Xwe]
  have hkid : ∀ (named : Bool), (named = true → ∀ j, j < (Xc vs i).kids.length → (Xr (Xc vs i).keys j).size ≤ 60) → ∀ k, k ≤ (Xc vs i).kids.length →
    (Q9 (Ym lines f (deep + 1)) lines named deep (Xc vs i).keys ((Xc vs i).kids.map fun k => Yr vs f k.toNat) k).length ≤ 1200 * (Xb1 f sh ((Xc vs i).kids.map fun k => Yr vs f k.toNat) k).length := by
   intro named hkey k
   induction k with
   | zero => intro _; simp [Q9]
   | succ k ihk =>
    intro hk
    have h1 := ihk (by omega)
    rw [Q9, Xp6 f sh (by rw [List.length_map]; omega)]
    simp only [List.length_append]
    rw [Xed (by omega)]
    obtain ⟨_, p2, _, _⟩ := Ko hok
    have hki := Ug (p2 i hi).2 (j := k) (by omega)
    have h2 := ih (deep + 1) (Xk (Xc vs i).kids k).toNat (sh + (Xb1 f sh ((Xc vs i).kids.map fun k => Yr vs f k.toNat) k).length) (by omega) (by omega) (by omega)
    have h3 : (if named = true then Xct lines (Xr (Xc vs i).keys k) else []).length ≤ 364 := by
     cases named
     ·simp
     ·have := Xsa lines (Xr (Xc vs i).keys k)
      have := hkey rfl k (by omega)
      simp only [if_true]; omega
    have h4 : (if k = 0 then ([] : List UInt8) else [44]).length ≤ 1 := by split <;> simp
    have h5 := Xcu lines (deep + 1)
    omega
  have hw : ∀ (named : Bool), (named = true → ∀ j, j < (Xc vs i).kids.length → (Xr (Xc vs i).keys j).size ≤ 60) →
    (Jq (Ym lines f (deep + 1)) lines named deep (Xc vs i).keys ((Xc vs i).kids.map fun k => Yr vs f k.toNat)).length ≤ 1200 * (Xb1 f sh ((Xc vs i).kids.map fun k => Yr vs f k.toNat) (Xc vs i).kids.length).length + 201 := by
   intro named hkey
   have h1 := hkid named hkey _ (Nat.le_refl _)
   have h2 := Xcu lines deep
   unfold Jq
   rw [List.length_map]
   split
   ·simp
   ·rw [List.length_append]; omega
  simp only [List.length_append, List.length_cons, List.length_nil, List.length_map]
  rcases Xa8 hok hi with k | ⟨k, _⟩ | ⟨k, h1, h2⟩ | ⟨k, hs⟩ | k | ⟨k, hkk, hks⟩
  ·rw [hl.1 k]; simp; omega
  ·rw [hl.2.1 k]; split <;> (simp; omega)
  ·rw [hl.2.2.1 k]; have := Lib.itoa_length_le (Xc vs i).n (by omega) (by omega); omega
  ·rw [hl.2.2.2.1 k]; have := (U1 (Xc vs i).s).2; omega
  ·rw [hl.2.2.2.2.1 k]
   have h2 := hw false (by simp)
   simp only [List.length_append, List.length_cons, List.length_nil] at h2 ⊢
   omega
  ·rw [hl.2.2.2.2.2 k]
   have h2 := hw true (fun _ j hj => hks j (by omega))
   simp only [List.length_append, List.length_cons, List.length_nil] at h2 ⊢
   omega
theorem Xmi {vs : List VN} (hok : okB vs = true) (lines : Bool) {f i : Nat} (hi : i < vs.length) (hf : i < f) : (Ym lines f 0 (Yr vs f i)).length ≤ 100000 := by
 obtain ⟨p1, _⟩ := Ko hok
 have h1 := Xsd hok lines f 0 i 0 hi hf (by omega)
 have h2 := Xuk hok hf hi
 rw [h2.1] at h1
 have := h2.2
 omega

open Go.RowKit Go.WideShapes

open Go.RowKit Go.WideShapes
end Go.Proofs.YtehihemfepbmfaaGreatDoor
