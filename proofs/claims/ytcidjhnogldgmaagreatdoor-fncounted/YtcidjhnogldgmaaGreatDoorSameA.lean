import Derived.Test.YtcidjhnogldgmaaGreatDoorSame
import Derived.Test.YtcidjhnogldgmaaGreatDoorSLen
import Derived.Test.YtcidjhnogldgmaaGreatDoorBigC
namespace Go.Proofs.YtcidjhnogldgmaaGreatDoor
open Go.RowKit
set_option linter.unusedSimpArgs false
set_option linter.unusedVariables false
def SameRows (m n : Nat) (L L' : Nat → List VN) : Prop := m = n ∧ ∀ i, i < m → L i = L' i
set_option maxRecDepth 100000 in
set_option maxHeartbeats 1600000 in
theorem sameAll_any (B : Nat) (u1 u2 : Value) (m n : Nat) (L L' : Nat → List VN) (w : World) (h1 : RowsAt B w u1 m L) (h2 : RowsAt B w u2 n L') (hB : B ≤ w.heap.size) :
    Calls Tryz.prog 11 #[u1, u2] w fun e w' => (∃ b, e = .returned (.bool b) ∧ (b = true ↔ SameRows m n L L')) ∧ Below w.heap.size w w' := by
  obtain ⟨hm, a1, c1, rfl, hc1⟩ := h1
  obtain ⟨hn, a2, c2, rfl, hc2⟩ := h2
  have HC1 := hideIt hc1
  have HC2 := hideIt hc2
  clear hc1 hc2
  by_cases hl : m = n
  case neg =>
    have hne : ((m : Int) != (n : Int)) = true := by simp; omega
    have HO : Hid (¬ SameRows m n L L') := fun e => hl e.1
    clear hl
    go_enter Tryz.func11, Tryz.ntmps11
    go_wp2_with fail
    go_ret
    exact ⟨ret_no HO.out, Below.refl _ _⟩
  case pos =>
  subst hl
  have hne : ((m : Int) != (m : Int)) = false := by simp
  go_enter Tryz.func11, Tryz.ntmps11
  go_wp2_with fail
  go_loopw [5] (fun i wr => ∃ k : Nat, k ≤ m ∧ i = .int .i64 k ∧ Hid (∀ j, j < k → L j = L' j) ∧ Below w.heap.size w wr) (fun i _ => m - (intOf i).toNat)
  case atStart => exact ⟨0, Nat.zero_le _, rfl, fun j hj => absurd hj (by omega), Below.refl _ _⟩
  case round =>
    obtain ⟨k, hk, rfl, HE, hbel⟩ := hrel
    have zs := hbel.size
    by_cases hlt : k < m
    case neg =>
      have HO : Hid (SameRows m m L L') := ⟨rfl, fun j hj => HE.out j (by omega)⟩
      go_wp2_with fail
      go_ret
      exact ⟨⟨true, rfl, by simp only [true_iff]; exact HO.out⟩, hbel⟩
    case pos =>
    obtain ⟨b1, rfl, hb1, hr1⟩ := HC1.out (by omega)
    obtain ⟨b2, rfl, hb2, hr2⟩ := HC2.out (by omega)
    obtain ⟨r1, e1, n1⟩ := hr1 k hlt
    obtain ⟨r2, e2, n2⟩ := hr2 k hlt
    have f1 := (below_cell hbel (show b1 < w.heap.size by omega)).trans e1
    have f2 := (below_cell hbel (show b2 < w.heap.size by omega)).trans e2
    have HN1 := hideIt (n1.below (hbel.mono hB))
    have HN2 := hideIt (n2.below (hbel.mono hB))
    obtain ⟨_, ar1, cr1, rfl, _⟩ := n1
    obtain ⟨_, ar2, cr2, rfl, _⟩ := n2
    clear hr1 hr2 e1 e2
    go_wp2_with fail
    go_region_with (go_at_call 8; refine (same_any B _ _ (L k) (L' k) _ ?_ ?_ ?_).mono ?_; exact HN1.out.below (bsame rfl rfl rfl rfl); exact HN2.out.below (bsame rfl rfl rfl rfl); exact (by simp; omega); rintro e w1 ⟨⟨b, rfl, hb⟩, hq⟩)
    all_goals
      have HB1 : Hid (Below w.heap.size w w1) := hbel.drew.trans (hq.mono (by simpa using zs))
      have HBB := hideIt hb
      clear hb hq
      cases b
      · have HO : Hid (¬ SameRows m m L L') := fun e => by
          have := HBB.out.2 (e.2 k hlt)
          cases this
        go_wp2_with fail
        go_ret
        exact ⟨ret_no HO.out, HB1.out⟩
      · have HE2 : Hid (∀ j, j < k + 1 → L j = L' j) := fun j hj => by
          by_cases e : j = k
          · subst e; exact HBB.out.1 rfl
          · exact HE.out j (by omega)
        go_wp2_with fail
        go_roundw
        case rel => exact ⟨k + 1, by omega, by go_num, HE2, HB1.out⟩
        case measure => simp [intOf]; omega
end Go.Proofs.YtcidjhnogldgmaaGreatDoor
