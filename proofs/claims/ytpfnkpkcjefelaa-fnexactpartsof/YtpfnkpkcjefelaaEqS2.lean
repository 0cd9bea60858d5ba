/-
  The laws' helper that holds two rows of rows against each other.
-/
import Derived.Test.YtpfnkpkcjefelaaSS
import Derived.Test.YtpfnkpkcjefelaaEq
namespace Go.Proofs.Ytpfnkpkcjefelaa
open Go.RowKit
set_option linter.unusedSimpArgs false
set_option linter.unusedVariables false

set_option maxRecDepth 100000 in
set_option maxHeartbeats 1600000 in
theorem eqVNodeSS_any (B : Nat) (v1 v2 : Value) (m : Nat) (L : Nat → List VN) (w : World) (h1 : RowsAt B w v1 m L) (h2 : RowsAt B w v2 m L) (hB : B ≤ w.heap.size) :
    Calls Try.prog 40 #[v1, v2] w fun e w' => e = .returned (.bool true) ∧ Below w.heap.size w w' := by
  obtain ⟨hm, a1, cap1, rfl, hc1⟩ := h1
  obtain ⟨_, a2, cap2, rfl, hc2⟩ := h2
  have H1 := hideIt hc1
  have H2 := hideIt hc2
  clear hc1 hc2
  have hne : ((m : Int) != (m : Int)) = false := by simp
  go_enter Try.func40, Try.ntmps40
  go_wp2_with fail
  go_loopw [5] (fun i wr => ∃ k : Nat, k ≤ m ∧ i = .int .i64 k ∧ Below w.heap.size w wr) (fun i _ => m - (intOf i).toNat)
  case atStart => exact ⟨0, Nat.zero_le _, rfl, Below.refl _ _⟩
  case round =>
    obtain ⟨k, hk, rfl, hbel⟩ := hrel
    have hsize := hbel.size
    by_cases hlt : k < m
    · obtain ⟨b1, rfl, hb1, hx1⟩ := H1.out (by omega)
      obtain ⟨b2, rfl, hb2, hx2⟩ := H2.out (by omega)
      obtain ⟨r1, e1, n1⟩ := hx1 k hlt
      obtain ⟨r2, e2, n2⟩ := hx2 k hlt
      have c1 := (below_cell hbel (by omega)).trans e1
      have c2 := (below_cell hbel (by omega)).trans e2
      have N1 := hideIt (n1.below (hbel.mono hB))
      have N2 := hideIt (n2.below (hbel.mono hB))
      obtain ⟨_, q1, p1, rfl, _⟩ := n1
      obtain ⟨_, q2, p2, rfl, _⟩ := n2
      clear hx1 hx2 e1 e2
      go_wp2_with fail
      go_region_with (go_at_call 35; refine (eqVNodeS_any B _ _ (L k) _ ?_ ?_ ?_).mono ?_; exact N1.out.below (bsame rfl rfl rfl rfl); exact N2.out.below (bsame rfl rfl rfl rfl); exact (by simp; omega); rintro e w1 ⟨rfl, hq⟩)
      all_goals
        have hb2 : Below w.heap.size w w1 := hbel.drew.trans (hq.mono (by simpa using hsize))
        go_wp2_with fail
        go_roundw
        case rel => exact ⟨k + 1, by omega, by go_num, hb2⟩
        case measure => simp [intOf]; omega
    · go_wp2_with fail
      go_ret
      exact ⟨rfl, hbel⟩

end Go.Proofs.Ytpfnkpkcjefelaa
