/-
  The law's own comparison of two paths.
-/
import Derived.Test.YtbclgogolimbgaaPsZ
import Derived.Deep.QuietTactic
import Derived.BigQuiet
import Derived.Laws.StructEq
import Derived.Lib.Strings
namespace Go.Proofs.Ytbclgogolimbgaa
open Go.RowKit
set_option linter.unusedSimpArgs false
set_option linter.unusedVariables false

theorem steps_eq {a b : List PS} (hl : a.length = b.length) (h : ∀ j, j < a.length → stepAt a j = stepAt b j) : a = b := by
  refine List.ext_getElem hl fun i h1 h2 => ?_
  have := h i h1
  simpa [stepAt, h1, h2] using this

theorem key_eq {a b : ByteArray} (h : (a.toList == b.toList) = true) : a = b := by
  have e : a.toList = b.toList := eq_of_beq h
  rw [Lib.toList_data, Lib.toList_data] at e
  rw [← Lib.mk_data a, ← Lib.mk_data b, e]

theorem ps_eq {x y : PS} (h1 : x.named = y.named) (h2 : x.key = y.key) (h3 : x.pl = y.pl) : x = y := by
  cases x; cases y; simp_all

theorem steps_ne {a b : List PS} {k : Nat} (h : stepAt a k ≠ stepAt b k) : ¬ a = b := fun e => h (by rw [e])

theorem ret_noP {p : Prop} (h : ¬ p) : ∃ b, Ending.returned (.bool false) = .returned (.bool b) ∧ (b = true ↔ p) := ⟨false, rfl, by simp [h]⟩

set_option maxRecDepth 100000 in
set_option maxHeartbeats 3200000 in
theorem samePath_any (B : Nat) (v1 v2 : Value) (ps qs : List PS) (w : World) (h1 : StepsAt B w v1 ps) (h2 : StepsAt B w v2 qs) (hB : B ≤ w.heap.size) :
    Calls Try.prog 14 #[v1, v2] w fun e w' => (∃ b, e = .returned (.bool b) ∧ (b = true ↔ ps = qs)) ∧ Below w.heap.size w w' := by
  obtain ⟨hlen, hf1, a1, cap1, rfl, hcell1⟩ := h1
  obtain ⟨hlen2, hf2, a2, cap2, rfl, hcell2⟩ := h2
  have HC1 := hideIt hcell1
  have HC2 := hideIt hcell2
  clear hcell1 hcell2 hf1 hf2
  by_cases hl : ps.length = qs.length
  case neg =>
    have hne : ((ps.length : Int) != (qs.length : Int)) = true := by simp; omega
    have HO : Hid (¬ ps = qs) := fun e => hl (by rw [e])
    clear hl
    go_enter Try.func14, Try.ntmps14
    go_wp2_with fail
    go_ret
    exact ⟨ret_noP HO.out, Below.refl _ _⟩
  case pos =>
  obtain ⟨N, hN⟩ : ∃ N, ps.length = N := ⟨_, rfl⟩
  have HN1 := hideIt hN
  have HN2 := hideIt (hl.symm.trans hN)
  rw [← hl, hN]
  rw [hN] at hlen
  clear hl hN hlen2
  have hne : ((N : Int) != (N : Int)) = false := by simp
  go_enter Try.func14, Try.ntmps14
  go_wp2_with fail
  go_loopw [5] (fun i wr => ∃ k : Nat, k ≤ N ∧ i = .int .i64 k ∧ Hid (∀ j, j < k → stepAt ps j = stepAt qs j) ∧ Below w.heap.size w wr) (fun i _ => N - (intOf i).toNat)
  case atStart => exact ⟨0, Nat.zero_le _, rfl, fun j hj => absurd hj (by omega), Below.refl _ _⟩
  case round =>
    obtain ⟨k, hk, rfl, HE, hbel⟩ := hrel
    by_cases hlt : k < N
    case neg =>
      have HO : Hid (ps = qs) := steps_eq (HN1.out.trans HN2.out.symm) (fun j hj => HE.out j (by have := HN1.out; omega))
      go_wp2_with fail
      go_ret
      exact ⟨⟨true, rfl, by simp [HO.out]⟩, hbel⟩
    case pos =>
    obtain ⟨b1, o1, rfl, hb1, hc1⟩ := HC1.out (by have := HN1.out; omega)
    obtain ⟨b2, o2, rfl, hb2, hc2⟩ := HC2.out (by have := HN2.out; omega)
    obtain ⟨c0, c1, c2⟩ := hc1 k (by have := HN1.out; omega)
    obtain ⟨d0, d1, d2⟩ := hc2 k (by have := HN2.out; omega)
    clear hc1 hc2
    obtain ⟨x, hx⟩ : ∃ x, stepAt ps k = x := ⟨_, rfl⟩
    obtain ⟨y, hy⟩ : ∃ y, stepAt qs k = y := ⟨_, rfl⟩
    rw [hx] at c0 c1 c2
    rw [hy] at d0 d1 d2
    have c0 := (below_cell hbel (show b1 < w.heap.size by omega)).trans c0
    have c1 := (below_cell hbel (show b1 < w.heap.size by omega)).trans c1
    have c2 := (below_cell hbel (show b1 < w.heap.size by omega)).trans c2
    have d0 := (below_cell hbel (show b2 < w.heap.size by omega)).trans d0
    have d1 := (below_cell hbel (show b2 < w.heap.size by omega)).trans d1
    have d2 := (below_cell hbel (show b2 < w.heap.size by omega)).trans d2
    have HNE : Hid (x ≠ y → ¬ ps = qs) := fun h => steps_ne (k := k) (by rw [hx, hy]; exact h)
    have HEQ : Hid (x = y → ∀ j, j < k + 1 → stepAt ps j = stepAt qs j) := fun h j hj => by
      by_cases e : j = k
      · subst e; rw [hx, hy]; exact h
      · exact HE.out j (by omega)
    clear hx hy
    obtain ⟨xn, xk, xp⟩ := x
    obtain ⟨yn, yk, yp⟩ := y
    simp only at c0 c1 c2 d0 d1 d2
    by_cases q1 : xn = yn
    case neg =>
      have f1 : (xn == yn) = false := by simp [q1]
      have HO := hideIt (HNE.out (fun e => q1 (by injection e)))
      clear q1
      go_wp2_with fail
      go_quiet (fail)
      go_wp2_with fail
      go_ret
      exact ⟨ret_noP HO.out, below_drewN hbel nq⟩
    case pos =>
    subst q1
    by_cases q2 : (xk.toList == yk.toList) = true
    case neg =>
      have f2 : (xk.toList == yk.toList) = false := by simpa using q2
      have HO := hideIt (HNE.out (fun e => q2 (by injection e with _ e; rw [e]; simp)))
      clear q2
      go_wp2_with fail
      go_quiet (fail)
      go_wp2_with fail
      go_ret
      exact ⟨ret_noP HO.out, below_drewN hbel nq⟩
    case pos =>
    by_cases q3 : xp = yp
    case neg =>
      have f3 : (xp == yp) = false := by simp [q3]
      have HO := hideIt (HNE.out (fun e => q3 (by injection e)))
      clear q3
      go_wp2_with fail
      go_quiet (fail)
      go_wp2_with fail
      go_ret
      exact ⟨ret_noP HO.out, below_drewN hbel nq⟩
    case pos =>
    subst q3
    have HE2 := hideIt (HEQ.out (ps_eq rfl (key_eq q2) rfl))
    go_wp2_with fail
    go_quiet (fail)
    go_wp2_with fail
    go_roundw
    case rel => exact ⟨k + 1, by omega, by go_num, HE2, below_drewN hbel nq⟩
    case measure => simp [intOf]; omega
end Go.Proofs.Ytbclgogolimbgaa
