/-
  PathOk of the specification and of the program: both say the same of every path.
-/
import Derived.Test.YtbclgogolimbgaaPsZ
import Derived.Test.YtbclgogolimbgaaSpc1
import Derived.Test.YtbclgogolimbgaaImp1
namespace Go.Proofs.Ytbclgogolimbgaa
open Go.RowKit
set_option linter.unusedSimpArgs false
set_option linter.unusedVariables false

theorem stepB_named {x : PS} (h : x.named = true) : stepB x = (textB x.key && decide (x.pl = 0)) := by simp [stepB, h]
theorem stepB_plain {x : PS} (h : x.named = false) : stepB x = (decide (x.key.toList = []) && inB x.pl 0 80) := by simp [stepB, h, inB]

set_option maxHeartbeats 1600000 in
theorem stepOk_any (x : PS) (w : World) (hs : x.key.size ≤ 140737488355328) :
    Calls Try.prog 49 #[.agg #[.bool x.named, .string x.key, .int .i64 x.pl]] w fun e w' => e = .returned (.bool (stepB x)) ∧ Below w.heap.size w w' := by
  have hw1 : ∀ o, Below w.heap.size w (w.alloc o) := fun o => (Below.refl _ _).alloc (Nat.le_refl _) o
  cases hn : x.named
  · have HB := hideIt (stepB_plain hn)
    go_enter Try.func49, Try.ntmps49
    go_wp2_with fail
    all_goals
      go_ret
      refine ⟨ret_bool ?_, hw1 _⟩
      rw [HB.out]
      go_light
      simp_all [inB] <;> omega
  · have HB := hideIt (stepB_named hn)
    go_enter Try.func49, Try.ntmps49
    go_wp2_with (go_at_call 84; refine (textOk_any _ _ hs).mono ?_; rintro e w' ⟨rfl, rfl⟩)
    all_goals
      go_ret
      refine ⟨ret_bool ?_, hw1 _⟩
      rw [HB.out]
      go_light
      simp_all <;> (rw [Bool.eq_iff_iff]; simp)

set_option maxHeartbeats 1600000 in
theorem implPathOk_any (B : Nat) (v : Value) (ps : List PS) (w : World) (h : StepsAt B w v ps) (hB : B ≤ w.heap.size) :
    Calls Try.prog 15 #[v] w fun e w' => e = .returned (.bool (pathB ps)) ∧ Below w.heap.size w w' := by
  obtain ⟨hlen, hfit, a, cap, rfl, hcell⟩ := h
  have HC := hideIt hcell
  have HF := hideIt hfit
  clear hcell hfit
  by_cases h10 : 10 < ps.length
  · have HO : Hid (pathB ps = false) := by rw [Hid, pathB, decide_eq_false (by omega)]; rfl
    have h10' : (10 : Int) < (ps.length : Int) := by omega
    go_enter Try.func15, Try.ntmps15
    go_wp2_with fail
    go_ret
    exact ⟨ret_bool HO.out.symm, Below.refl _ _⟩
  have h10' : ¬ (10 : Int) < (ps.length : Int) := by omega
  go_enter Try.func15, Try.ntmps15
  go_wp2_with fail
  go_loopw [10] (fun i wr => ∃ (k : Nat), k ≤ ps.length ∧ i = .int .i64 k ∧ (∀ j, j < k → stepB (stepAt ps j) = true) ∧ Below w.heap.size w wr) (fun i _ => ps.length - (intOf i).toNat)
  case atStart => exact ⟨0, Nat.zero_le _, rfl, fun j hj => by omega, Below.refl _ _⟩
  case round =>
    obtain ⟨k, hk, rfl, hall, hbel⟩ := hrel
    have HA := hideIt hall
    clear hall
    have hsize := hbel.size
    by_cases hlt : k < ps.length
    · obtain ⟨b, o, rfl, hbB, hc⟩ := HC.out (by omega)
      obtain ⟨hc0, hc1, hc2⟩ := hc k hlt
      have c0 := (below_cell (hbel.mono hB) hbB).trans hc0
      have c1 := (below_cell (hbel.mono hB) hbB).trans hc1
      have c2 := (below_cell (hbel.mono hB) hbB).trans hc2
      have hs := (HF.out k hlt).1
      clear hc hc0 hc1 hc2
      go_wp2_with fail
      refine (stepOk_any (stepAt ps k) _ (by omega)).mono ?_
      rintro e w1 ⟨rfl, hb1⟩
      have hb2 : Below w.heap.size w w1 := (hbel.alloc hsize _).trans (hb1.mono (by simp; omega))
      clear hb1
      cases hst : stepB (stepAt ps k)
      · have HO := hideIt (pathB_false hlt hst)
        go_wp2_with fail
        go_ret
        exact ⟨ret_bool HO.out.symm, hb2⟩
      · have HA1 : Hid (∀ j, j < k + 1 → stepB (stepAt ps j) = true) := by
          intro j hj
          by_cases e : j = k
          · subst e; exact hst
          · exact HA.out j (by omega)
        go_wp2_with fail
        go_roundw
        case rel => exact ⟨k + 1, by omega, by go_num, HA1.out, hb2⟩
        case measure => simp [intOf]; omega
    · obtain rfl : k = ps.length := by omega
      have HO : Hid (pathB ps = true) := by rw [Hid, pathB_all HA.out]; simp; omega
      go_wp2_with fail
      go_ret
      exact ⟨ret_bool HO.out.symm, hbel⟩

set_option maxHeartbeats 3200000 in
theorem specPathOk_any (B : Nat) (v : Value) (ps : List PS) (w : World) (h : StepsAt B w v ps) (hB : B ≤ w.heap.size) :
    Calls Try.prog 18 #[v] w fun e w' => e = .returned (.bool (pathB ps)) ∧ Below w.heap.size w w' := by
  obtain ⟨hlen, hfit, a, cap, rfl, hcell⟩ := h
  have HC := hideIt hcell
  have HF := hideIt hfit
  clear hcell hfit
  go_enter Try.func18, Try.ntmps18
  go_wp2_with fail
  go_loopw [3] (fun i wr => ∃ (k : Nat), k ≤ ps.length ∧ i = .int .i64 k ∧ (∀ j, j < k → stepB (stepAt ps j) = true) ∧ Below w.heap.size w wr) (fun i _ => ps.length - (intOf i).toNat)
  case atStart => exact ⟨0, Nat.zero_le _, rfl, fun j hj => by omega, Below.refl _ _⟩
  case round =>
    obtain ⟨k, hk, rfl, hall, hbel⟩ := hrel
    have HA := hideIt hall
    clear hall
    have hsize := hbel.size
    by_cases hlt : k < ps.length
    · obtain ⟨b, o, rfl, hbB, hc⟩ := HC.out (by omega)
      obtain ⟨hc0, hc1, hc2⟩ := hc k hlt
      have c0 := (below_cell (hbel.mono hB) hbB).trans hc0
      have c1 := (below_cell (hbel.mono hB) hbB).trans hc1
      have c2 := (below_cell (hbel.mono hB) hbB).trans hc2
      have hs : (stepAt ps k).key.size ≤ 140737488355328 := by have := (HF.out k hlt).1; omega
      clear hc hc0 hc1 hc2
      have HY : stepB (stepAt ps k) = true → Hid (∀ j, j < k + 1 → stepB (stepAt ps j) = true) := by
        intro hst j hj
        by_cases e : j = k
        · subst e; exact hst
        · exact HA.out j (by omega)
      have HNO : stepB (stepAt ps k) = false → Hid (pathB ps = false) := fun hst => pathB_false hlt hst
      generalize stepAt ps k = x at *
      obtain ⟨nm, ky, pl⟩ := x
      simp only at c0 c1 c2 hs
      cases nm
      · by_cases he : ky.toList = []
        · have hz1 : (ky.toList == []) = true := by simp [he]
          have hz2 : (ky.toList != []) = false := by simp [he]
          cases hi : inB pl 0 80
          · have HR := HNO (by rw [stepB_plain rfl]; simp [hi])
            clear HY HNO
            go_wp2_with fail
            refine (l1In_any _ _ _ _).mono ?_
            rintro e w1 ⟨rfl, rfl⟩
            go_wp2_with fail
            go_ret
            exact ⟨ret_bool HR.out.symm, hbel⟩
          · have HR := HY (by rw [stepB_plain rfl]; simp [hi, he])
            clear HY HNO
            go_wp2_with fail
            refine (l1In_any _ _ _ _).mono ?_
            rintro e w1 ⟨rfl, rfl⟩
            go_wp2_with fail
            go_roundw
            case rel => exact ⟨k + 1, by omega, by go_num, HR.out, hbel⟩
            case measure => simp [intOf]; omega
        · have HR := HNO (by rw [stepB_plain rfl]; simp [he])
          have hz1 : (ky.toList == []) = false := by simpa using he
          have hz2 : (ky.toList != []) = true := by simpa using he
          clear HY HNO
          go_wp2_with fail
          go_ret
          exact ⟨ret_bool HR.out.symm, hbel⟩
      · by_cases he : pl = 0
        · subst he
          cases hi : textB ky
          · have HR := HNO (by rw [stepB_named rfl]; simp [hi])
            clear HY HNO
            go_wp2_with fail
            refine (l1Text_any _ _ hs).mono ?_
            rintro e w1 ⟨rfl, rfl⟩
            go_wp2_with fail
            go_ret
            exact ⟨ret_bool HR.out.symm, hbel⟩
          · have HR := HY (by rw [stepB_named rfl]; simp [hi])
            clear HY HNO
            go_wp2_with fail
            refine (l1Text_any _ _ hs).mono ?_
            rintro e w1 ⟨rfl, rfl⟩
            go_wp2_with fail
            go_roundw
            case rel => exact ⟨k + 1, by omega, by go_num, HR.out, hbel⟩
            case measure => simp [intOf]; omega
        · have HR := HNO (by rw [stepB_named rfl]; simp [he])
          have hz1 : (pl == 0) = false := by simpa using he
          have hz2 : (pl != 0) = true := by simpa using he
          clear HY HNO
          go_wp2_with fail
          go_ret
          exact ⟨ret_bool HR.out.symm, hbel⟩
    · obtain rfl : k = ps.length := by omega
      have HO := hideIt (pathB_all HA.out)
      go_wp2_with fail
      go_ret
      exact ⟨ret_bool (by rw [HO.out]; simp; omega), hbel⟩
end Go.Proofs.Ytbclgogolimbgaa
