/-
  The specification's checks of one node of a filter.
-/
import Derived.Test.YtbclgogolimbgaaFImp1
import Derived.Laws.Cover1
namespace Go.Proofs.Ytbclgogolimbgaa
open Go.RowKit
set_option linter.unusedSimpArgs false
set_option linter.unusedVariables false

set_option maxHeartbeats 1600000 in
theorem l5Letter_any (c : Nat) (w : World) (hc : c < 256) :
    Calls Try.prog 112 #[.int .u8 c] w fun e w' => e = .returned (.bool (letN c)) ∧ w' = w := by
  go_enter Try.func112, Try.ntmps112
  go_wp2_with fail
  all_goals
    go_ret
    refine ⟨ret_bool ?_, rfl⟩
    rw [Bool.eq_iff_iff]
    simp [letN]
    omega

set_option maxHeartbeats 1600000 in
theorem l7Name_any (s : ByteArray) (w : World) (hs : s.size ≤ 140737488355328) :
    Calls Try.prog 94 #[.string s] w fun e w' => e = .returned (.bool (nameB s)) ∧ w' = w := by
  by_cases h0 : s.size = 0
  · have hz : (s.toList == []) = true := by simpa using nil_size.2 h0
    have H : Hid (nameB s = false) := by simp [Hid, nameB, h0]
    clear h0
    go_enter Try.func94, Try.ntmps94
    go_wp2
    go_ret
    exact ⟨ret_bool H.out.symm, rfl⟩
  have hz : (s.toList == []) = false := by simpa using fun e => h0 (nil_size.1 e)
  by_cases h60 : 60 < s.size
  · have H : Hid (nameB s = false) := by simp [Hid, nameB]; omega
    have h' : (60 : Int) < (s.size : Int) := by omega
    go_enter Try.func94, Try.ntmps94
    go_wp2
    go_ret
    exact ⟨ret_bool H.out.symm, rfl⟩
  have h' : ¬ (60 : Int) < (s.size : Int) := by omega
  have hp : 0 < s.size := by omega
  have hb0 := byteAt_get hp
  cases hl : letN (byteAt s 0)
  · have H : Hid (nameB s = false) := by rw [Hid, nameB, hl]; simp
    have HB := hideIt hb0
    have HL := hideIt hl
    clear hl hb0
    go_enter Try.func94, Try.ntmps94
    go_wp2_with fail
    refine (l5Letter_any _ w (u8_lt _)).mono ?_
    rintro e w1 ⟨rfl, rfl⟩
    rw [HB.out, HL.out]
    go_wp2_with fail
    go_ret
    exact ⟨ret_bool H.out.symm, rfl⟩
  have HB := hideIt hb0
  have HL := hideIt hl
  clear hl hb0
  go_enter Try.func94, Try.ntmps94
  go_wp2_with fail
  refine (l5Letter_any _ w (u8_lt _)).mono ?_
  rintro e w1 ⟨rfl, rfl⟩
  rw [HB.out, HL.out]
  go_wp2_with fail
  go_loopw [3] (fun i wr => ∃ k : Nat, k ≤ s.size ∧ i = .int .i64 k ∧ Hid (∀ j, j < k → (letN (byteAt s j) || digN (byteAt s j)) = true) ∧ wr = w1) (fun i _ => s.size - (intOf i).toNat)
  case atStart => exact ⟨0, Nat.zero_le _, rfl, fun j h => absurd h (by omega), rfl⟩
  case round =>
    obtain ⟨k, hk, rfl, HA, rfl⟩ := hrel
    by_cases hlt : k < s.size
    · have hbk := hideIt (byteAt_get hlt)
      have HYES : Hid ((letN (byteAt s k) || digN (byteAt s k)) = true → ∀ j, j < k + 1 → (letN (byteAt s j) || digN (byteAt s j)) = true) := fun hc j hj => by
        by_cases e : j = k
        · subst e; exact hc
        · exact HA.out j (by omega)
      have HNO : Hid ((letN (byteAt s k) || digN (byteAt s k)) = false → nameB s = false) := fun hc => nameB_no hlt hc
      go_wp2_with fail
      refine (l5Letter_any _ _ (u8_lt _)).mono ?_
      rintro e w2 ⟨rfl, rfl⟩
      rw [hbk.out]
      cases hc : letN (byteAt s k)
      · have HLC := hideIt hc
        clear hc
        by_cases d1 : s[k].toNat < 48
        · have d1' : (s[k].toNat : Int) < 48 := by omega
          have H : Hid (nameB s = false) := HNO.out (by rw [HLC.out, Bool.false_or, ← hbk.out]; unfold digN; simp; omega)
          go_wp2_with fail
          go_ret
          exact ⟨ret_bool H.out.symm, rfl⟩
        · have d1' : ¬ (s[k].toNat : Int) < 48 := by omega
          by_cases d2 : 57 < s[k].toNat
          · have d2' : (57 : Int) < (s[k].toNat : Int) := by omega
            have H : Hid (nameB s = false) := HNO.out (by rw [HLC.out, Bool.false_or, ← hbk.out]; unfold digN; simp; omega)
            go_wp2_with fail
            go_ret
            exact ⟨ret_bool H.out.symm, rfl⟩
          · have d2' : ¬ (57 : Int) < (s[k].toNat : Int) := by omega
            have HA2 := hideIt (HYES.out (by rw [HLC.out, Bool.false_or, ← hbk.out]; unfold digN; simp; omega))
            go_wp2_with fail
            go_roundw
            case rel => exact ⟨k + 1, by omega, by go_num, HA2, by trivial⟩
            case measure => simp [intOf]; omega
      · have HA2 := hideIt (HYES.out (by rw [hc, Bool.true_or]))
        clear hc
        go_wp2_with fail
        go_roundw
        case rel => exact ⟨k + 1, by omega, by go_num, HA2, by trivial⟩
        case measure => simp [intOf]; omega
    · have H : Hid (nameB s = true) := nameB_yes hp (by omega) HL.out (fun j hj => HA.out j (by omega))
      go_wp2_with fail
      go_ret
      exact ⟨ret_bool H.out.symm, rfl⟩

theorem ret_i {a b : Int} (h : a = b) : Ending.returned (.int .i64 a) = .returned (.int .i64 b) := by rw [h]

set_option maxHeartbeats 3200000 in
theorem l7Kids_any (k : Int) (w : World) :
    Calls Try.prog 93 #[.int .i64 k] w fun e w' => e = .returned (.int .i64 (kidsN k)) ∧ w' = w := by
  go_enter Try.func93, Try.ntmps93
  go_wp2_with fail
  all_goals
    go_ret
    refine ⟨ret_i ?_, rfl⟩
    go_light
    simp_all [kidsN]
end Go.Proofs.Ytbclgogolimbgaa
