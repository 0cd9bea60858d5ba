/-
  slices.BinarySearch among keys that rise: how many are ahead, and whether the key is there.
-/
import Derived.Test.YtbclgogolimbgaaGotP
import Derived.Test.YtbclgogolimbgaaProg
import Derived.Deep.QuietTactic
import Derived.BigQuiet
import Derived.WalkSmall
namespace Go.Proofs.Ytbclgogolimbgaa
open Go.RowKit
set_option linter.unusedSimpArgs false
set_option linter.unusedVariables false

theorem cmpNaN_any (s : ByteArray) (w : World) : Calls Try.prog 122 #[.string s] w fun e w' => e = .returned (.bool false) ∧ w' = w := by
  have f3 : (s.toList == s.toList) = true := by simp
  go_enter Try.func122, Try.ntmps122
  go_wp2_with fail
  go_ret
  exact ⟨by simp, rfl⟩

theorem slNaN_any (s : ByteArray) (w : World) : Calls Try.prog 120 #[.string s] w fun e w' => e = .returned (.bool false) ∧ w' = w := by
  have f3 : (s.toList == s.toList) = true := by simp
  go_enter Try.func120, Try.ntmps120
  go_wp2_with fail
  go_ret
  exact ⟨by simp, rfl⟩

theorem cmpLess_any (a b : ByteArray) (w : World) : Calls Try.prog 119 #[.string a, .string b] w fun e w' => e = .returned (.bool (lessB a b)) ∧ w' = w := by
  go_enter Try.func119, Try.ntmps119
  go_wp2_with (go_at_call 122; refine (cmpNaN_any _ _).mono ?_; rintro e w' ⟨rfl, rfl⟩)
  go_ret
  exact ⟨rfl, rfl⟩

set_option maxRecDepth 100000 in
set_option maxHeartbeats 1600000 in
theorem search_any (B : Nat) (v : Value) (l : List ByteArray) (key : ByteArray) (w : World) (h : StrsAt B w v l) (hr : Rise l) (hl : l.length ≤ 1048576) :
    Calls Try.prog 111 #[v, .string key] w fun e w' => e = .returned (.tuple #[.int .i64 (posK l key : Nat), .bool (hasK l key)]) ∧ w' = w := by
  obtain ⟨_, _, a, cap, rfl, hc⟩ := h
  have HC := hideIt hc
  have HR := hideIt hr
  clear hc hr
  go_enter Try.func111, Try.ntmps111
  go_wp2_with fail
  go_loop [7, 8, 9] (fun p q _ => ∃ i j : Nat, i ≤ j ∧ j ≤ l.length ∧ p = .int .i64 i ∧ q = .int .i64 j ∧ Hid (∀ t, t < i → lessB (keyAt l t) key = true) ∧ Hid (j < l.length → lessB (keyAt l j) key = false)) (fun p q _ => (intOf q).toNat - (intOf p).toNat)
  case atStart => exact ⟨0, l.length, Nat.zero_le _, Nat.le_refl _, rfl, rfl, fun t ht => by omega, fun h => absurd h (by omega)⟩
  case round =>
    obtain ⟨i, j, hij, hjl, rfl, rfl, HL, HG⟩ := hrel
    by_cases hlt : i < j
    · obtain ⟨b, o, rfl, hbB, hcc⟩ := HC.out (by omega)
      obtain ⟨h, hh⟩ : ∃ h : Nat, h = (i + j) / 2 := ⟨_, rfl⟩
      have h1 : i ≤ h := by omega
      have h2 : h < j := by omega
      have hck := hcc h (by omega)
      have p0 : ((i : Int) + (j : Int)) / 2 = (h : Int) := by omega
      have hhl : h < l.length := by omega
      clear hcc hh
      go_wp2_with fail
      refine (cmpLess_any _ _ _).mono ?_
      rintro e w1 ⟨rfl, rfl⟩
      cases hle : lessB (keyAt l h) key
      · have HG2 : Hid (h < l.length → lessB (keyAt l h) key = false) := fun _ => hle
        go_wp2_with fail
        go_round
        case rel => exact ⟨i, h, h1, by omega, rfl, rfl, HL, HG2⟩
        case measure => simp [intOf]; omega
      · have HL2 : Hid (∀ t, t < h + 1 → lessB (keyAt l t) key = true) := fun t ht => by
          by_cases e : t = h
          · subst e; exact hle
          · exact less_trans (HR.out t h (by omega) hhl) hle
        go_wp2_with fail
        go_round
        case rel => exact ⟨h + 1, j, by omega, hjl, by go_num, rfl, HL2, HG⟩
        case measure => simp [intOf]; omega
    · obtain rfl : i = j := by omega
      have HP := hideIt (posK_eq hjl HL.out HG.out)
      by_cases hil : i < l.length
      · obtain ⟨b, o, rfl, hbB, hcc⟩ := HC.out (by omega)
        have hck := hcc i hil
        by_cases he : (keyAt l i).toList = key.toList
        · have HH : Hid (hasK l key = true) := by unfold Hid hasK; rw [HP.out]; simp [hil, he]
          have hz : ((keyAt l i).toList == key.toList) = true := by simp [he]
          clear hcc
          go_wp2_with fail
          go_ret2
          exact ⟨by rw [HH.out, HP.out]; rfl, rfl⟩
        · have HH : Hid (hasK l key = false) := by unfold Hid hasK; rw [HP.out]; simp [hil, he]
          have hz : ((keyAt l i).toList == key.toList) = false := by simpa using he
          clear hcc
          go_wp2_with (go_at_call 120; refine (slNaN_any _ _).mono ?_; rintro e w' ⟨rfl, rfl⟩)
          go_ret2
          exact ⟨by rw [HH.out, HP.out]; rfl, rfl⟩
      · have HH : Hid (hasK l key = false) := by unfold Hid hasK; rw [HP.out]; simp [hil]
        have hil' : ¬ ((i : Int) < (l.length : Int)) := by omega
        go_wp2_with fail
        go_ret2
        exact ⟨by rw [HH.out, HP.out]; rfl, rfl⟩
end Go.Proofs.Ytbclgogolimbgaa
