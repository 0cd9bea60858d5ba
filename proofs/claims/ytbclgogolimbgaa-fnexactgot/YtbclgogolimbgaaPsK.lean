/-
  The laws' marks of steps.
-/
import Derived.Test.YtbclgogolimbgaaPsZ
import Derived.Test.YtbclgogolimbgaaMark
namespace Go.Proofs.Ytbclgogolimbgaa
open Go.RowKit
set_option linter.unusedSimpArgs false
set_option linter.unusedVariables false

set_option maxRecDepth 100000 in
set_option maxHeartbeats 3200000 in
theorem markPStepS_any (lo b n cap k : Nat) (a : Option Addr) (w : World) (ha : 0 < n → a = some ⟨b, 0, none⟩ ∧ lo ≤ b ∧ b < w.heap.size ∧ WRow w b (n * 3)) (hlo : lo ≤ w.heap.size) (hn : n ≤ 1048576) (hk0 : 1 ≤ k) (hk : k < 10 ^ 16) :
    Calls Try.prog 26 #[.slice a n cap, .int .i64 k] w fun e w' => e = .returned (.int .i64 (k + n * 3 : Nat)) ∧ (0 < n → WRow w' b (n * 3)) ∧ Only (fun c => 0 < n ∧ c = b) w w' ∧ Below lo w w' := by
  have HA := hideIt ha
  clear ha
  go_enter Try.func26, Try.ntmps26
  go_wp2_with fail
  go_loopw [1, 5] (fun q i wr => ∃ c : Nat, c ≤ n ∧ q = .int .i64 (k + c * 3 : Nat) ∧ i = .int .i64 c ∧ (0 < n → WRow wr b (n * 3)) ∧ Only (fun c => 0 < n ∧ c = b) w wr ∧ Below lo w wr) (fun _ i _ => n - (intOf i).toNat)
  case atStart => exact ⟨0, Nat.zero_le _, by simp, rfl, fun h => (HA.out h).2.2.2, Only.refl _ _, Below.refl _ _⟩
  case round =>
    obtain ⟨c, hc, rfl, rfl, hw, ho, hbl⟩ := hrel
    have HO := hideIt ho
    have zs := hbl.size
    by_cases hlt : c < n
    · have HW := hideIt (hw (by omega))
      clear hw ho
      obtain ⟨rfl, hlob, hbs, _⟩ := HA.out (by omega)
      obtain ⟨⟨u0, r0⟩, f0⟩ := HW.out (c * 3) (by omega)
      obtain ⟨o, hoo⟩ : ∃ o, k + c * 3 = o := ⟨_, rfl⟩
      have ob : 1 ≤ o ∧ o < 10 ^ 17 := by omega
      have HOO := hideIt hoo
      rw [hoo]
      clear hoo
      have hbz : b < wr.heap.size := by have := HO.out.1; omega
      go_wp2_with fail
      rw [show ((o : Int) + 1) = ((o + 1 : Nat) : Int) by omega]
      refine (markText_any (o + 1) _ (by omega) (by omega)).mono ?_
      rintro e w1 ⟨rfl, hb1⟩
      generalize Value.bool ((o : Int) % 3 == 0) = v0 at *
      have hz1 := hb1.size
      simp only [World.size_setCell] at hz1
      have HW1 := hideIt ((HW.out.set ⟨b, c * 3, none⟩ v0).below hb1 (by simpa using hbz))
      have HO1 := hideIt ((HO.out.trans (Only.set (P := fun c => 0 < n ∧ c = b) _ ⟨by omega, rfl⟩ v0)).trans (Only.of_below hb1))
      have HB1 := hideIt ((hbl.setCell (p := ⟨b, c * 3, none⟩) hlob v0).trans (hb1.mono (by simp; omega)))
      obtain ⟨⟨u1, r1⟩, f1⟩ := HW1.out (c * 3 + 1) (by omega)
      have HW2 := hideIt (HW1.out.set ⟨b, c * 3 + 1, none⟩ (.string (markOf (o + 1))))
      obtain ⟨⟨u2, r2⟩, f2⟩ := HW2.out (c * 3 + 2) (by omega)
      clear hb1
      go_wp2_with fail
      go_roundw
      case rel =>
        refine ⟨c + 1, by omega, by rw [← HOO.out]; go_num, by go_num, fun _ => HW2.out.set _ _, (HO1.out.trans (Only.set (P := fun c => 0 < n ∧ c = b) _ ⟨by omega, rfl⟩ _)).trans (Only.set (P := fun c => 0 < n ∧ c = b) _ ⟨by omega, rfl⟩ _), (HB1.out.setCell hlob _).setCell hlob _⟩
      case measure => simp [intOf]; omega
    · obtain rfl : c = n := by omega
      go_wp2_with fail
      go_ret
      exact ⟨rfl, hw, ho, hbl⟩
end Go.Proofs.Ytbclgogolimbgaa
