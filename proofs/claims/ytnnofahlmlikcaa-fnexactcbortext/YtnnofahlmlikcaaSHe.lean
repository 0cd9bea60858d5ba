/-
  The specification's l3Head: a head.
-/
import Derived.Test.YtnnofahlmlikcaaSHd2
import Derived.Test.YtnnofahlmlikcaaSPkW
import Derived.Test.YtnnofahlmlikcaaStepN
namespace Go.Proofs.Ytnnofahlmlikcaa
open Go.RowKit Go.WideShapes
set_option linter.unusedSimpArgs false
set_option linter.unusedVariables false

set_option maxRecDepth 100000 in
set_option maxHeartbeats 6400000 in
theorem l3Head_4 (k : Nat) (n : Int) (w : World) (hk : k ≤ 6) (h0 : 65536 ≤ n) (h1 : n < 4294967296) : Calls Try.prog 45 #[.int .i64 k, .int .i64 n] w fun e w' => e = .returned (.string (txt (headC k n))) ∧ Below w.heap.size w w' := by
  have hk1 : 32 * (k : Int) ≤ 192 := by omega
  have HE := hideB (show headC k n = byI (32 * (k : Int) + 26) :: bigB n 4 from headC_big (k := k) (n := n) (by omega) (st := 2) (by unfold stepI; rw [if_neg (by omega), if_neg (by omega), if_pos (by omega)]) (by congr 1))
  have hc1 := one_int (n := 32 * (k : Int) + 26) (by omega) (by omega)
  have KQ1 := hideB (kept_drew (n := 32 * (k : Int) + 26) (by omega) (by omega))
  have KQ2 := hideB (kept_plain (n := 32 * (k : Int) + 26) (by omega) (by omega))
  have hc2 : ∀ w : World, (convert 42 9 (.slice (some ⟨w.heap.size, 0, none⟩) 1 1)).run Try.prog (w.alloc (.cells #[.int .u8 (32 * (k : Int) + 26)] 5)).drew = .ok (.string (txt [byI (32 * (k : Int) + 26)])) (w.alloc (.cells #[.int .u8 (32 * (k : Int) + 26)] 5)).drew := fun w => one_kept (by omega) (by omega) _ _ (by simp)
  have hz : (txt (bigB n 4)).size = 4 := by rw [txt_size, bigB_len]
  have e1 : IntKind.i64.wrap (32 * (k : Int)) = 32 * (k : Int) := i64_wrap (by omega) (by omega)
  have e2 : IntKind.i64.wrap (32 * (k : Int) + 26) = 32 * (k : Int) + 26 := i64_wrap (by omega) (by omega)
  have e3 : IntKind.u8.wrap (32 * (k : Int) + 26) = 32 * (k : Int) + 26 := u8_wrap (by omega) (by omega)
  have hz1 : ∀ x, (txt [x]).size = 1 := fun x => txt_size [x]
  go_enter Try.func45, Try.ntmps45
  go_wp2_with fail
  go_region_law (refine step_call2 (by rfl) 57 _ _ _ _ (by rfl) (.int .i64 n) (.int .i64 4) (by rfl) (by rfl) (call_big _ _) (l3Big_any n 4 _ (by omega) (by omega) (by omega)) ?_; rintro e w1 ⟨rfl, hb1⟩; first | (have hq := KQ1.out _ _ hb1) | (have hq := KQ2.out _ _ hb1) | skip; refine ⟨_, rfl, ?_⟩)
  all_goals (
    go_wp2_with fail
    go_ret
    refine ⟨by rw [HE.out]; exact ret_str (txt_app [_] _), ?_⟩
    first
      | exact ((((Below.refl _ _).alloc (Nat.le_refl _) _).drew).trans (hb1.mono (by simp)))
      | exact (((Below.refl _ _).drew.trans hb1).alloc hb1.size _)
      | exact ((((Below.refl _ _).drew.trans hb1).alloc hb1.size _).drew)
      | exact (Below.refl _ _).drew.trans ((((Below.refl _ _).alloc (Nat.le_refl _) _)).trans (hb1.mono (by simp))))
end Go.Proofs.Ytnnofahlmlikcaa

/-
  The specification's l3Head: a head.
-/
namespace Go.Proofs.Ytnnofahlmlikcaa
open Go.RowKit Go.WideShapes
set_option linter.unusedSimpArgs false
set_option linter.unusedVariables false

set_option maxRecDepth 100000 in
set_option maxHeartbeats 6400000 in
theorem l3Head_8 (k : Nat) (n : Int) (w : World) (hk : k ≤ 6) (h0 : 4294967296 ≤ n) (h1 : n ≤ 9223372036854775807) : Calls Try.prog 45 #[.int .i64 k, .int .i64 n] w fun e w' => e = .returned (.string (txt (headC k n))) ∧ Below w.heap.size w w' := by
  have hk1 : 32 * (k : Int) ≤ 192 := by omega
  have HE := hideB (show headC k n = byI (32 * (k : Int) + 27) :: bigB n 8 from headC_big (k := k) (n := n) (by omega) (st := 3) (by unfold stepI; rw [if_neg (by omega), if_neg (by omega), if_neg (by omega)]) (by congr 1))
  have hc1 := one_int (n := 32 * (k : Int) + 27) (by omega) (by omega)
  have KQ1 := hideB (kept_drew (n := 32 * (k : Int) + 27) (by omega) (by omega))
  have KQ2 := hideB (kept_plain (n := 32 * (k : Int) + 27) (by omega) (by omega))
  have hc2 : ∀ w : World, (convert 42 9 (.slice (some ⟨w.heap.size, 0, none⟩) 1 1)).run Try.prog (w.alloc (.cells #[.int .u8 (32 * (k : Int) + 27)] 5)).drew = .ok (.string (txt [byI (32 * (k : Int) + 27)])) (w.alloc (.cells #[.int .u8 (32 * (k : Int) + 27)] 5)).drew := fun w => one_kept (by omega) (by omega) _ _ (by simp)
  have hz : (txt (bigB n 8)).size = 8 := by rw [txt_size, bigB_len]
  have e1 : IntKind.i64.wrap (32 * (k : Int)) = 32 * (k : Int) := i64_wrap (by omega) (by omega)
  have e2 : IntKind.i64.wrap (32 * (k : Int) + 27) = 32 * (k : Int) + 27 := i64_wrap (by omega) (by omega)
  have e3 : IntKind.u8.wrap (32 * (k : Int) + 27) = 32 * (k : Int) + 27 := u8_wrap (by omega) (by omega)
  have hz1 : ∀ x, (txt [x]).size = 1 := fun x => txt_size [x]
  go_enter Try.func45, Try.ntmps45
  go_wp2_with fail
  go_region_law (refine step_call2 (by rfl) 57 _ _ _ _ (by rfl) (.int .i64 n) (.int .i64 8) (by rfl) (by rfl) (call_big _ _) (l3Big_any n 8 _ (by omega) (by omega) (by omega)) ?_; rintro e w1 ⟨rfl, hb1⟩; first | (have hq := KQ1.out _ _ hb1) | (have hq := KQ2.out _ _ hb1) | skip; refine ⟨_, rfl, ?_⟩)
  all_goals (
    go_wp2_with fail
    go_ret
    refine ⟨by rw [HE.out]; exact ret_str (txt_app [_] _), ?_⟩
    first
      | exact ((((Below.refl _ _).alloc (Nat.le_refl _) _).drew).trans (hb1.mono (by simp)))
      | exact (((Below.refl _ _).drew.trans hb1).alloc hb1.size _)
      | exact ((((Below.refl _ _).drew.trans hb1).alloc hb1.size _).drew)
      | exact (Below.refl _ _).drew.trans ((((Below.refl _ _).alloc (Nat.le_refl _) _)).trans (hb1.mono (by simp))))
end Go.Proofs.Ytnnofahlmlikcaa

/-
  The specification's l3Head, at every number.
-/
namespace Go.Proofs.Ytnnofahlmlikcaa
open Go.RowKit Go.WideShapes

theorem l3Head_any (k : Nat) (n : Int) (w : World) (hk : k ≤ 6) (h0 : 0 ≤ n) (h1 : n ≤ 9223372036854775807) : Calls Try.prog 45 #[.int .i64 k, .int .i64 n] w fun e w' => e = .returned (.string (txt (headC k n))) ∧ Below w.heap.size w w' := by
  by_cases a : n < 24
  · exact l3Head_low k n w hk h0 a
  by_cases b : n < 256
  · exact l3Head_1 k n w hk (by omega) b
  by_cases c : n < 65536
  · exact l3Head_2 k n w hk (by omega) c
  by_cases e : n < 4294967296
  · exact l3Head_4 k n w hk (by omega) e
  · exact l3Head_8 k n w hk (by omega) h1
end Go.Proofs.Ytnnofahlmlikcaa
