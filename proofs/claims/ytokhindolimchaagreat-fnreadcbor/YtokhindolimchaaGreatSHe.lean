/-
  The specification's l3Head: a head.
-/
import Derived.Test.YtokhindolimchaaGreatEscP
import Derived.Test.YtokhindolimchaaGreatSPkW
namespace Go.Proofs.YtokhindolimchaaGreat
open Go.RowKit Go.WideShapes
set_option linter.unusedSimpArgs false
set_option linter.unusedVariables false

theorem call_big (u v : Value) : ∀ w, (callFunc 107 #[u, v]).run Tryz.prog w = .ok (.enter 107 #[u, v]) w := fun w => by kernel_rfl
theorem one_kept {n : Int} (h0 : 0 ≤ n) (h1 : n < 256) (w' : World) (g : Nat) (hb : w'.cell? ⟨g, 0, none⟩ = some (.int .u8 n)) : (convert 22 9 (.slice (some ⟨g, 0, none⟩) 1 1)).run Tryz.prog w' = .ok (.string (txt [byI n])) w' := by
  have := run_convert_bytes_back (P := Tryz.prog) w' 22 9 5 ⟨g, 0, none⟩ 1 [byI n] Tryz.underlying22 Tryz.underlying5 Tryz.underlying9 (fun j hj => by
    obtain rfl : j = 0 := by simpa using hj
    rw [add_plain, Nat.zero_add]
    simp [byI_int, Int.emod_eq_of_lt h0 h1, hb])
  exact this

theorem kept_drew {n : Int} (h0 : 0 ≤ n) (h1 : n < 256) (w w1 : World) (hb : Below (w.alloc (.cells #[.int .u8 n] 5)).drew.heap.size (w.alloc (.cells #[.int .u8 n] 5)).drew w1) : (convert 22 9 (.slice (some ⟨w.heap.size, 0, none⟩) 1 1)).run Tryz.prog w1 = .ok (.string (txt [byI n])) w1 :=
  one_kept h0 h1 _ _ ((below_cell hb (by simp)).trans (by simp))
theorem kept_plain {n : Int} (h0 : 0 ≤ n) (h1 : n < 256) (w w1 : World) (hb : Below (w.alloc (.cells #[.int .u8 n] 5)).heap.size (w.alloc (.cells #[.int .u8 n] 5)) w1) : (convert 22 9 (.slice (some ⟨w.heap.size, 0, none⟩) 1 1)).run Tryz.prog w1 = .ok (.string (txt [byI n])) w1 :=
  one_kept h0 h1 _ _ ((below_cell hb (by simp)).trans (by simp))
end Go.Proofs.YtokhindolimchaaGreat

/-
  The specification's l3Head: a head.
-/
namespace Go.Proofs.YtokhindolimchaaGreat
open Go.RowKit Go.WideShapes
set_option linter.unusedSimpArgs false
set_option linter.unusedVariables false

set_option maxRecDepth 100000 in
set_option maxHeartbeats 6400000 in
theorem l3Head_low (k : Nat) (n : Int) (w : World) (hk : k ≤ 6) (h0 : 0 ≤ n) (h1 : n < 24) : Calls Tryz.prog 94 #[.int .i64 k, .int .i64 n] w fun e w' => e = .returned (.string (txt (headC k n))) ∧ Below w.heap.size w w' := by
  have hk1 : 32 * (k : Int) ≤ 192 := by omega
  have HE := hideB (show headC k n = byI (32 * k + n) :: bigB n 0 from headC_low (k := k) h1)
  have hc1 := one_int (n := 32 * (k : Int) + n) (by omega) (by omega)
  have KQ1 := hideB (kept_drew (n := 32 * (k : Int) + n) (by omega) (by omega))
  have KQ2 := hideB (kept_plain (n := 32 * (k : Int) + n) (by omega) (by omega))
  have hc2 : ∀ w : World, (convert 22 9 (.slice (some ⟨w.heap.size, 0, none⟩) 1 1)).run Tryz.prog (w.alloc (.cells #[.int .u8 (32 * (k : Int) + n)] 5)).drew = .ok (.string (txt [byI (32 * (k : Int) + n)])) (w.alloc (.cells #[.int .u8 (32 * (k : Int) + n)] 5)).drew := fun w => one_kept (by omega) (by omega) _ _ (by simp)
  have hz : (txt (bigB n 0)).size = 0 := by rw [txt_size, bigB_len]
  have e1 : IntKind.i64.wrap (32 * (k : Int)) = 32 * (k : Int) := i64_wrap (by omega) (by omega)
  have e2 : IntKind.i64.wrap (32 * (k : Int) + n) = 32 * (k : Int) + n := i64_wrap (by omega) (by omega)
  have e3 : IntKind.u8.wrap (32 * (k : Int) + n) = 32 * (k : Int) + n := u8_wrap (by omega) (by omega)
  have hz1 : ∀ x, (txt [x]).size = 1 := fun x => txt_size [x]
  go_enter Tryz.func94, Tryz.ntmps94
  go_wp2_with fail
  go_region_law (refine step_call2 (by rfl) 107 _ _ _ _ (by rfl) (.int .i64 n) (.int .i64 0) (by rfl) (by rfl) (call_big _ _) (l3Big_any n 0 _ (by omega) (by omega) (by omega)) ?_; rintro e w1 ⟨rfl, hb1⟩; first | (have hq := KQ1.out _ _ hb1) | (have hq := KQ2.out _ _ hb1) | skip; refine ⟨_, rfl, ?_⟩)
  all_goals (
    go_wp2_with fail
    go_ret
    refine ⟨by rw [HE.out]; exact ret_str (txt_app [_] _), ?_⟩
    first
      | exact ((((Below.refl _ _).alloc (Nat.le_refl _) _).drew).trans (hb1.mono (by simp)))
      | exact (((Below.refl _ _).drew.trans hb1).alloc hb1.size _)
      | exact ((((Below.refl _ _).drew.trans hb1).alloc hb1.size _).drew)
      | exact (Below.refl _ _).drew.trans ((((Below.refl _ _).alloc (Nat.le_refl _) _)).trans (hb1.mono (by simp))))
end Go.Proofs.YtokhindolimchaaGreat

/-
  The specification's l3Head: a head.
-/
namespace Go.Proofs.YtokhindolimchaaGreat
open Go.RowKit Go.WideShapes
set_option linter.unusedSimpArgs false
set_option linter.unusedVariables false

set_option maxRecDepth 100000 in
set_option maxHeartbeats 6400000 in
theorem l3Head_1 (k : Nat) (n : Int) (w : World) (hk : k ≤ 6) (h0 : 24 ≤ n) (h1 : n < 256) : Calls Tryz.prog 94 #[.int .i64 k, .int .i64 n] w fun e w' => e = .returned (.string (txt (headC k n))) ∧ Below w.heap.size w w' := by
  have hk1 : 32 * (k : Int) ≤ 192 := by omega
  have HE := hideB (show headC k n = byI (32 * (k : Int) + 24) :: bigB n 1 from headC_big (k := k) (n := n) (by omega) (st := 0) (by unfold stepI; rw [if_pos (by omega)]) (by congr 1))
  have hc1 := one_int (n := 32 * (k : Int) + 24) (by omega) (by omega)
  have KQ1 := hideB (kept_drew (n := 32 * (k : Int) + 24) (by omega) (by omega))
  have KQ2 := hideB (kept_plain (n := 32 * (k : Int) + 24) (by omega) (by omega))
  have hc2 : ∀ w : World, (convert 22 9 (.slice (some ⟨w.heap.size, 0, none⟩) 1 1)).run Tryz.prog (w.alloc (.cells #[.int .u8 (32 * (k : Int) + 24)] 5)).drew = .ok (.string (txt [byI (32 * (k : Int) + 24)])) (w.alloc (.cells #[.int .u8 (32 * (k : Int) + 24)] 5)).drew := fun w => one_kept (by omega) (by omega) _ _ (by simp)
  have hz : (txt (bigB n 1)).size = 1 := by rw [txt_size, bigB_len]
  have e1 : IntKind.i64.wrap (32 * (k : Int)) = 32 * (k : Int) := i64_wrap (by omega) (by omega)
  have e2 : IntKind.i64.wrap (32 * (k : Int) + 24) = 32 * (k : Int) + 24 := i64_wrap (by omega) (by omega)
  have e3 : IntKind.u8.wrap (32 * (k : Int) + 24) = 32 * (k : Int) + 24 := u8_wrap (by omega) (by omega)
  have hz1 : ∀ x, (txt [x]).size = 1 := fun x => txt_size [x]
  go_enter Tryz.func94, Tryz.ntmps94
  go_wp2_with fail
  go_region_law (refine step_call2 (by rfl) 107 _ _ _ _ (by rfl) (.int .i64 n) (.int .i64 1) (by rfl) (by rfl) (call_big _ _) (l3Big_any n 1 _ (by omega) (by omega) (by omega)) ?_; rintro e w1 ⟨rfl, hb1⟩; first | (have hq := KQ1.out _ _ hb1) | (have hq := KQ2.out _ _ hb1) | skip; refine ⟨_, rfl, ?_⟩)
  all_goals (
    go_wp2_with fail
    go_ret
    refine ⟨by rw [HE.out]; exact ret_str (txt_app [_] _), ?_⟩
    first
      | exact ((((Below.refl _ _).alloc (Nat.le_refl _) _).drew).trans (hb1.mono (by simp)))
      | exact (((Below.refl _ _).drew.trans hb1).alloc hb1.size _)
      | exact ((((Below.refl _ _).drew.trans hb1).alloc hb1.size _).drew)
      | exact (Below.refl _ _).drew.trans ((((Below.refl _ _).alloc (Nat.le_refl _) _)).trans (hb1.mono (by simp))))
end Go.Proofs.YtokhindolimchaaGreat

/-
  The specification's l3Head: a head.
-/
namespace Go.Proofs.YtokhindolimchaaGreat
open Go.RowKit Go.WideShapes
set_option linter.unusedSimpArgs false
set_option linter.unusedVariables false

set_option maxRecDepth 100000 in
set_option maxHeartbeats 6400000 in
theorem l3Head_2 (k : Nat) (n : Int) (w : World) (hk : k ≤ 6) (h0 : 256 ≤ n) (h1 : n < 65536) : Calls Tryz.prog 94 #[.int .i64 k, .int .i64 n] w fun e w' => e = .returned (.string (txt (headC k n))) ∧ Below w.heap.size w w' := by
  have hk1 : 32 * (k : Int) ≤ 192 := by omega
  have HE := hideB (show headC k n = byI (32 * (k : Int) + 25) :: bigB n 2 from headC_big (k := k) (n := n) (by omega) (st := 1) (by unfold stepI; rw [if_neg (by omega), if_pos (by omega)]) (by congr 1))
  have hc1 := one_int (n := 32 * (k : Int) + 25) (by omega) (by omega)
  have KQ1 := hideB (kept_drew (n := 32 * (k : Int) + 25) (by omega) (by omega))
  have KQ2 := hideB (kept_plain (n := 32 * (k : Int) + 25) (by omega) (by omega))
  have hc2 : ∀ w : World, (convert 22 9 (.slice (some ⟨w.heap.size, 0, none⟩) 1 1)).run Tryz.prog (w.alloc (.cells #[.int .u8 (32 * (k : Int) + 25)] 5)).drew = .ok (.string (txt [byI (32 * (k : Int) + 25)])) (w.alloc (.cells #[.int .u8 (32 * (k : Int) + 25)] 5)).drew := fun w => one_kept (by omega) (by omega) _ _ (by simp)
  have hz : (txt (bigB n 2)).size = 2 := by rw [txt_size, bigB_len]
  have e1 : IntKind.i64.wrap (32 * (k : Int)) = 32 * (k : Int) := i64_wrap (by omega) (by omega)
  have e2 : IntKind.i64.wrap (32 * (k : Int) + 25) = 32 * (k : Int) + 25 := i64_wrap (by omega) (by omega)
  have e3 : IntKind.u8.wrap (32 * (k : Int) + 25) = 32 * (k : Int) + 25 := u8_wrap (by omega) (by omega)
  have hz1 : ∀ x, (txt [x]).size = 1 := fun x => txt_size [x]
  go_enter Tryz.func94, Tryz.ntmps94
  go_wp2_with fail
  go_region_law (refine step_call2 (by rfl) 107 _ _ _ _ (by rfl) (.int .i64 n) (.int .i64 2) (by rfl) (by rfl) (call_big _ _) (l3Big_any n 2 _ (by omega) (by omega) (by omega)) ?_; rintro e w1 ⟨rfl, hb1⟩; first | (have hq := KQ1.out _ _ hb1) | (have hq := KQ2.out _ _ hb1) | skip; refine ⟨_, rfl, ?_⟩)
  all_goals (
    go_wp2_with fail
    go_ret
    refine ⟨by rw [HE.out]; exact ret_str (txt_app [_] _), ?_⟩
    first
      | exact ((((Below.refl _ _).alloc (Nat.le_refl _) _).drew).trans (hb1.mono (by simp)))
      | exact (((Below.refl _ _).drew.trans hb1).alloc hb1.size _)
      | exact ((((Below.refl _ _).drew.trans hb1).alloc hb1.size _).drew)
      | exact (Below.refl _ _).drew.trans ((((Below.refl _ _).alloc (Nat.le_refl _) _)).trans (hb1.mono (by simp))))
end Go.Proofs.YtokhindolimchaaGreat

/-
  The specification's l3Head: a head.
-/
namespace Go.Proofs.YtokhindolimchaaGreat
open Go.RowKit Go.WideShapes
set_option linter.unusedSimpArgs false
set_option linter.unusedVariables false

set_option maxRecDepth 100000 in
set_option maxHeartbeats 6400000 in
theorem l3Head_4 (k : Nat) (n : Int) (w : World) (hk : k ≤ 6) (h0 : 65536 ≤ n) (h1 : n < 4294967296) : Calls Tryz.prog 94 #[.int .i64 k, .int .i64 n] w fun e w' => e = .returned (.string (txt (headC k n))) ∧ Below w.heap.size w w' := by
  have hk1 : 32 * (k : Int) ≤ 192 := by omega
  have HE := hideB (show headC k n = byI (32 * (k : Int) + 26) :: bigB n 4 from headC_big (k := k) (n := n) (by omega) (st := 2) (by unfold stepI; rw [if_neg (by omega), if_neg (by omega), if_pos (by omega)]) (by congr 1))
  have hc1 := one_int (n := 32 * (k : Int) + 26) (by omega) (by omega)
  have KQ1 := hideB (kept_drew (n := 32 * (k : Int) + 26) (by omega) (by omega))
  have KQ2 := hideB (kept_plain (n := 32 * (k : Int) + 26) (by omega) (by omega))
  have hc2 : ∀ w : World, (convert 22 9 (.slice (some ⟨w.heap.size, 0, none⟩) 1 1)).run Tryz.prog (w.alloc (.cells #[.int .u8 (32 * (k : Int) + 26)] 5)).drew = .ok (.string (txt [byI (32 * (k : Int) + 26)])) (w.alloc (.cells #[.int .u8 (32 * (k : Int) + 26)] 5)).drew := fun w => one_kept (by omega) (by omega) _ _ (by simp)
  have hz : (txt (bigB n 4)).size = 4 := by rw [txt_size, bigB_len]
  have e1 : IntKind.i64.wrap (32 * (k : Int)) = 32 * (k : Int) := i64_wrap (by omega) (by omega)
  have e2 : IntKind.i64.wrap (32 * (k : Int) + 26) = 32 * (k : Int) + 26 := i64_wrap (by omega) (by omega)
  have e3 : IntKind.u8.wrap (32 * (k : Int) + 26) = 32 * (k : Int) + 26 := u8_wrap (by omega) (by omega)
  have hz1 : ∀ x, (txt [x]).size = 1 := fun x => txt_size [x]
  go_enter Tryz.func94, Tryz.ntmps94
  go_wp2_with fail
  go_region_law (refine step_call2 (by rfl) 107 _ _ _ _ (by rfl) (.int .i64 n) (.int .i64 4) (by rfl) (by rfl) (call_big _ _) (l3Big_any n 4 _ (by omega) (by omega) (by omega)) ?_; rintro e w1 ⟨rfl, hb1⟩; first | (have hq := KQ1.out _ _ hb1) | (have hq := KQ2.out _ _ hb1) | skip; refine ⟨_, rfl, ?_⟩)
  all_goals (
    go_wp2_with fail
    go_ret
    refine ⟨by rw [HE.out]; exact ret_str (txt_app [_] _), ?_⟩
    first
      | exact ((((Below.refl _ _).alloc (Nat.le_refl _) _).drew).trans (hb1.mono (by simp)))
      | exact (((Below.refl _ _).drew.trans hb1).alloc hb1.size _)
      | exact ((((Below.refl _ _).drew.trans hb1).alloc hb1.size _).drew)
      | exact (Below.refl _ _).drew.trans ((((Below.refl _ _).alloc (Nat.le_refl _) _)).trans (hb1.mono (by simp))))
end Go.Proofs.YtokhindolimchaaGreat

/-
  The specification's l3Head: a head.
-/
namespace Go.Proofs.YtokhindolimchaaGreat
open Go.RowKit Go.WideShapes
set_option linter.unusedSimpArgs false
set_option linter.unusedVariables false

set_option maxRecDepth 100000 in
set_option maxHeartbeats 6400000 in
theorem l3Head_8 (k : Nat) (n : Int) (w : World) (hk : k ≤ 6) (h0 : 4294967296 ≤ n) (h1 : n ≤ 9223372036854775807) : Calls Tryz.prog 94 #[.int .i64 k, .int .i64 n] w fun e w' => e = .returned (.string (txt (headC k n))) ∧ Below w.heap.size w w' := by
  have hk1 : 32 * (k : Int) ≤ 192 := by omega
  have HE := hideB (show headC k n = byI (32 * (k : Int) + 27) :: bigB n 8 from headC_big (k := k) (n := n) (by omega) (st := 3) (by unfold stepI; rw [if_neg (by omega), if_neg (by omega), if_neg (by omega)]) (by congr 1))
  have hc1 := one_int (n := 32 * (k : Int) + 27) (by omega) (by omega)
  have KQ1 := hideB (kept_drew (n := 32 * (k : Int) + 27) (by omega) (by omega))
  have KQ2 := hideB (kept_plain (n := 32 * (k : Int) + 27) (by omega) (by omega))
  have hc2 : ∀ w : World, (convert 22 9 (.slice (some ⟨w.heap.size, 0, none⟩) 1 1)).run Tryz.prog (w.alloc (.cells #[.int .u8 (32 * (k : Int) + 27)] 5)).drew = .ok (.string (txt [byI (32 * (k : Int) + 27)])) (w.alloc (.cells #[.int .u8 (32 * (k : Int) + 27)] 5)).drew := fun w => one_kept (by omega) (by omega) _ _ (by simp)
  have hz : (txt (bigB n 8)).size = 8 := by rw [txt_size, bigB_len]
  have e1 : IntKind.i64.wrap (32 * (k : Int)) = 32 * (k : Int) := i64_wrap (by omega) (by omega)
  have e2 : IntKind.i64.wrap (32 * (k : Int) + 27) = 32 * (k : Int) + 27 := i64_wrap (by omega) (by omega)
  have e3 : IntKind.u8.wrap (32 * (k : Int) + 27) = 32 * (k : Int) + 27 := u8_wrap (by omega) (by omega)
  have hz1 : ∀ x, (txt [x]).size = 1 := fun x => txt_size [x]
  go_enter Tryz.func94, Tryz.ntmps94
  go_wp2_with fail
  go_region_law (refine step_call2 (by rfl) 107 _ _ _ _ (by rfl) (.int .i64 n) (.int .i64 8) (by rfl) (by rfl) (call_big _ _) (l3Big_any n 8 _ (by omega) (by omega) (by omega)) ?_; rintro e w1 ⟨rfl, hb1⟩; first | (have hq := KQ1.out _ _ hb1) | (have hq := KQ2.out _ _ hb1) | skip; refine ⟨_, rfl, ?_⟩)
  all_goals (
    go_wp2_with fail
    go_ret
    refine ⟨by rw [HE.out]; exact ret_str (txt_app [_] _), ?_⟩
    first
      | exact ((((Below.refl _ _).alloc (Nat.le_refl _) _).drew).trans (hb1.mono (by simp)))
      | exact (((Below.refl _ _).drew.trans hb1).alloc hb1.size _)
      | exact ((((Below.refl _ _).drew.trans hb1).alloc hb1.size _).drew)
      | exact (Below.refl _ _).drew.trans ((((Below.refl _ _).alloc (Nat.le_refl _) _)).trans (hb1.mono (by simp))))
end Go.Proofs.YtokhindolimchaaGreat

/-
  The specification's l3Head, at every number.
-/
namespace Go.Proofs.YtokhindolimchaaGreat
open Go.RowKit Go.WideShapes

theorem l3Head_any (k : Nat) (n : Int) (w : World) (hk : k ≤ 6) (h0 : 0 ≤ n) (h1 : n ≤ 9223372036854775807) : Calls Tryz.prog 94 #[.int .i64 k, .int .i64 n] w fun e w' => e = .returned (.string (txt (headC k n))) ∧ Below w.heap.size w w' := by
  by_cases a : n < 24
  · exact l3Head_low k n w hk h0 a
  by_cases b : n < 256
  · exact l3Head_1 k n w hk (by omega) b
  by_cases c : n < 65536
  · exact l3Head_2 k n w hk (by omega) c
  by_cases e : n < 4294967296
  · exact l3Head_4 k n w hk (by omega) e
  · exact l3Head_8 k n w hk (by omega) h1
end Go.Proofs.YtokhindolimchaaGreat
