/-
  The specification's l4Int and l4Word: numbers and texts.
-/
import Derived.Test.YtnnofahlmlikcaaIHigh
namespace Go.Proofs.Ytnnofahlmlikcaa
open Go.RowKit Go.WideShapes
set_option linter.unusedSimpArgs false
set_option linter.unusedVariables false

theorem one_byteT (x : UInt8) (w : World) : (convert 42 9 (.slice (some ⟨w.heap.size, 0, none⟩) 1 1)).run Try.prog (w.alloc (.cells #[.int .u8 (x.toNat : Int)] 5)) = .ok (.string (txt [x])) (w.alloc (.cells #[.int .u8 (x.toNat : Int)] 5)) := by
  have := run_convert_bytes_back (P := Try.prog) (w.alloc (.cells #[.int .u8 (x.toNat : Int)] 5)) 42 9 5 ⟨w.heap.size, 0, none⟩ 1 [x] Try.underlying42 Try.underlying5 Try.underlying9 (fun j hj => by
    obtain rfl : j = 0 := by simpa using hj
    rw [add_plain, Nat.zero_add]
    simp)
  exact this
theorem one_int {n : Int} (h0 : 0 ≤ n) (h1 : n < 256) (w : World) : (convert 42 9 (.slice (some ⟨w.heap.size, 0, none⟩) 1 1)).run Try.prog (w.alloc (.cells #[.int .u8 n] 5)) = .ok (.string (txt [byI n])) (w.alloc (.cells #[.int .u8 n] 5)) := by
  have := one_byteT (byI n) w
  rw [byI_int, Int.emod_eq_of_lt h0 h1] at this
  exact this
theorem one_int1 {n : Int} (h0 : 0 ≤ n) (h1 : n < 256) (w : World) (A : Obj) : (convert 42 9 (.slice (some ⟨w.heap.size + 1, 0, none⟩) 1 1)).run Try.prog ((w.alloc A).alloc (.cells #[.int .u8 n] 5)) = .ok (.string (txt [byI n])) ((w.alloc A).alloc (.cells #[.int .u8 n] 5)) := by
  have := one_int h0 h1 (w.alloc A)
  rw [World.size_alloc] at this
  exact this
theorem txt_pre (x : UInt8) (l : List UInt8) : (⟨#[x]⟩ : ByteArray) ++ txt l = txt (x :: l) := txt_app [x] l
theorem packI_alone {n : Int} (h : -32 ≤ n ∧ n ≤ 127) : packI n = [byI n] := by unfold packI; rw [if_pos h]
theorem packI_up {n : Int} (h : 127 < n) {k : Nat} (hk : stepI n = k) {c : UInt8} (hc : c = byI (204 + k)) : packI n = c :: bigB n (2 ^ k) := by
  unfold packI; rw [if_neg (by omega), if_pos (by omega), hk, hc]
theorem packI_dn {n : Int} (h : n < -32) {k : Nat} (hk : stepI (2 * (-1 - n)) = k) {c : UInt8} (hc : c = byI (208 + k)) : packI n = c :: bigB n (2 ^ k) := by
  unfold packI; rw [if_neg (by omega), if_neg (by omega), hk, hc]
theorem step0 {m : Int} (h : m < 256) : stepI m = 0 := by unfold stepI; rw [if_pos h]
theorem step1 {m : Int} (h0 : ¬ m < 256) (h : m < 65536) : stepI m = 1 := by unfold stepI; rw [if_neg h0, if_pos h]
theorem step2 {m : Int} (h0 : ¬ m < 65536) (h : m < 4294967296) : stepI m = 2 := by unfold stepI; rw [if_neg (by omega), if_neg h0, if_pos h]
theorem step3 {m : Int} (h : ¬ m < 4294967296) : stepI m = 3 := by unfold stepI; rw [if_neg (by omega), if_neg (by omega), if_neg h]

set_option maxRecDepth 100000 in
set_option maxHeartbeats 3200000 in
theorem l4Int_any (n : Int) (w : World) (h0 : -9223372036854775808 ≤ n) (h1 : n ≤ 9223372036854775807) : Calls Try.prog 55 #[.int .i64 n] w fun e w' => e = .returned (.string (txt (packI n))) ∧ Below w.heap.size w w' := by
  have hc := one_byteT
  have hby : n % 256 = ((byI n).toNat : Int) := (byI_int n).symm
  have hz : ∀ (m : Nat), (txt (bigB n m)).size = m := fun m => by rw [txt_size, bigB_len]
  by_cases a1 : 0 ≤ n
  · by_cases a2 : n < 128
    · have HE := hideB (packI_alone (n := n) (by omega))
      have hc1 := one_int (n := n) a1 (by omega)
      go_enter Try.func55, Try.ntmps55
      go_wp2_with fail
      go_ret
      exact ⟨by rw [HE.out]; rfl, (Below.refl _ _).alloc (Nat.le_refl _) _⟩
    have a2' : ¬ n < 0 := by omega
    by_cases a3 : n < 256
    · have HE := hideB (packI_up (n := n) (by omega) (step0 (by omega)) (c := 204) rfl)
      go_enter Try.func55, Try.ntmps55
      go_wp2_with (go_at_call 57; refine (l3Big_any n 1 _ h0 h1 (by omega)).mono ?_; rintro e w1 ⟨rfl, hb1⟩)
      go_ret
      exact ⟨by rw [HE.out]; exact ret_str (txt_pre _ _), hb1⟩
    by_cases a4 : n < 65536
    · have HE := hideB (packI_up (n := n) (by omega) (step1 (by omega) (by omega)) (c := 205) rfl)
      go_enter Try.func55, Try.ntmps55
      go_wp2_with (go_at_call 57; refine (l3Big_any n 2 _ h0 h1 (by omega)).mono ?_; rintro e w1 ⟨rfl, hb1⟩)
      go_ret
      exact ⟨by rw [HE.out]; exact ret_str (txt_pre _ _), hb1⟩
    by_cases a5 : n < 4294967296
    · have HE := hideB (packI_up (n := n) (by omega) (step2 (by omega) (by omega)) (c := 206) rfl)
      go_enter Try.func55, Try.ntmps55
      go_wp2_with (go_at_call 57; refine (l3Big_any n 4 _ h0 h1 (by omega)).mono ?_; rintro e w1 ⟨rfl, hb1⟩)
      go_ret
      exact ⟨by rw [HE.out]; exact ret_str (txt_pre _ _), hb1⟩
    · have HE := hideB (packI_up (n := n) (by omega) (step3 (by omega)) (c := 207) rfl)
      go_enter Try.func55, Try.ntmps55
      go_wp2_with (go_at_call 57; refine (l3Big_any n 8 _ h0 h1 (by omega)).mono ?_; rintro e w1 ⟨rfl, hb1⟩)
      go_ret
      exact ⟨by rw [HE.out]; exact ret_str (txt_pre _ _), hb1⟩
  · have a1' : n < 0 := by omega
    by_cases a2 : -32 ≤ n
    · have HE := hideB (packI_alone (n := n) (by omega))
      go_enter Try.func55, Try.ntmps55
      go_wp2_with fail
      go_ret
      exact ⟨by rw [HE.out]; rfl, (Below.refl _ _).alloc (Nat.le_refl _) _⟩
    by_cases a3 : -128 ≤ n
    · have HE := hideB (packI_dn (n := n) (by omega) (step0 (by omega)) (c := 208) rfl)
      go_enter Try.func55, Try.ntmps55
      go_wp2_with (go_at_call 57; refine (l3Big_any n 1 _ h0 h1 (by omega)).mono ?_; rintro e w1 ⟨rfl, hb1⟩)
      go_ret
      exact ⟨by rw [HE.out]; exact ret_str (txt_pre _ _), hb1⟩
    by_cases a4 : -32768 ≤ n
    · have HE := hideB (packI_dn (n := n) (by omega) (step1 (by omega) (by omega)) (c := 209) rfl)
      go_enter Try.func55, Try.ntmps55
      go_wp2_with (go_at_call 57; refine (l3Big_any n 2 _ h0 h1 (by omega)).mono ?_; rintro e w1 ⟨rfl, hb1⟩)
      go_ret
      exact ⟨by rw [HE.out]; exact ret_str (txt_pre _ _), hb1⟩
    by_cases a5 : -2147483648 ≤ n
    · have HE := hideB (packI_dn (n := n) (by omega) (step2 (by omega) (by omega)) (c := 210) rfl)
      go_enter Try.func55, Try.ntmps55
      go_wp2_with (go_at_call 57; refine (l3Big_any n 4 _ h0 h1 (by omega)).mono ?_; rintro e w1 ⟨rfl, hb1⟩)
      go_ret
      exact ⟨by rw [HE.out]; exact ret_str (txt_pre _ _), hb1⟩
    · have HE := hideB (packI_dn (n := n) (by omega) (step3 (by omega)) (c := 211) rfl)
      go_enter Try.func55, Try.ntmps55
      go_wp2_with (go_at_call 57; refine (l3Big_any n 8 _ h0 h1 (by omega)).mono ?_; rintro e w1 ⟨rfl, hb1⟩)
      go_ret
      exact ⟨by rw [HE.out]; exact ret_str (txt_pre _ _), hb1⟩

set_option maxRecDepth 100000 in
set_option maxHeartbeats 3200000 in
theorem l4Word_any (s : ByteArray) (w : World) (hs : s.size ≤ 1000000) : Calls Try.prog 56 #[.string s] w fun e w' => e = .returned (.string (txt (packW s))) ∧ Below w.heap.size w w' := by
  have hc := one_byteT
  have hz1 : ∀ x, (txt [x]).size = 1 := fun x => txt_size [x]
  by_cases a : s.size < 32
  · have a' : (s.size : Int) < 32 := by omega
    have hc1 := one_int (n := 160 + (s.size : Int)) (by omega) (by omega)
    have HE := hideB (show packW s = byI (160 + s.size) :: s.data.toList by unfold packW; rw [if_pos a])
    go_enter Try.func56, Try.ntmps56
    go_wp2_with fail
    go_ret
    exact ⟨by rw [HE.out]; exact ret_str (app_txt _ _), (Below.refl _ _).alloc (Nat.le_refl _) _⟩
  · have a' : ¬ (s.size : Int) < 32 := by omega
    have HE := hideB (show packW s = 217 :: (bigB s.size 1 ++ s.data.toList) by unfold packW; rw [if_neg a])
    have hz : (txt (bigB (s.size : Int) 1)).size = 1 := by rw [txt_size, bigB_len]
    go_enter Try.func56, Try.ntmps56
    go_wp2_with (go_at_call 57; refine (l3Big_any _ 1 _ (by omega) (by omega) (by omega)).mono ?_; rintro e w1 ⟨rfl, hb1⟩)
    go_ret
    exact ⟨by rw [HE.out]; exact ret_str (by rw [txt_pre, app_txt]; rfl), hb1⟩
end Go.Proofs.Ytnnofahlmlikcaa
