/-
  The program's packWriter: numbers, texts and counts.
-/
import Derived.Test.YtnnofahlmlikcaaIWb
import Derived.Test.YtnnofahlmlikcaaSPkW
namespace Go.Proofs.Ytnnofahlmlikcaa
open Go.RowKit
set_option linter.unusedSimpArgs false
set_option linter.unusedVariables false

set_option maxRecDepth 100000 in
set_option maxHeartbeats 1600000 in
theorem stepFor_any (n : Int) (w : World) (h0 : 0 ≤ n) (h1 : n ≤ 18446744073709551615) : Calls Try.prog 59 #[.int .u64 n] w fun e w' => e = .returned (.int .i64 (stepI n)) ∧ w' = w := by
  go_enter Try.func59, Try.ntmps59
  go_wp2_with fail
  go_loop [3] (fun s => ∃ k : Nat, k ≤ stepI n ∧ s = .int .i64 k) (fun s => 3 - (intOf s).toNat)
  case atStart => exact ⟨0, Nat.zero_le _, rfl⟩
  case round =>
    obtain ⟨k, hk, rfl⟩ := hrel
    have h3 := stepI_le n
    have hk3 : k = 0 ∨ k = 1 ∨ k = 2 ∨ k = 3 := by omega
    rcases hk3 with rfl | rfl | rfl | rfl
    · by_cases a : n < 256
      · have HS := hideB (step0 a)
        have hd : n / 256 = 0 := by omega
        go_wp2_with fail
        go_ret
        exact ⟨by rw [HS.out]; rfl, rfl⟩
      · have hd : 0 < n / 256 := by omega
        have hs : 1 ≤ stepI n := by unfold stepI; rw [if_neg a]; split <;> (try split) <;> omega
        have HS := hideB hs
        clear hs
        go_wp2_with fail
        exact ⟨⟨1, HS.out, rfl⟩, by simp [intOf]⟩
    · have hn : ¬ n < 256 := fun a => by rw [step0 a] at hk; omega
      by_cases a : n < 65536
      · have HS := hideB (step1 hn a)
        have hd : n / 65536 = 0 := by omega
        go_wp2_with fail
        go_ret
        exact ⟨by rw [HS.out]; rfl, rfl⟩
      · have hd : 0 < n / 65536 := by omega
        have hs : 2 ≤ stepI n := by unfold stepI; rw [if_neg hn, if_neg a]; split <;> omega
        have HS := hideB hs
        clear hs
        go_wp2_with fail
        exact ⟨⟨2, HS.out, rfl⟩, by simp [intOf]⟩
    · have hn : ¬ n < 65536 := fun a => by
        by_cases a2 : n < 256
        · rw [step0 a2] at hk; omega
        · rw [step1 a2 a] at hk; omega
      by_cases a : n < 4294967296
      · have HS := hideB (step2 hn a)
        have hd : n / 4294967296 = 0 := by omega
        go_wp2_with fail
        go_ret
        exact ⟨by rw [HS.out]; rfl, rfl⟩
      · have hd : 0 < n / 4294967296 := by omega
        have HS := hideB (step3 a)
        go_wp2_with fail
        exact ⟨⟨3, by rw [HS.out]; exact Nat.le_refl _, rfl⟩, by simp [intOf]⟩
    · have HS := hideB (show stepI n = 3 by omega)
      have hd : n / 18446744073709551616 = 0 := by omega
      go_wp2_with fail
      go_ret
      exact ⟨by rw [HS.out]; rfl, rfl⟩

set_option maxRecDepth 100000 in
set_option maxHeartbeats 1600000 in
theorem writeWide_any {B b : Nat} {l : List UInt8} {w : World} (hT : FT 50 0) (h : FB 50 B b [] l w) (row : Nat) (st : Nat) (n : Int) (hr : row ≤ 250) (hst : st ≤ 3) (h0n : 0 ≤ n) (h1n : n ≤ 18446744073709551615) (hlen : l.length ≤ 100000000) (hBw : B ≤ w.heap.size) :
    Calls Try.prog 58 #[.pointer (some ⟨b, 0, none⟩), .int .u8 row, .int .i64 st, .int .u64 n] w fun e w' => e = .returned (.tuple #[]) ∧ FB 50 B b [] (l ++ byI (row + st) :: bigB n (2 ^ st)) w' ∧ Below B w w' ∧ Beside b w w' := by
  have hst4 : st = 0 ∨ st = 1 ∨ st = 2 ∨ st = 3 := by omega
  rcases hst4 with rfl | rfl | rfl | rfl
  · have C1 := hideB (fb_byte hT h (byI ((row : Int) + (0 : Nat))) (by omega) hBw)
    rw [byI_int, Int.emod_eq_of_lt (by omega) (by omega)] at C1
    have hrow : ((row : Int) + 0) ≤ 255 := by omega
    go_enter Try.func58, Try.ntmps58
    go_wp2_with (first | (go_at_call 32; refine C1.out.mono ?_; rintro e w1 ⟨rfl, f1, b1, k1⟩) | (go_at_call 60; refine (writeBytes_any hT f1 n 1 (by omega) h0n h1n (by simp; omega) (by have := b1.size; omega)).mono ?_; rintro e w2 ⟨rfl, f2, b2, k2⟩))
    go_end0
    exact ⟨rfl, by rw [List.append_assoc] at f2; exact f2, b1.trans b2, k1.trans k2⟩
  · have C1 := hideB (fb_byte hT h (byI ((row : Int) + (1 : Nat))) (by omega) hBw)
    rw [byI_int, Int.emod_eq_of_lt (by omega) (by omega)] at C1
    have hrow : ((row : Int) + 1) ≤ 255 := by omega
    go_enter Try.func58, Try.ntmps58
    go_wp2_with (first | (go_at_call 32; refine C1.out.mono ?_; rintro e w1 ⟨rfl, f1, b1, k1⟩) | (go_at_call 60; refine (writeBytes_any hT f1 n 2 (by omega) h0n h1n (by simp; omega) (by have := b1.size; omega)).mono ?_; rintro e w2 ⟨rfl, f2, b2, k2⟩))
    go_end0
    exact ⟨rfl, by rw [List.append_assoc] at f2; exact f2, b1.trans b2, k1.trans k2⟩
  · have C1 := hideB (fb_byte hT h (byI ((row : Int) + (2 : Nat))) (by omega) hBw)
    rw [byI_int, Int.emod_eq_of_lt (by omega) (by omega)] at C1
    have hrow : ((row : Int) + 2) ≤ 255 := by omega
    go_enter Try.func58, Try.ntmps58
    go_wp2_with (first | (go_at_call 32; refine C1.out.mono ?_; rintro e w1 ⟨rfl, f1, b1, k1⟩) | (go_at_call 60; refine (writeBytes_any hT f1 n 4 (by omega) h0n h1n (by simp; omega) (by have := b1.size; omega)).mono ?_; rintro e w2 ⟨rfl, f2, b2, k2⟩))
    go_end0
    exact ⟨rfl, by rw [List.append_assoc] at f2; exact f2, b1.trans b2, k1.trans k2⟩
  · have C1 := hideB (fb_byte hT h (byI ((row : Int) + (3 : Nat))) (by omega) hBw)
    rw [byI_int, Int.emod_eq_of_lt (by omega) (by omega)] at C1
    have hrow : ((row : Int) + 3) ≤ 255 := by omega
    go_enter Try.func58, Try.ntmps58
    go_wp2_with (first | (go_at_call 32; refine C1.out.mono ?_; rintro e w1 ⟨rfl, f1, b1, k1⟩) | (go_at_call 60; refine (writeBytes_any hT f1 n 8 (by omega) h0n h1n (by simp; omega) (by have := b1.size; omega)).mono ?_; rintro e w2 ⟨rfl, f2, b2, k2⟩))
    go_end0
    exact ⟨rfl, by rw [List.append_assoc] at f2; exact f2, b1.trans b2, k1.trans k2⟩

set_option maxRecDepth 100000 in
set_option maxHeartbeats 1600000 in
theorem writeNumber_any {B b : Nat} {l : List UInt8} {w : World} (hT : FT 50 0) (h : FB 50 B b [] l w) (n : Int) (h0 : -1000000000000000 ≤ n) (h1 : n ≤ 1000000000000000) (hlen : l.length ≤ 100000000) (hBw : B ≤ w.heap.size) :
    Calls Try.prog 41 #[.pointer (some ⟨b, 0, none⟩), .int .i64 n] w fun e w' => e = .returned (.tuple #[]) ∧ FB 50 B b [] (l ++ packI n) w' ∧ Below B w w' ∧ Beside b w w' := by
  by_cases a1 : -32 ≤ n
  · by_cases a2 : n ≤ 127
    · have HE := hideB (packI_alone (n := n) ⟨a1, a2⟩)
      have C1 := hideB (fb_byte hT h (byI n) (by omega) hBw)
      rw [byI_int] at C1
      by_cases a0 : 0 ≤ n
      · have e0 : n % 256 = n := by omega
        rw [e0] at C1
        clear e0
        go_enter Try.func41, Try.ntmps41
        go_wp2_with (go_at_call 32; refine C1.out.mono ?_; rintro e w1 ⟨rfl, f1, b1, k1⟩)
        go_end0
        exact ⟨rfl, by rw [HE.out]; exact f1, b1, k1⟩
      · go_enter Try.func41, Try.ntmps41
        go_wp2_with (go_at_call 32; refine C1.out.mono ?_; rintro e w1 ⟨rfl, f1, b1, k1⟩)
        go_end0
        exact ⟨rfl, by rw [HE.out]; exact f1, b1, k1⟩
    · have a3 : 0 ≤ n := by omega
      have hst := stepI_le n
      obtain ⟨k, hk⟩ : ∃ k, stepI n = k := ⟨_, rfl⟩
      have HE := hideB (packI_up (n := n) (by omega) hk (c := byI (204 + k)) rfl)
      have CS := hideB (fun w => stepFor_any n w a3 (by omega))
      rw [hk] at CS hst
      have CW := hideB (writeWide_any hT h 204 k n (by omega) hst a3 (by omega) hlen hBw)
      clear hk
      go_enter Try.func41, Try.ntmps41
      go_wp2_with (first | (go_at_call 59; refine (CS.out _).mono ?_; rintro e w9 ⟨rfl, h9⟩; subst w9) | (go_at_call 58; refine CW.out.mono ?_; rintro e w1 ⟨rfl, f1, b1, k1⟩))
      go_end0
      exact ⟨rfl, by rw [HE.out]; exact f1, b1, k1⟩
  · have a3 : ¬ 0 ≤ n := by omega
    have hst := stepI_le (2 * (-1 - n))
    obtain ⟨k, hk⟩ : ∃ k, stepI (2 * (-1 - n)) = k := ⟨_, rfl⟩
    have HE := hideB (packI_dn (n := n) (by omega) hk (c := byI (208 + k)) rfl)
    have CS := hideB (fun w => stepFor_any (2 * (-1 - n)) w (by omega) (by omega))
    rw [hk] at CS hst
    have CW := hideB (writeWide_any hT h 208 k (n + 18446744073709551616) (by omega) hst (by omega) (by omega) hlen hBw)
    rw [bigB_wrap n _ (pow_le3 hst)] at CW
    clear hk
    go_enter Try.func41, Try.ntmps41
    go_wp2_with fail
    refine (CS.out _).mono ?_
    rintro e w9 ⟨rfl, h9⟩
    subst w9
    have hwr : IntKind.u64.wrap n = n + 18446744073709551616 := by
      have e : IntKind.u64.bits = 64 := rfl
      have e2 : IntKind.u64.signed = false := rfl
      simp [IntKind.wrap, e, e2]; omega
    go_wp2_with fail
    refine CW.out.mono ?_
    rintro e w1 ⟨rfl, f1, b1, k1⟩
    go_wp2_with fail
    go_end0
    exact ⟨rfl, by rw [HE.out]; exact f1, b1, k1⟩

set_option maxRecDepth 100000 in
set_option maxHeartbeats 1600000 in
theorem writeText_any {B b : Nat} {l : List UInt8} {w : World} (hT : FT 50 0) (h : FB 50 B b [] l w) (s : ByteArray) (hs : s.size ≤ 200) (hlen : l.length ≤ 100000000) (hBw : B ≤ w.heap.size) :
    Calls Try.prog 42 #[.pointer (some ⟨b, 0, none⟩), .string s] w fun e w' => e = .returned (.tuple #[]) ∧ FB 50 B b [] (l ++ packW s) w' ∧ Below B w w' ∧ Beside b w w' := by
  by_cases a : s.size < 32
  · have a' : (s.size : Int) < 32 := by omega
    have HE := hideB (show packW s = byI (160 + s.size) :: s.data.toList by unfold packW; rw [if_pos a])
    have C1 := hideB (fb_byte hT h (byI (160 + (s.size : Int))) (by omega) hBw)
    rw [byI_int, Int.emod_eq_of_lt (by omega) (by omega)] at C1
    go_enter Try.func42, Try.ntmps42
    go_wp2_with (first | (go_at_call 32; refine C1.out.mono ?_; rintro e w1 ⟨rfl, f1, b1, k1⟩) | (go_at_call 50; refine (fb_text hT f1 s (by simp; omega) (by have := b1.size; omega)).mono ?_; rintro e w2 ⟨rfl, f2, b2, k2⟩))
    go_end0
    exact ⟨rfl, by rw [HE.out]; rw [List.append_assoc] at f2; exact f2, b1.trans b2, k1.trans k2⟩
  · have a' : ¬ (s.size : Int) < 32 := by omega
    have HE := hideB (show packW s = 217 :: (bigB s.size 1 ++ s.data.toList) by unfold packW; rw [if_neg a])
    have CW := hideB (writeWide_any hT h 217 0 (s.size : Int) (by omega) (by omega) (by omega) (by omega) hlen hBw)
    go_enter Try.func42, Try.ntmps42
    go_wp2_with (first | (go_at_call 58; refine CW.out.mono ?_; rintro e w1 ⟨rfl, f1, b1, k1⟩) | (go_at_call 50; refine (fb_text hT f1 s (by simp [bigB_len]; omega) (by have := b1.size; omega)).mono ?_; rintro e w2 ⟨rfl, f2, b2, k2⟩))
    go_end0
    exact ⟨rfl, by rw [HE.out]; rw [List.append_assoc] at f2; exact f2, b1.trans b2, k1.trans k2⟩

set_option maxRecDepth 100000 in
set_option maxHeartbeats 1600000 in
theorem writeCount_any {B b : Nat} {l : List UInt8} {w : World} (hT : FT 50 0) (h : FB 50 B b [] l w) (few many : UInt8) (c : Nat) (hf : few.toNat ≤ 200) (hc : c ≤ 1000) (hlen : l.length ≤ 100000000) (hBw : B ≤ w.heap.size) :
    Calls Try.prog 43 #[.pointer (some ⟨b, 0, none⟩), .int .u8 (few.toNat : Int), .int .u8 (many.toNat : Int), .int .i64 c] w fun e w' => e = .returned (.tuple #[]) ∧ FB 50 B b [] (l ++ packC few many c) w' ∧ Below B w w' ∧ Beside b w w' := by
  by_cases a : c < 16
  · have a' : (c : Int) < 16 := by omega
    have HE := hideB (show packC few many c = [byI (few.toNat + c)] by unfold packC; rw [if_pos a])
    have C1 := hideB (fb_byte hT h (byI ((few.toNat : Int) + (c : Int))) (by omega) hBw)
    rw [byI_int, Int.emod_eq_of_lt (by omega) (by omega)] at C1
    have hfc : (few.toNat : Int) + (c : Int) ≤ 255 := by omega
    go_enter Try.func43, Try.ntmps43
    go_wp2_with (go_at_call 32; refine C1.out.mono ?_; rintro e w1 ⟨rfl, f1, b1, k1⟩)
    exact bodyPost_ret (results_none rfl _ _ _) rfl ⟨rfl, by rw [HE.out]; exact f1, b1, k1⟩
  · have a' : ¬ (c : Int) < 16 := by omega
    have HE := hideB (show packC few many c = many :: bigB c 2 by unfold packC; rw [if_neg a])
    have C1 := hideB (fb_byte hT h many (by omega) hBw)
    go_enter Try.func43, Try.ntmps43
    go_wp2_with (first | (go_at_call 32; refine C1.out.mono ?_; rintro e w1 ⟨rfl, f1, b1, k1⟩) | (go_at_call 60; refine (writeBytes_any hT f1 (c : Int) 2 (by omega) (by omega) (by omega) (by simp; omega) (by have := b1.size; omega)).mono ?_; rintro e w2 ⟨rfl, f2, b2, k2⟩))
    go_end0
    exact ⟨rfl, by rw [HE.out]; rw [List.append_assoc] at f2; exact f2, b1.trans b2, k1.trans k2⟩
end Go.Proofs.Ytnnofahlmlikcaa
