/-
  The program's hexValue and readEscapedByte.
-/
import Derived.Test.YtnbhologgonjnaaBrM
import Derived.Test.YtnbhologgonjnaaIxB
import Derived.Test.YtnbhologgonjnaaUneP
namespace Go.Proofs.Ytnbhologgonjnaa
open Go.RowKit
set_option linter.unusedSimpArgs false
set_option linter.unusedVariables false

theorem hexIx0 : ∀ n : Fin 256, ¬ (65 ≤ n.val ∧ n.val ≤ 70) → Go.Lib.indexByte hexS (UInt8.ofNat n.val) = digI (UInt8.ofNat n.val) := by decide +kernel
theorem hexUp0 : ∀ n : Fin 256, 65 ≤ n.val ∧ n.val ≤ 70 → Go.Lib.indexByte hexS (UInt8.ofNat (n.val + 32)) = digI (UInt8.ofNat n.val) := by decide +kernel
theorem hexIx {c : UInt8} (h : ¬ (65 ≤ c.toNat ∧ c.toNat ≤ 70)) : Go.Lib.indexByte hexS c = digI c := by
  have := hexIx0 ⟨c.toNat, c.toNat_lt⟩ h
  simpa only [UInt8.ofNat_toNat] using this
theorem hexUp {c : UInt8} (h : 65 ≤ c.toNat ∧ c.toNat ≤ 70) : Go.Lib.indexByte hexS ((c.toNat : Int) + 32).toNat.toUInt8 = digI c := by
  have := hexUp0 ⟨c.toNat, c.toNat_lt⟩ h
  have e : ((c.toNat : Int) + 32).toNat = c.toNat + 32 := by omega
  rw [e]
  simpa only [UInt8.ofNat_toNat] using this

set_option maxRecDepth 100000 in
set_option maxHeartbeats 1600000 in
theorem hex_yes (c : UInt8) (h : ¬ digI c < 0) (w : World) : Calls Try.prog 31 #[.int .u8 (c.toNat : Int)] w fun e w' => e = .returned (.int .i64 (digI c)) ∧ w' = w := by
  by_cases hu : 65 ≤ c.toNat ∧ c.toNat ≤ 70
  · have C := hideB (fun w => Any.strings_IndexByte Try.ixLays ⟨#[48, 49, 50, 51, 52, 53, 54, 55, 56, 57, 97, 98, 99, 100, 101, 102]⟩ ((c.toNat : Int) + 32) w)
    have HE := hideB (hexUp hu)
    have u1 : 65 ≤ (c.toNat : Int) := by omega
    have u2 : (c.toNat : Int) ≤ 70 := by omega
    clear hu
    go_enter Try.func31, Try.ntmps31
    go_wp2_with (go_at_call 32; refine (C.out _).mono ?_; rintro e w' ⟨rfl, rfl⟩; rw [show (ByteArray.mk #[48, 49, 50, 51, 52, 53, 54, 55, 56, 57, 97, 98, 99, 100, 101, 102]).data.toList = hexS from rfl, HE.out])
    go_ret
    exact ⟨rfl, rfl⟩
  · have C := hideB (fun w => indexByte_any ⟨#[48, 49, 50, 51, 52, 53, 54, 55, 56, 57, 97, 98, 99, 100, 101, 102]⟩ c w)
    have HE := hideB (hexIx hu)
    by_cases u1 : 65 ≤ (c.toNat : Int)
    · have u2 : 70 < (c.toNat : Int) := by omega
      clear hu
      go_enter Try.func31, Try.ntmps31
      go_wp2_with (go_at_call 32; refine (C.out _).mono ?_; rintro e w' ⟨rfl, rfl⟩; rw [show (ByteArray.mk #[48, 49, 50, 51, 52, 53, 54, 55, 56, 57, 97, 98, 99, 100, 101, 102]).data.toList = hexS from rfl, HE.out])
      go_ret
      exact ⟨rfl, rfl⟩
    · clear hu
      go_enter Try.func31, Try.ntmps31
      go_wp2_with (go_at_call 32; refine (C.out _).mono ?_; rintro e w' ⟨rfl, rfl⟩; rw [show (ByteArray.mk #[48, 49, 50, 51, 52, 53, 54, 55, 56, 57, 97, 98, 99, 100, 101, 102]).data.toList = hexS from rfl, HE.out])
      go_ret
      exact ⟨rfl, rfl⟩

set_option maxRecDepth 100000 in
set_option maxHeartbeats 1600000 in
theorem hex_no (c : UInt8) (h : digI c < 0) (w : World) : Calls Try.prog 31 #[.int .u8 (c.toNat : Int)] w fun e w' => e = gup ∧ w' = w := by
  have hu : ¬ (65 ≤ c.toNat ∧ c.toNat ≤ 70) := by
    intro hu
    have h2 : ¬ (48 ≤ c ∧ c ≤ 57) := by rw [u8n, u8n]; intro h3; have := h3.2; have e : (57 : UInt8).toNat = 57 := rfl; omega
    have h3 : ¬ (97 ≤ c ∧ c ≤ 102) := by rw [u8n, u8n]; intro h3; have := h3.1; have e : (97 : UInt8).toNat = 97 := rfl; omega
    have h4 : 65 ≤ c ∧ c ≤ 70 := by rw [u8n, u8n]; exact hu
    rw [digI, if_neg h2, if_neg h3, if_pos h4] at h
    omega
  have C := hideB (fun w => indexByte_any ⟨#[48, 49, 50, 51, 52, 53, 54, 55, 56, 57, 97, 98, 99, 100, 101, 102]⟩ c w)
  have HE := hideB (hexIx hu)
  by_cases u1 : 65 ≤ (c.toNat : Int)
  · have u2 : 70 < (c.toNat : Int) := by omega
    clear hu
    go_enter Try.func31, Try.ntmps31
    go_wp2_with (go_at_call 32; refine (C.out _).mono ?_; rintro e w' ⟨rfl, rfl⟩; rw [show (ByteArray.mk #[48, 49, 50, 51, 52, 53, 54, 55, 56, 57, 97, 98, 99, 100, 101, 102]).data.toList = hexS from rfl, HE.out])
    exact ⟨rfl, rfl, rfl⟩
  · clear hu
    go_enter Try.func31, Try.ntmps31
    go_wp2_with (go_at_call 32; refine (C.out _).mono ?_; rintro e w' ⟨rfl, rfl⟩; rw [show (ByteArray.mk #[48, 49, 50, 51, 52, 53, 54, 55, 56, 57, 97, 98, 99, 100, 101, 102]).data.toList = hexS from rfl, HE.out])
    exact ⟨rfl, rfl, rfl⟩
end Go.Proofs.Ytnbhologgonjnaa
