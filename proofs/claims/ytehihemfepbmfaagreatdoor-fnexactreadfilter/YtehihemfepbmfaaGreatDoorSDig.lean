/-
  The specification's l2Hex: one sign.
-/
import Derived.Test.YtehihemfepbmfaaGreatDoorProg
import Derived.Test.YtehihemfepbmfaaGreatDoorUneP
import Derived.Laws.IdiomStrings
import Derived.Below
import Derived.WideShapes
import Derived.WalkKit
import Derived.Deep.RegionWith
import Derived.Deep.QuietTactic
import Derived.BigQuiet
namespace Go.Proofs.YtehihemfepbmfaaGreatDoor
open Go.RowKit Go.WideShapes
set_option linter.unusedSimpArgs false
set_option linter.unusedVariables false
theorem one_byte (x : UInt8) (w : World) : (convert 22 9 (.slice (some ⟨w.heap.size, 0, none⟩) 1 1)).run Tryz.prog (w.alloc (.cells #[.int .u8 (x.toNat : Int)] 5)) = .ok (.string ⟨#[x]⟩) (w.alloc (.cells #[.int .u8 (x.toNat : Int)] 5)) := by
  have := run_convert_bytes_back (P := Tryz.prog) (w.alloc (.cells #[.int .u8 (x.toNat : Int)] 5)) 22 9 5 ⟨w.heap.size, 0, none⟩ 1 [x] Tryz.underlying22 Tryz.underlying5 Tryz.underlying9 (fun j hj => by
    obtain rfl : j = 0 := by simpa using hj
    rw [add_plain, Nat.zero_add]
    simp)
  exact this

end Go.Proofs.YtehihemfepbmfaaGreatDoor

/-
  The specification's l2Quoted.
-/
namespace Go.Proofs.YtehihemfepbmfaaGreatDoor
open Go.RowKit Go.WideShapes
set_option linter.unusedSimpArgs false
set_option linter.unusedVariables false
end Go.Proofs.YtehihemfepbmfaaGreatDoor

/-
  The specification's Escaped.
-/
namespace Go.Proofs.YtehihemfepbmfaaGreatDoor
open Go.RowKit Go.WideShapes
set_option linter.unusedSimpArgs false
set_option linter.unusedVariables false
end Go.Proofs.YtehihemfepbmfaaGreatDoor

/-
  The specification's l2Digit: the number of a sign.
-/
namespace Go.Proofs.YtehihemfepbmfaaGreatDoor
open Go.RowKit Go.WideShapes
set_option linter.unusedSimpArgs false
set_option linter.unusedVariables false

def sml (j : Nat) : UInt8 := hexS.getD j 0
def grtS : List UInt8 := [48, 49, 50, 51, 52, 53, 54, 55, 56, 57, 65, 66, 67, 68, 69, 70]
def grt (j : Nat) : UInt8 := grtS.getD j 0
theorem digs_hit0 : ∀ (n : Fin 256) (j : Fin 16), (UInt8.ofNat n.val = sml j.val ∨ UInt8.ofNat n.val = grt j.val) → digI (UInt8.ofNat n.val) = j.val := by decide +kernel
theorem digs_miss0 : ∀ n : Fin 256, (∀ j : Fin 16, UInt8.ofNat n.val ≠ sml j.val ∧ UInt8.ofNat n.val ≠ grt j.val) → digI (UInt8.ofNat n.val) = -1 := by decide +kernel
theorem digs_hit {c : UInt8} {j : Nat} (hj : j < 16) (h : c = sml j ∨ c = grt j) : digI c = j := by
  have := digs_hit0 ⟨c.toNat, c.toNat_lt⟩ ⟨j, hj⟩
  simp only [UInt8.ofNat_toNat] at this
  exact this h
theorem digs_miss {c : UInt8} (h : ∀ j, j < 16 → ¬ c = sml j ∧ ¬ c = grt j) : digI c = -1 := by
  have := digs_miss0 ⟨c.toNat, c.toNat_lt⟩
  simp only [UInt8.ofNat_toNat] at this
  exact this fun j => h j.val j.isLt
theorem sml_at {n : Nat} (h : n < 16) : (ByteArray.mk #[48, 49, 50, 51, 52, 53, 54, 55, 56, 57, 97, 98, 99, 100, 101, 102])[n]'h = sml n := by
  show hexS[n]'h = hexS.getD n 0
  rw [List.getD, List.getElem?_eq_getElem (show n < hexS.length from h)]; rfl
theorem grt_at {n : Nat} (h : n < 16) : (ByteArray.mk #[48, 49, 50, 51, 52, 53, 54, 55, 56, 57, 65, 66, 67, 68, 69, 70])[n]'h = grt n := by
  show grtS[n]'h = grtS.getD n 0
  rw [List.getD, List.getElem?_eq_getElem (show n < grtS.length from h)]; rfl
theorem u8_beq {c d : UInt8} (h : c = d) : ((c.toNat : Int) == (d.toNat : Int)) = true := by rw [h]; simp
theorem u8_bne {c d : UInt8} (h : ¬ c = d) : ((c.toNat : Int) == (d.toNat : Int)) = false := by simpa using u8_ne h
theorem ret_i64 {a b : Int} (h : a = b) : Ending.returned (.int .i64 a) = Ending.returned (.int .i64 b) := by rw [h]

set_option maxRecDepth 100000 in
set_option maxHeartbeats 1600000 in
theorem l2Digit_any (c : UInt8) (w : World) : Calls Tryz.prog 181 #[.int .u8 (c.toNat : Int)] w fun e w' => e = .returned (.int .i64 (digI c)) ∧ w' = w := by
  go_enter Tryz.func181, Tryz.ntmps181
  go_wp2_with fail
  go_loop [3] (fun i => ∃ k : Nat, k ≤ 16 ∧ i = .int .i64 k ∧ Hid (∀ j, j < k → ¬ c = sml j ∧ ¬ c = grt j)) (fun i => 16 - (intOf i).toNat)
  case atStart => exact ⟨0, by omega, rfl, fun j hj => by omega⟩
  case round =>
    obtain ⟨k, hk, rfl, HM⟩ := hrel
    by_cases hlt : k < 16
    · have hlt' : (k : Int) < 16 := by omega
      have x1 := sml_at hlt
      have x2 := grt_at hlt
      by_cases h1 : sml k = c
      · have b1 := u8_beq h1
        have HD := hideB (digs_hit hlt (.inl h1.symm))
        clear h1
        go_wp2_with fail
        go_ret
        exact ⟨ret_i64 HD.out.symm, rfl⟩
      have b1 := u8_bne h1
      by_cases h2 : grt k = c
      · have b2 := u8_beq h2
        have HD := hideB (digs_hit hlt (.inr h2.symm))
        clear h1 h2
        go_wp2_with fail
        go_ret
        exact ⟨ret_i64 HD.out.symm, rfl⟩
      have b2 := u8_bne h2
      have HN := hideB (show ∀ j, j < k + 1 → ¬ c = sml j ∧ ¬ c = grt j by
        intro j hj
        rcases Nat.lt_or_ge j k with h | h
        · exact HM.out j h
        · obtain rfl : j = k := by omega
          exact ⟨fun e => h1 e.symm, fun e => h2 e.symm⟩)
      clear h1 h2
      go_wp2_with fail
      refine ⟨⟨k + 1, by omega, by go_num, HN⟩, by simp [intOf]; omega⟩
    · obtain rfl : k = 16 := by omega
      have HD := hideB (digs_miss HM.out)
      go_wp2_with fail
      go_ret
      exact ⟨ret_i64 HD.out.symm, rfl⟩
end Go.Proofs.YtehihemfepbmfaaGreatDoor
