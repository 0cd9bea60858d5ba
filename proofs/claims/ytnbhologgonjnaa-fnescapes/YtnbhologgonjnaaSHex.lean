/-
  The specification's l2Hex: one sign.
-/
import Derived.Test.YtnbhologgonjnaaProg
import Derived.Test.YtnbhologgonjnaaEscP
import Derived.Test.YtnbhologgonjnaaTxt
import Derived.Laws.IdiomStrings
import Derived.Below
import Derived.WideShapes
import Derived.WalkKit
namespace Go.Proofs.Ytnbhologgonjnaa
open Go.RowKit Go.WideShapes
set_option linter.unusedSimpArgs false
set_option linter.unusedVariables false
theorem one_byte (x : UInt8) (w : World) : (convert 22 9 (.slice (some ⟨w.heap.size, 0, none⟩) 1 1)).run Try.prog (w.alloc (.cells #[.int .u8 (x.toNat : Int)] 5)) = .ok (.string ⟨#[x]⟩) (w.alloc (.cells #[.int .u8 (x.toNat : Int)] 5)) := by
  have := run_convert_bytes_back (P := Try.prog) (w.alloc (.cells #[.int .u8 (x.toNat : Int)] 5)) 22 9 5 ⟨w.heap.size, 0, none⟩ 1 [x] Try.underlying22 Try.underlying5 Try.underlying9 (fun j hj => by
    obtain rfl : j = 0 := by simpa using hj
    rw [add_plain, Nat.zero_add]
    simp)
  exact this

set_option maxRecDepth 100000 in
set_option maxHeartbeats 1600000 in
theorem l2Hex_any (n : Nat) (h : n < 16) (w : World) : Calls Try.prog 21 #[.int .u8 (n : Int)] w fun e w' => e = .returned (.string ⟨#[hexB n]⟩) ∧ Below w.heap.size w w' := by
  go_enter Try.func21, Try.ntmps21
  have hc := one_byte
  have hh : hexB n = (ByteArray.mk #[48, 49, 50, 51, 52, 53, 54, 55, 56, 57, 97, 98, 99, 100, 101, 102])[n]'h := by
    show hexS.getD n 0 = hexS[n]'h
    rw [List.getD, List.getElem?_eq_getElem (show n < hexS.length from h)]; rfl
  have H := hideB hh
  clear hh
  go_wp2
  go_ret
  exact ⟨ret_str (by rw [H.out]), (Below.refl _ _).alloc (Nat.le_refl _) _⟩
theorem l2Hex_int (x : Int) (w : World) (h0 : 0 ≤ x) (h1 : x < 16) : Calls Try.prog 21 #[.int .u8 x] w fun e w' => e = .returned (.string (txt [hexB x.toNat])) ∧ Below w.heap.size w w' := by
  obtain ⟨n, rfl⟩ : ∃ n : Nat, x = n := ⟨x.toNat, by omega⟩
  exact l2Hex_any n (by omega) w
theorem call_hex (v : Value) (w : World) : (callFunc 21 #[v]).run Try.prog w = .ok (.enter 21 #[v]) w := by kernel_rfl
theorem txt_one (x : UInt8) : (txt [x]).size = 1 := txt_size [x]
end Go.Proofs.Ytnbhologgonjnaa
