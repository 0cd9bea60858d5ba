/-
  The specification's l2Hex: one sign.
-/
import Derived.Test.YtgikginlgjglfaaDoorProg
import Derived.Test.YtgikginlgjglfaaDoorTxt
import Derived.Laws.IdiomStrings
import Derived.Below
import Derived.WideShapes
import Derived.WalkKit
namespace Go.Proofs.YtgikginlgjglfaaDoor
open Go.RowKit Go.WideShapes
set_option linter.unusedSimpArgs false
set_option linter.unusedVariables false
theorem one_byte (x : UInt8) (w : World) : (convert 42 9 (.slice (some ⟨w.heap.size, 0, none⟩) 1 1)).run Tryd.prog (w.alloc (.cells #[.int .u8 (x.toNat : Int)] 5)) = .ok (.string ⟨#[x]⟩) (w.alloc (.cells #[.int .u8 (x.toNat : Int)] 5)) := by
  have := run_convert_bytes_back (P := Tryd.prog) (w.alloc (.cells #[.int .u8 (x.toNat : Int)] 5)) 42 9 5 ⟨w.heap.size, 0, none⟩ 1 [x] Tryd.underlying42 Tryd.underlying5 Tryd.underlying9 (fun j hj => by
    obtain rfl : j = 0 := by simpa using hj
    rw [add_plain, Nat.zero_add]
    simp)
  exact this

set_option maxRecDepth 100000 in
set_option maxHeartbeats 1600000 in
theorem l2Hex_any (n : Nat) (h : n < 16) (w : World) : Calls Tryd.prog 51 #[.int .u8 (n : Int)] w fun e w' => e = .returned (.string ⟨#[hexB n]⟩) ∧ Below w.heap.size w w' := by
  go_enter Tryd.func51, Tryd.ntmps51
  have hc := one_byte
  have hh : hexB n = (ByteArray.mk #[48, 49, 50, 51, 52, 53, 54, 55, 56, 57, 97, 98, 99, 100, 101, 102])[n]'h := by
    show hexS.getD n 0 = hexS[n]'h
    rw [List.getD, List.getElem?_eq_getElem (show n < hexS.length from h)]; rfl
  have H := hideB hh
  clear hh
  go_wp2
  go_ret
  exact ⟨ret_str (by rw [H.out]), (Below.refl _ _).alloc (Nat.le_refl _) _⟩
theorem l2Hex_int (x : Int) (w : World) (h0 : 0 ≤ x) (h1 : x < 16) : Calls Tryd.prog 51 #[.int .u8 x] w fun e w' => e = .returned (.string (txt [hexB x.toNat])) ∧ Below w.heap.size w w' := by
  obtain ⟨n, rfl⟩ : ∃ n : Nat, x = n := ⟨x.toNat, by omega⟩
  exact l2Hex_any n (by omega) w
theorem call_hex (v : Value) (w : World) : (callFunc 51 #[v]).run Tryd.prog w = .ok (.enter 51 #[v]) w := by kernel_rfl
theorem txt_one (x : UInt8) : (txt [x]).size = 1 := txt_size [x]
end Go.Proofs.YtgikginlgjglfaaDoor
