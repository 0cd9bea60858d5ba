/-
  The library's contract of strings.IndexByte at this program.
-/
import Derived.Shelf.Small.Strs
import Derived.Test.YtnbhologgonjnaaProg
namespace Go.Proofs
open Go.Shelf
def Try.ixRen : Go.Shelf.Ren := ⟨fun | 137 => 32 | 217 => 33 | 266 => 34 | n => n, fun | n => n, fun | n => n⟩
theorem Try.ixLays : Go.Proofs.Lays.n137 Try.prog Try.ixRen := {
  mixed := by kernel_rfl
  f137 := Try.func32.trans (congrArg some (by kernel_rfl))
  f217 := Try.func33.trans (congrArg some (by kernel_rfl))
  f266 := Try.func34.trans (congrArg some (by kernel_rfl))
  t3 := Try.underlying3
  a3 := Try.isAgg3
  z3 := Try.sizeOf3
  v3 := Try.zeroValue3
  t5 := Try.underlying5
  a5 := Try.isAgg5
  z5 := Try.sizeOf5
  v5 := Try.zeroValue5
  t9 := Try.underlying9
  a9 := Try.isAgg9
  z9 := Try.sizeOf9
  v9 := Try.zeroValue9
}
end Go.Proofs
namespace Go.Proofs.Ytnbhologgonjnaa
open Go.Shelf Go.RowKit
theorem indexByte_any (s : ByteArray) (c : UInt8) (w : World) : Calls Try.prog 32 #[.string s, .int .u8 (c.toNat : Int)] w fun e w' => e = .returned (.int .i64 (Lib.indexByte s.data.toList c)) ∧ w' = w := by
  have := Any.strings_IndexByte Try.ixLays s (c.toNat : Int) w
  have e : ((c.toNat : Int)).toNat.toUInt8 = c := by simp
  rw [e] at this
  exact this
end Go.Proofs.Ytnbhologgonjnaa
