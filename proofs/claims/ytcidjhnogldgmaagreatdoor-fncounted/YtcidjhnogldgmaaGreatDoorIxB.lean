import Derived.Shelf.Small.Strs
import Derived.Test.YtcidjhnogldgmaaGreatDoorProg
namespace Go.Proofs
open Go.Shelf
def Tryz.ixRen : Go.Shelf.Ren := ⟨fun | 137 => 75 | 217 => 102 | 266 => 137 | n => n, fun | n => n, fun | n => n⟩
theorem Tryz.ixLays : Go.Proofs.Lays.n137 Tryz.prog Tryz.ixRen := {
  mixed := by kernel_rfl
  f137 := Tryz.func75.trans (congrArg some (by kernel_rfl))
  f217 := Tryz.func102.trans (congrArg some (by kernel_rfl))
  f266 := Tryz.func137.trans (congrArg some (by kernel_rfl))
  t3 := Tryz.underlying3
  a3 := Tryz.isAgg3
  z3 := Tryz.sizeOf3
  v3 := Tryz.zeroValue3
  t5 := Tryz.underlying5
  a5 := Tryz.isAgg5
  z5 := Tryz.sizeOf5
  v5 := Tryz.zeroValue5
  t9 := Tryz.underlying9
  a9 := Tryz.isAgg9
  z9 := Tryz.sizeOf9
  v9 := Tryz.zeroValue9
}
end Go.Proofs
namespace Go.Proofs.YtcidjhnogldgmaaGreatDoor
open Go.Shelf Go.RowKit
theorem indexByte_any (s : ByteArray) (c : UInt8) (w : World) : Calls Tryz.prog 75 #[.string s, .int .u8 (c.toNat : Int)] w fun e w' => e = .returned (.int .i64 (Lib.indexByte s.data.toList c)) ∧ w' = w := by
  have := Any.strings_IndexByte Tryz.ixLays s (c.toNat : Int) w
  have e : ((c.toNat : Int)).toNat.toUInt8 = c := by simp
  rw [e] at this
  exact this
end Go.Proofs.YtcidjhnogldgmaaGreatDoor
