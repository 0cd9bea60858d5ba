import Derived.Test.YtehihemfepbmfaaGreatDoorProg
import Derived.WalkKit
namespace Go.Proofs.YtehihemfepbmfaaGreatDoor
set_option linter.unusedSimpArgs false
set_option linter.unusedVariables false
set_option linter.unusedSectionVars false
open Go.RowKit
theorem Xjg (x : Value) (w : World) : (Instr.typeAssert (.iface 193 x) 162 193 true).run Tryz.prog w = .ok (.tuple #[x, .bool true]) w := by kernel_rfl
theorem Xjh (x : Value) (w : World) : (Instr.typeAssert (.iface 195 x) 162 193 true).run Tryz.prog w = .ok (.tuple #[.agg #[], .bool false]) w := by kernel_rfl
theorem Xji (x : Value) (w : World) : (Instr.typeAssert (.iface 195 x) 162 195 true).run Tryz.prog w = .ok (.tuple #[x, .bool true]) w := by kernel_rfl
theorem Xk4 (x : Value) (w : World) : (Instr.typeAssert (.iface 197 x) 162 193 true).run Tryz.prog w = .ok (.tuple #[.agg #[], .bool false]) w := by kernel_rfl
theorem Xk5 (x : Value) (w : World) : (Instr.typeAssert (.iface 197 x) 162 195 true).run Tryz.prog w = .ok (.tuple #[.agg #[.int .i64 0], .bool false]) w := by kernel_rfl
theorem Xnt (x : Value) (w : World) : (Instr.typeAssert (.iface 197 x) 162 197 true).run Tryz.prog w = .ok (.tuple #[x, .bool true]) w := by kernel_rfl
theorem Xjj (x : Value) (w : World) : (Instr.typeAssert (.iface 199 x) 162 193 true).run Tryz.prog w = .ok (.tuple #[.agg #[], .bool false]) w := by kernel_rfl
theorem Xjk (x : Value) (w : World) : (Instr.typeAssert (.iface 199 x) 162 195 true).run Tryz.prog w = .ok (.tuple #[.agg #[.int .i64 0], .bool false]) w := by kernel_rfl
theorem Xk6 (x : Value) (w : World) : (Instr.typeAssert (.iface 199 x) 162 197 true).run Tryz.prog w = .ok (.tuple #[.agg #[.int .i64 0], .bool false]) w := by kernel_rfl
theorem Xjl (x : Value) (w : World) : (Instr.typeAssert (.iface 199 x) 162 199 true).run Tryz.prog w = .ok (.tuple #[x, .bool true]) w := by kernel_rfl
theorem Xjm (x : Value) (w : World) : (Instr.typeAssert (.iface 201 x) 162 193 true).run Tryz.prog w = .ok (.tuple #[.agg #[], .bool false]) w := by kernel_rfl
theorem Xjn (x : Value) (w : World) : (Instr.typeAssert (.iface 201 x) 162 195 true).run Tryz.prog w = .ok (.tuple #[.agg #[.int .i64 0], .bool false]) w := by kernel_rfl
theorem Xk7 (x : Value) (w : World) : (Instr.typeAssert (.iface 201 x) 162 197 true).run Tryz.prog w = .ok (.tuple #[.agg #[.int .i64 0], .bool false]) w := by kernel_rfl
theorem Xjo (x : Value) (w : World) : (Instr.typeAssert (.iface 201 x) 162 199 true).run Tryz.prog w = .ok (.tuple #[.agg #[.string ByteArray.empty], .bool false]) w := by kernel_rfl
theorem Xjp (x : Value) (w : World) : (Instr.typeAssert (.iface 201 x) 162 201 true).run Tryz.prog w = .ok (.tuple #[x, .bool true]) w := by kernel_rfl
theorem Xk8 (x : Value) (w : World) : (Instr.typeAssert (.iface 204 x) 162 193 true).run Tryz.prog w = .ok (.tuple #[.agg #[], .bool false]) w := by kernel_rfl
theorem Xk9 (x : Value) (w : World) : (Instr.typeAssert (.iface 204 x) 162 195 true).run Tryz.prog w = .ok (.tuple #[.agg #[.int .i64 0], .bool false]) w := by kernel_rfl
theorem Xnu (x : Value) (w : World) : (Instr.typeAssert (.iface 204 x) 162 197 true).run Tryz.prog w = .ok (.tuple #[.agg #[.int .i64 0], .bool false]) w := by kernel_rfl
theorem Xla (x : Value) (w : World) : (Instr.typeAssert (.iface 204 x) 162 199 true).run Tryz.prog w = .ok (.tuple #[.agg #[.string ByteArray.empty], .bool false]) w := by kernel_rfl
theorem Xlb (x : Value) (w : World) : (Instr.typeAssert (.iface 204 x) 162 201 true).run Tryz.prog w = .ok (.tuple #[.agg #[.slice none 0 0], .bool false]) w := by kernel_rfl
theorem Xnv (x : Value) (w : World) : (Instr.typeAssert (.iface 204 x) 162 204 true).run Tryz.prog w = .ok (.tuple #[x, .bool true]) w := by kernel_rfl
end Go.Proofs.YtehihemfepbmfaaGreatDoor
