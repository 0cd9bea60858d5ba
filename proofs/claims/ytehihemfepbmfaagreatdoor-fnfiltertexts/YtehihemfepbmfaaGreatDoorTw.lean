import Derived.Test.YtehihemfepbmfaaGreatDoorProg
import Derived.WalkKit
namespace Go.Proofs.YtehihemfepbmfaaGreatDoor
set_option linter.unusedSimpArgs false
set_option linter.unusedVariables false
set_option linter.unusedSectionVars false
open Go.RowKit
theorem Xjw (x:Value) (w:World):(Instr.typeAssert (.iface 193 x) 162 193 true).run Tryz.prog w= .ok (.tuple #[x, .bool true]) w:=by kernel_rfl
theorem Xjx (x:Value) (w:World):(Instr.typeAssert (.iface 195 x) 162 193 true).run Tryz.prog w= .ok (.tuple #[.agg #[], .bool false]) w:=by kernel_rfl
theorem Xjy (x:Value) (w:World):(Instr.typeAssert (.iface 195 x) 162 195 true).run Tryz.prog w= .ok (.tuple #[x, .bool true]) w:=by kernel_rfl
theorem Xlj (x:Value) (w:World):(Instr.typeAssert (.iface 197 x) 162 193 true).run Tryz.prog w= .ok (.tuple #[.agg #[], .bool false]) w:=by kernel_rfl
theorem Xlk (x:Value) (w:World):(Instr.typeAssert (.iface 197 x) 162 195 true).run Tryz.prog w= .ok (.tuple #[.agg #[.int .i64 0], .bool false]) w:=by kernel_rfl
theorem Xoc (x:Value) (w:World):(Instr.typeAssert (.iface 197 x) 162 197 true).run Tryz.prog w= .ok (.tuple #[x, .bool true]) w:=by kernel_rfl
theorem Xjz (x:Value) (w:World):(Instr.typeAssert (.iface 199 x) 162 193 true).run Tryz.prog w= .ok (.tuple #[.agg #[], .bool false]) w:=by kernel_rfl
theorem Xj0 (x:Value) (w:World):(Instr.typeAssert (.iface 199 x) 162 195 true).run Tryz.prog w= .ok (.tuple #[.agg #[.int .i64 0], .bool false]) w:=by kernel_rfl
theorem Xll (x:Value) (w:World):(Instr.typeAssert (.iface 199 x) 162 197 true).run Tryz.prog w= .ok (.tuple #[.agg #[.int .i64 0], .bool false]) w:=by kernel_rfl
theorem Xj1 (x:Value) (w:World):(Instr.typeAssert (.iface 199 x) 162 199 true).run Tryz.prog w= .ok (.tuple #[x, .bool true]) w:=by kernel_rfl
theorem Xj2 (x:Value) (w:World):(Instr.typeAssert (.iface 201 x) 162 193 true).run Tryz.prog w= .ok (.tuple #[.agg #[], .bool false]) w:=by kernel_rfl
theorem Xj3 (x:Value) (w:World):(Instr.typeAssert (.iface 201 x) 162 195 true).run Tryz.prog w= .ok (.tuple #[.agg #[.int .i64 0], .bool false]) w:=by kernel_rfl
theorem Xlm (x:Value) (w:World):(Instr.typeAssert (.iface 201 x) 162 197 true).run Tryz.prog w= .ok (.tuple #[.agg #[.int .i64 0], .bool false]) w:=by kernel_rfl
theorem Xj4 (x:Value) (w:World):(Instr.typeAssert (.iface 201 x) 162 199 true).run Tryz.prog w= .ok (.tuple #[.agg #[.string ByteArray.empty], .bool false]) w:=by kernel_rfl
theorem Xj5 (x:Value) (w:World):(Instr.typeAssert (.iface 201 x) 162 201 true).run Tryz.prog w= .ok (.tuple #[x, .bool true]) w:=by kernel_rfl
theorem Xln (x:Value) (w:World):(Instr.typeAssert (.iface 204 x) 162 193 true).run Tryz.prog w= .ok (.tuple #[.agg #[], .bool false]) w:=by kernel_rfl
theorem Xlo (x:Value) (w:World):(Instr.typeAssert (.iface 204 x) 162 195 true).run Tryz.prog w= .ok (.tuple #[.agg #[.int .i64 0], .bool false]) w:=by kernel_rfl
theorem Xod (x:Value) (w:World):(Instr.typeAssert (.iface 204 x) 162 197 true).run Tryz.prog w= .ok (.tuple #[.agg #[.int .i64 0], .bool false]) w:=by kernel_rfl
theorem Xlp (x:Value) (w:World):(Instr.typeAssert (.iface 204 x) 162 199 true).run Tryz.prog w= .ok (.tuple #[.agg #[.string ByteArray.empty], .bool false]) w:=by kernel_rfl
theorem Xlq (x:Value) (w:World):(Instr.typeAssert (.iface 204 x) 162 201 true).run Tryz.prog w= .ok (.tuple #[.agg #[.slice none 0 0], .bool false]) w:=by kernel_rfl
theorem Xoe (x:Value) (w:World):(Instr.typeAssert (.iface 204 x) 162 204 true).run Tryz.prog w= .ok (.tuple #[x, .bool true]) w:=by kernel_rfl
end Go.Proofs.YtehihemfepbmfaaGreatDoor
