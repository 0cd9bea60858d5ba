/-
  Which type lies behind the interface: all pairs, in the order of a type switch.
-/
import Derived.Test.YtnnofahlmlikcaaProg
import Derived.WalkKit
namespace Go.Proofs.Ytnnofahlmlikcaa
open Go.RowKit
theorem tw_null_null (x : Value) (w : World) : (Instr.typeAssert (.iface 64 x) 38 64 true).run Try.prog w = .ok (.tuple #[x, .bool true]) w := by kernel_rfl
theorem tw_bool_null (x : Value) (w : World) : (Instr.typeAssert (.iface 69 x) 38 64 true).run Try.prog w = .ok (.tuple #[.agg #[], .bool false]) w := by kernel_rfl
theorem tw_bool_bool (x : Value) (w : World) : (Instr.typeAssert (.iface 69 x) 38 69 true).run Try.prog w = .ok (.tuple #[x, .bool true]) w := by kernel_rfl
theorem tw_int_null (x : Value) (w : World) : (Instr.typeAssert (.iface 70 x) 38 64 true).run Try.prog w = .ok (.tuple #[.agg #[], .bool false]) w := by kernel_rfl
theorem tw_int_bool (x : Value) (w : World) : (Instr.typeAssert (.iface 70 x) 38 69 true).run Try.prog w = .ok (.tuple #[.agg #[.int .i64 0], .bool false]) w := by kernel_rfl
theorem tw_int_int (x : Value) (w : World) : (Instr.typeAssert (.iface 70 x) 38 70 true).run Try.prog w = .ok (.tuple #[x, .bool true]) w := by kernel_rfl
theorem tw_text_null (x : Value) (w : World) : (Instr.typeAssert (.iface 73 x) 38 64 true).run Try.prog w = .ok (.tuple #[.agg #[], .bool false]) w := by kernel_rfl
theorem tw_text_bool (x : Value) (w : World) : (Instr.typeAssert (.iface 73 x) 38 69 true).run Try.prog w = .ok (.tuple #[.agg #[.int .i64 0], .bool false]) w := by kernel_rfl
theorem tw_text_int (x : Value) (w : World) : (Instr.typeAssert (.iface 73 x) 38 70 true).run Try.prog w = .ok (.tuple #[.agg #[.int .i64 0], .bool false]) w := by kernel_rfl
theorem tw_text_text (x : Value) (w : World) : (Instr.typeAssert (.iface 73 x) 38 73 true).run Try.prog w = .ok (.tuple #[x, .bool true]) w := by kernel_rfl
theorem tw_list_null (x : Value) (w : World) : (Instr.typeAssert (.iface 76 x) 38 64 true).run Try.prog w = .ok (.tuple #[.agg #[], .bool false]) w := by kernel_rfl
theorem tw_list_bool (x : Value) (w : World) : (Instr.typeAssert (.iface 76 x) 38 69 true).run Try.prog w = .ok (.tuple #[.agg #[.int .i64 0], .bool false]) w := by kernel_rfl
theorem tw_list_int (x : Value) (w : World) : (Instr.typeAssert (.iface 76 x) 38 70 true).run Try.prog w = .ok (.tuple #[.agg #[.int .i64 0], .bool false]) w := by kernel_rfl
theorem tw_list_text (x : Value) (w : World) : (Instr.typeAssert (.iface 76 x) 38 73 true).run Try.prog w = .ok (.tuple #[.agg #[.string ByteArray.empty], .bool false]) w := by kernel_rfl
theorem tw_list_list (x : Value) (w : World) : (Instr.typeAssert (.iface 76 x) 38 76 true).run Try.prog w = .ok (.tuple #[x, .bool true]) w := by kernel_rfl
theorem tw_map_null (x : Value) (w : World) : (Instr.typeAssert (.iface 79 x) 38 64 true).run Try.prog w = .ok (.tuple #[.agg #[], .bool false]) w := by kernel_rfl
theorem tw_map_bool (x : Value) (w : World) : (Instr.typeAssert (.iface 79 x) 38 69 true).run Try.prog w = .ok (.tuple #[.agg #[.int .i64 0], .bool false]) w := by kernel_rfl
theorem tw_map_int (x : Value) (w : World) : (Instr.typeAssert (.iface 79 x) 38 70 true).run Try.prog w = .ok (.tuple #[.agg #[.int .i64 0], .bool false]) w := by kernel_rfl
theorem tw_map_text (x : Value) (w : World) : (Instr.typeAssert (.iface 79 x) 38 73 true).run Try.prog w = .ok (.tuple #[.agg #[.string ByteArray.empty], .bool false]) w := by kernel_rfl
theorem tw_map_list (x : Value) (w : World) : (Instr.typeAssert (.iface 79 x) 38 76 true).run Try.prog w = .ok (.tuple #[.agg #[.slice none 0 0], .bool false]) w := by kernel_rfl
theorem tw_map_map (x : Value) (w : World) : (Instr.typeAssert (.iface 79 x) 38 79 true).run Try.prog w = .ok (.tuple #[x, .bool true]) w := by kernel_rfl
end Go.Proofs.Ytnnofahlmlikcaa
