/-
  What the methods kind and parts say, and a type switch's tests, one fact a pair of types. (The same facts as in CmpF and CmpE, for texts that don't reach the order: never import both.)
-/
import Derived.Test.YtpfnkpkcjefelaaVal
namespace Go.Proofs.Ytpfnkpkcjefelaa
open Go.RowKit
set_option linter.unusedSimpArgs false
set_option linter.unusedVariables false

theorem parts1_any (w : World) : Calls Try.prog 156 #[.agg #[]] w fun e w' => e = .returned (.slice none 0 0) ∧ Below w.heap.size w w' := by
  go_enter Try.func156, Try.ntmps156
  go_wp2_with fail
  go_ret
  exact ⟨rfl, (Below.refl _ _).alloc (Nat.le_refl _) _⟩
theorem parts2_any (n : Int) (w : World) : Calls Try.prog 150 #[.agg #[.int .i64 n]] w fun e w' => e = .returned (.slice none 0 0) ∧ Below w.heap.size w w' := by
  go_enter Try.func150, Try.ntmps150
  go_wp2_with fail
  go_ret
  exact ⟨rfl, (Below.refl _ _).alloc (Nat.le_refl _) _⟩
theorem parts3_any (n : Int) (w : World) : Calls Try.prog 152 #[.agg #[.int .i64 n]] w fun e w' => e = .returned (.slice none 0 0) ∧ Below w.heap.size w w' := by
  go_enter Try.func152, Try.ntmps152
  go_wp2_with fail
  go_ret
  exact ⟨rfl, (Below.refl _ _).alloc (Nat.le_refl _) _⟩
theorem parts4_any (s : ByteArray) (w : World) : Calls Try.prog 154 #[.agg #[.string s]] w fun e w' => e = .returned (.slice none 0 0) ∧ Below w.heap.size w w' := by
  go_enter Try.func154, Try.ntmps154
  go_wp2_with fail
  go_ret
  exact ⟨rfl, (Below.refl _ _).alloc (Nat.le_refl _) _⟩
theorem parts5_any (a : Option Addr) (n c : Nat) (w : World) : Calls Try.prog 146 #[.agg #[.slice a n c]] w fun e w' => e = .returned (.slice a n c) ∧ Below w.heap.size w w' := by
  go_enter Try.func146, Try.ntmps146
  go_wp2_with fail
  go_ret
  exact ⟨rfl, (Below.refl _ _).alloc (Nat.le_refl _) _⟩
theorem parts6_any (a : Option Addr) (n c : Nat) (a' : Option Addr) (n' c' : Nat) (w : World) : Calls Try.prog 148 #[.agg #[.slice a n c, .slice a' n' c']] w fun e w' => e = .returned (.slice a' n' c') ∧ Below w.heap.size w w' := by
  go_enter Try.func148, Try.ntmps148
  go_wp2_with fail
  go_ret
  exact ⟨rfl, (Below.refl _ _).alloc (Nat.le_refl _) _⟩

theorem ta_null_bool (x : Value) (w : World) : (Instr.typeAssert (.iface 135 x) 73 121 true).run Try.prog w = .ok (.tuple #[.agg #[.int .i64 0], .bool false]) w := by kernel_rfl
theorem ta_null_int (x : Value) (w : World) : (Instr.typeAssert (.iface 135 x) 73 122 true).run Try.prog w = .ok (.tuple #[.agg #[.int .i64 0], .bool false]) w := by kernel_rfl
theorem ta_null_text (x : Value) (w : World) : (Instr.typeAssert (.iface 135 x) 73 124 true).run Try.prog w = .ok (.tuple #[.agg #[.string ByteArray.empty], .bool false]) w := by kernel_rfl
theorem ta_null_map (x : Value) (w : World) : (Instr.typeAssert (.iface 135 x) 73 95 true).run Try.prog w = .ok (.tuple #[.agg #[.slice none 0 0, .slice none 0 0], .bool false]) w := by kernel_rfl
theorem ta_bool_bool (x : Value) (w : World) : (Instr.typeAssert (.iface 121 x) 73 121 true).run Try.prog w = .ok (.tuple #[x, .bool true]) w := by kernel_rfl
theorem ta_int_bool (x : Value) (w : World) : (Instr.typeAssert (.iface 122 x) 73 121 true).run Try.prog w = .ok (.tuple #[.agg #[.int .i64 0], .bool false]) w := by kernel_rfl
theorem ta_int_int (x : Value) (w : World) : (Instr.typeAssert (.iface 122 x) 73 122 true).run Try.prog w = .ok (.tuple #[x, .bool true]) w := by kernel_rfl
theorem ta_text_bool (x : Value) (w : World) : (Instr.typeAssert (.iface 124 x) 73 121 true).run Try.prog w = .ok (.tuple #[.agg #[.int .i64 0], .bool false]) w := by kernel_rfl
theorem ta_text_int (x : Value) (w : World) : (Instr.typeAssert (.iface 124 x) 73 122 true).run Try.prog w = .ok (.tuple #[.agg #[.int .i64 0], .bool false]) w := by kernel_rfl
theorem ta_text_text (x : Value) (w : World) : (Instr.typeAssert (.iface 124 x) 73 124 true).run Try.prog w = .ok (.tuple #[x, .bool true]) w := by kernel_rfl
theorem ta_list_bool (x : Value) (w : World) : (Instr.typeAssert (.iface 93 x) 73 121 true).run Try.prog w = .ok (.tuple #[.agg #[.int .i64 0], .bool false]) w := by kernel_rfl
theorem ta_list_int (x : Value) (w : World) : (Instr.typeAssert (.iface 93 x) 73 122 true).run Try.prog w = .ok (.tuple #[.agg #[.int .i64 0], .bool false]) w := by kernel_rfl
theorem ta_list_text (x : Value) (w : World) : (Instr.typeAssert (.iface 93 x) 73 124 true).run Try.prog w = .ok (.tuple #[.agg #[.string ByteArray.empty], .bool false]) w := by kernel_rfl
theorem ta_list_map (x : Value) (w : World) : (Instr.typeAssert (.iface 93 x) 73 95 true).run Try.prog w = .ok (.tuple #[.agg #[.slice none 0 0, .slice none 0 0], .bool false]) w := by kernel_rfl
theorem ta_map_bool (x : Value) (w : World) : (Instr.typeAssert (.iface 95 x) 73 121 true).run Try.prog w = .ok (.tuple #[.agg #[.int .i64 0], .bool false]) w := by kernel_rfl
theorem ta_map_int (x : Value) (w : World) : (Instr.typeAssert (.iface 95 x) 73 122 true).run Try.prog w = .ok (.tuple #[.agg #[.int .i64 0], .bool false]) w := by kernel_rfl
theorem ta_map_text (x : Value) (w : World) : (Instr.typeAssert (.iface 95 x) 73 124 true).run Try.prog w = .ok (.tuple #[.agg #[.string ByteArray.empty], .bool false]) w := by kernel_rfl
theorem ta_map_map (x : Value) (w : World) : (Instr.typeAssert (.iface 95 x) 73 95 true).run Try.prog w = .ok (.tuple #[x, .bool true]) w := by kernel_rfl
theorem fld_bool (n : Int) (w : World) : (Instr.field 121 (.agg #[.int .i64 n]) 0).run Try.prog w = .ok (.int .i64 n) w := by kernel_rfl
theorem fld_int (n : Int) (w : World) : (Instr.field 122 (.agg #[.int .i64 n]) 0).run Try.prog w = .ok (.int .i64 n) w := by kernel_rfl
theorem fld_text (s : ByteArray) (w : World) : (Instr.field 124 (.agg #[.string s]) 0).run Try.prog w = .ok (.string s) w := by kernel_rfl
theorem fld_map (a : Option Addr) (n c : Nat) (y : Value) (w : World) : (Instr.field 95 (.agg #[.slice a n c, y]) 0).run Try.prog w = .ok (.slice a n c) w := by kernel_rfl
theorem Below.next {w w1 w2 : World} (h : Below w.heap.size w w1) (k : Below w1.heap.size w1 w2) : Below w.heap.size w w2 := h.trans (k.mono h.size)
end Go.Proofs.Ytpfnkpkcjefelaa

/-
  What the methods kind say (apart from Kp: a part turning may lack their bodies).
-/
namespace Go.Proofs.Ytpfnkpkcjefelaa
open Go.RowKit
set_option linter.unusedSimpArgs false
set_option linter.unusedVariables false

theorem kind1_any (w : World) : Calls Try.prog 155 #[.agg #[]] w fun e w' => e = .returned (.int .i64 1) ∧ Below w.heap.size w w' := by
  go_enter Try.func155, Try.ntmps155
  go_wp2_with fail
  go_ret
  exact ⟨rfl, (Below.refl _ _).alloc (Nat.le_refl _) _⟩
theorem kind2_any (n : Int) (w : World) : Calls Try.prog 149 #[.agg #[.int .i64 n]] w fun e w' => e = .returned (.int .i64 2) ∧ Below w.heap.size w w' := by
  go_enter Try.func149, Try.ntmps149
  go_wp2_with fail
  go_ret
  exact ⟨rfl, (Below.refl _ _).alloc (Nat.le_refl _) _⟩
theorem kind3_any (n : Int) (w : World) : Calls Try.prog 151 #[.agg #[.int .i64 n]] w fun e w' => e = .returned (.int .i64 3) ∧ Below w.heap.size w w' := by
  go_enter Try.func151, Try.ntmps151
  go_wp2_with fail
  go_ret
  exact ⟨rfl, (Below.refl _ _).alloc (Nat.le_refl _) _⟩
theorem kind4_any (s : ByteArray) (w : World) : Calls Try.prog 153 #[.agg #[.string s]] w fun e w' => e = .returned (.int .i64 4) ∧ Below w.heap.size w w' := by
  go_enter Try.func153, Try.ntmps153
  go_wp2_with fail
  go_ret
  exact ⟨rfl, (Below.refl _ _).alloc (Nat.le_refl _) _⟩
theorem kind5_any (a : Option Addr) (n c : Nat) (w : World) : Calls Try.prog 145 #[.agg #[.slice a n c]] w fun e w' => e = .returned (.int .i64 5) ∧ Below w.heap.size w w' := by
  go_enter Try.func145, Try.ntmps145
  go_wp2_with fail
  go_ret
  exact ⟨rfl, (Below.refl _ _).alloc (Nat.le_refl _) _⟩
theorem kind6_any (a : Option Addr) (n c : Nat) (a' : Option Addr) (n' c' : Nat) (w : World) : Calls Try.prog 147 #[.agg #[.slice a n c, .slice a' n' c']] w fun e w' => e = .returned (.int .i64 6) ∧ Below w.heap.size w w' := by
  go_enter Try.func147, Try.ntmps147
  go_wp2_with fail
  go_ret
  exact ⟨rfl, (Below.refl _ _).alloc (Nat.le_refl _) _⟩
end Go.Proofs.Ytpfnkpkcjefelaa
