/-
  A builder in a struct, kept while other memory is made.
-/
import Derived.Test.YtagcgnhpdmhegaaGreatDoorFBld
import Derived.RangeFuncOwn
import Derived.Shelf.Strings.Repeat
import Derived.Shelf.Small.Wraps
import Derived.Shelf.Strconv.Itoa4
import Derived.Test.YtagcgnhpdmhegaaGreatDoorProg
import Derived.Test.YtagcgnhpdmhegaaGreatDoorIQuo
import Derived.WalkKit
import Derived.Test.YtagcgnhpdmhegaaGreatDoorPhase
namespace Go.Proofs.YtagcgnhpdmhegaaGreatDoor
open Go.RowKit Go.Shelf
set_option linter.unusedSimpArgs false
set_option linter.unusedVariables false

theorem FB.grown {T : TypeId} {B b : Nat} {rest : List Value} {l : List UInt8} {X Y : World} {row : Option Nat} (h : FB T B b rest l X) (hg : X.grownBy Y row) (hr : ∀ r, row = some r → ∃ o : Obj, X.heap[r]? = some o ∧ o.isCells = false) : FB T B b rest l Y := by
  obtain ⟨hB, p, v, hp, hb, hrow, hne⟩ := h
  refine ⟨hB, p, v, hp, (grownBy_keeps_cells hg hr hb rfl).trans hb, ⟨hrow.1, ?_⟩, hne⟩
  rcases hrow.2 with h0 | ⟨g, cap, cur, hv, h1, h2, h3⟩
  · exact .inl h0
  · exact .inr ⟨g, cap, cur, hv, h1, (grownBy_keeps_cells hg hr h2 rfl).trans h2, h3⟩
theorem FB.lt {T : TypeId} {B b : Nat} {rest : List Value} {l : List UInt8} {w : World} (h : FB T B b rest l w) : b < w.heap.size := by
  obtain ⟨hB, p, v, hp, hb, _⟩ := h
  exact lt_heap hb
theorem FB.drew {T : TypeId} {B b : Nat} {rest : List Value} {l : List UInt8} {X : World} (h : FB T B b rest l X) : FB T B b rest l X.drew := h
theorem FB.alloc {T : TypeId} {B b : Nat} {rest : List Value} {l : List UInt8} {X : World} (h : FB T B b rest l X) (o : Obj) : FB T B b rest l (X.alloc o) := h.grown (World.grownBy_alloc X o none) (fun r e => by cases e)

theorem FB.keep {T : TypeId} {B b : Nat} {rest : List Value} {l : List UInt8} {X Y : World} (h : FB T B b rest l X) (hk : Below X.heap.size X Y) : FB T B b rest l Y := by
  obtain ⟨hB, p, v, hp, hb, hrow, hne⟩ := h
  refine ⟨hB, p, v, hp, (hk.block b (lt_heap hb)).trans hb, ⟨hrow.1, ?_⟩, hne⟩
  rcases hrow.2 with h0 | ⟨g, cap, cur, hv, h1, h2, h3⟩
  · exact .inl h0
  · exact .inr ⟨g, cap, cur, hv, h1, (hk.block g (lt_heap h2)).trans h2, h3⟩
theorem call_wbyte (u v : Value) : ∀ w, (callFunc 21 #[u, v]).run Tryz.prog w = .ok (.enter 21 #[u, v]) w := fun w => by kernel_rfl
end Go.Proofs.YtagcgnhpdmhegaaGreatDoor

/-
  The library's contracts of strings.Repeat, strconv.FormatBool and strconv.FormatInt at this program.
-/
namespace Go.Proofs
open Go.Shelf
def Tryz.fmtRen : Go.Shelf.Ren := ⟨fun | 99 => 109 | 105 => 94 | 121 => 38 | 129 => 103 | 165 => 110 | 166 => 37 | 169 => 20 | 170 => 111 | 173 => 39 | 206 => 121 | 212 => 108 | 214 => 72 | 240 => 42 | 241 => 122 | 246 => 73 | 263 => 119 | 264 => 120 | 276 => 77 | 277 => 126 | 283 => 89 | 284 => 90 | 285 => 91 | 286 => 92 | 317 => 102 | 318 => 104 | 319 => 105 | 320 => 106 | 337 => 117 | 338 => 118 | n => n, fun | 37 => 22 | 46 => 135 | 51 => 147 | 53 => 133 | 70 => 39 | 72 => 41 | 75 => 47 | 76 => 74 | 109 => 150 | 127 => 88 | 146 => 158 | 148 => 160 | 164 => 123 | 171 => 136 | 173 => 139 | 212 => 146 | 213 => 148 | 232 => 165 | 233 => 166 | 80 => 45 | n => n, fun | 17 => 0 | 18 => 2 | 19 => 3 | n => n⟩
theorem Tryz.fmtLays105 : Go.Proofs.Lays.n105 Tryz.prog Tryz.fmtRen := {
  mixed := by kernel_rfl
  f99 := Tryz.func109.trans (congrArg some (by kernel_rfl))
  f105 := Tryz.func94.trans (congrArg some (by kernel_rfl))
  f165 := Tryz.func110.trans (congrArg some (by kernel_rfl))
  f166 := Tryz.func37.trans (congrArg some (by kernel_rfl))
  f169 := Tryz.func20.trans (congrArg some (by kernel_rfl))
  f170 := Tryz.func111.trans (congrArg some (by kernel_rfl))
  f206 := Tryz.func121.trans (congrArg some (by kernel_rfl))
  f212 := Tryz.func108.trans (congrArg some (by kernel_rfl))
  f240 := Tryz.func42.trans (congrArg some (by kernel_rfl))
  f241 := Tryz.func122.trans (congrArg some (by kernel_rfl))
  f263 := Tryz.func119.trans (congrArg some (by kernel_rfl))
  f264 := Tryz.func120.trans (congrArg some (by kernel_rfl))
  f276 := Tryz.func77.trans (congrArg some (by kernel_rfl))
  f277 := Tryz.func126.trans (congrArg some (by kernel_rfl))
  t0 := Tryz.underlying0
  a0 := Tryz.isAgg0
  z0 := Tryz.sizeOf0
  v0 := Tryz.zeroValue0
  t3 := Tryz.underlying3
  a3 := Tryz.isAgg3
  z3 := Tryz.sizeOf3
  v3 := Tryz.zeroValue3
  t4 := Tryz.underlying4
  a4 := Tryz.isAgg4
  z4 := Tryz.sizeOf4
  v4 := Tryz.zeroValue4
  t5 := Tryz.underlying5
  a5 := Tryz.isAgg5
  z5 := Tryz.sizeOf5
  v5 := Tryz.zeroValue5
  t9 := Tryz.underlying9
  a9 := Tryz.isAgg9
  z9 := Tryz.sizeOf9
  v9 := Tryz.zeroValue9
  t20 := Tryz.underlying20
  a20 := Tryz.isAgg20
  z20 := Tryz.sizeOf20
  v20 := Tryz.zeroValue20
  t37 := Tryz.underlying22
  a37 := Tryz.isAgg22
  z37 := Tryz.sizeOf22
  v37 := Tryz.zeroValue22
  t46 := Tryz.underlying135
  a46 := Tryz.isAgg135
  z46 := Tryz.sizeOf135
  v46 := Tryz.zeroValue135
  t51 := Tryz.underlying147
  a51 := Tryz.isAgg147
  z51 := Tryz.sizeOf147
  v51 := Tryz.zeroValue147
  t53 := Tryz.underlying133
  a53 := Tryz.isAgg133
  z53 := Tryz.sizeOf133
  v53 := Tryz.zeroValue133
  t70 := Tryz.underlying39
  a70 := Tryz.isAgg39
  z70 := Tryz.sizeOf39
  v70 := Tryz.zeroValue39
  t72 := Tryz.underlying41
  a72 := Tryz.isAgg41
  z72 := Tryz.sizeOf41
  v72 := Tryz.zeroValue41
  t75 := Tryz.underlying47
  a75 := Tryz.isAgg47
  z75 := Tryz.sizeOf47
  v75 := Tryz.zeroValue47
  t76 := Tryz.underlying74
  a76 := Tryz.isAgg74
  z76 := Tryz.sizeOf74
  v76 := Tryz.zeroValue74
  t109 := Tryz.underlying150
  a109 := Tryz.isAgg150
  z109 := Tryz.sizeOf150
  v109 := Tryz.zeroValue150
  t127 := Tryz.underlying88
  a127 := Tryz.isAgg88
  z127 := Tryz.sizeOf88
  v127 := Tryz.zeroValue88
  t146 := Tryz.underlying158
  a146 := Tryz.isAgg158
  z146 := Tryz.sizeOf158
  v146 := Tryz.zeroValue158
  t148 := Tryz.underlying160
  a148 := Tryz.isAgg160
  z148 := Tryz.sizeOf160
  v148 := Tryz.zeroValue160
  t164 := Tryz.underlying123
  a164 := Tryz.isAgg123
  z164 := Tryz.sizeOf123
  v164 := Tryz.zeroValue123
}
theorem Tryz.fmtLays121 : Go.Proofs.Lays.n121 Tryz.prog Tryz.fmtRen := {
  mixed := by kernel_rfl
  f121 := Tryz.func38.trans (congrArg some (by kernel_rfl))
  f214 := Tryz.func72.trans (congrArg some (by kernel_rfl))
  t4 := Tryz.underlying4
  a4 := Tryz.isAgg4
  z4 := Tryz.sizeOf4
  v4 := Tryz.zeroValue4
  t9 := Tryz.underlying9
  a9 := Tryz.isAgg9
  z9 := Tryz.sizeOf9
  v9 := Tryz.zeroValue9
}
theorem Tryz.fmtLays173 : Go.Proofs.LaysM.n173 Tryz.prog Tryz.fmtRen := {
  mixed := by kernel_rfl
  f129 := Tryz.func103.trans (congrArg some (by kernel_rfl))
  f173 := Tryz.func39.trans (congrArg some (by kernel_rfl))
  f246 := Tryz.func73.trans (congrArg some (by kernel_rfl))
  f283 := Tryz.func89.trans (congrArg some (by kernel_rfl))
  f284 := Tryz.func90.trans (congrArg some (by kernel_rfl))
  f285 := Tryz.func91.trans (congrArg some (by kernel_rfl))
  f286 := Tryz.func92.trans (congrArg some (by kernel_rfl))
  f317 := Tryz.func102.trans (congrArg some (by kernel_rfl))
  f318 := Tryz.func104.trans (congrArg some (by kernel_rfl))
  f319 := Tryz.func105.trans (congrArg some (by kernel_rfl))
  f320 := Tryz.func106.trans (congrArg some (by kernel_rfl))
  f337 := Tryz.func117.trans (congrArg some (by kernel_rfl))
  f338 := Tryz.func118.trans (congrArg some (by kernel_rfl))
  t0 := Tryz.underlying0
  a0 := Tryz.isAgg0
  z0 := Tryz.sizeOf0
  v0 := Tryz.zeroValue0
  t2 := Tryz.underlying2
  a2 := Tryz.isAgg2
  z2 := Tryz.sizeOf2
  v2 := Tryz.zeroValue2
  t3 := Tryz.underlying3
  a3 := Tryz.isAgg3
  z3 := Tryz.sizeOf3
  v3 := Tryz.zeroValue3
  t4 := Tryz.underlying4
  a4 := Tryz.isAgg4
  z4 := Tryz.sizeOf4
  v4 := Tryz.zeroValue4
  t5 := Tryz.underlying5
  a5 := Tryz.isAgg5
  z5 := Tryz.sizeOf5
  v5 := Tryz.zeroValue5
  t9 := Tryz.underlying9
  a9 := Tryz.isAgg9
  z9 := Tryz.sizeOf9
  v9 := Tryz.zeroValue9
  t20 := Tryz.underlying20
  a20 := Tryz.isAgg20
  z20 := Tryz.sizeOf20
  v20 := Tryz.zeroValue20
  t37 := Tryz.underlying22
  a37 := Tryz.isAgg22
  z37 := Tryz.sizeOf22
  v37 := Tryz.zeroValue22
  t46 := Tryz.underlying135
  a46 := Tryz.isAgg135
  z46 := Tryz.sizeOf135
  v46 := Tryz.zeroValue135
  t51 := Tryz.underlying147
  a51 := Tryz.isAgg147
  z51 := Tryz.sizeOf147
  v51 := Tryz.zeroValue147
  t53 := Tryz.underlying133
  a53 := Tryz.isAgg133
  z53 := Tryz.sizeOf133
  v53 := Tryz.zeroValue133
  t171 := Tryz.underlying136
  a171 := Tryz.isAgg136
  z171 := Tryz.sizeOf136
  v171 := Tryz.zeroValue136
  t173 := Tryz.underlying139
  a173 := Tryz.isAgg139
  z173 := Tryz.sizeOf139
  v173 := Tryz.zeroValue139
  t212 := Tryz.underlying146
  a212 := Tryz.isAgg146
  z212 := Tryz.sizeOf146
  v212 := Tryz.zeroValue146
  t213 := Tryz.underlying148
  a213 := Tryz.isAgg148
  z213 := Tryz.sizeOf148
  t232 := Tryz.underlying165
  a232 := Tryz.isAgg165
  z232 := Tryz.sizeOf165
  v232 := Tryz.zeroValue165
  t233 := Tryz.underlying166
  a233 := Tryz.isAgg166
  z233 := Tryz.sizeOf166
  v233 := Tryz.zeroValue166
  g17 := by kernel_rfl
  g18 := by kernel_rfl
  g19 := by kernel_rfl
  i0 := by kernel_rfl
  i2 := by kernel_rfl
  i3 := by kernel_rfl
  i4 := by kernel_rfl
  i5 := by kernel_rfl
  i9 := by kernel_rfl
  i20 := by kernel_rfl
  i37 := by kernel_rfl
  i46 := by kernel_rfl
  i51 := by kernel_rfl
  i53 := by kernel_rfl
  i171 := by kernel_rfl
  i173 := by kernel_rfl
  i212 := by kernel_rfl
  i232 := by kernel_rfl
  i233 := by kernel_rfl
  m17 := by kernel_rfl
  m18 := by kernel_rfl
  m19 := by kernel_rfl
}
theorem Tryz.fmtExtra : Builder.Extra Tryz.prog Tryz.fmtRen := {
  sizeBuilder := by kernel_rfl
  liesBuilder := by kernel_rfl
  t5 := Tryz.underlying5
  a5 := Tryz.isAgg5
  z5 := Tryz.sizeOf5
  v5 := Tryz.zeroValue5
  infoByte := by kernel_rfl
  cellsByte := by kernel_rfl
  sizeByte := by kernel_rfl
  neB5 := by decide
}
end Go.Proofs
namespace Go.Proofs.YtagcgnhpdmhegaaGreatDoor
open Go.Shelf Go.RowKit
theorem repeat_any (s : ByteArray) (c : Nat) (w : World) (hlen : s.size * c ≤ 140737488355328) (hc : c ≤ 9223372036854775807) : Calls Tryz.prog 94 #[.string s, .int .i64 c] w fun e w' => e = .returned (.string ⟨(Lib.repeatL s.data.toList c).toArray⟩) ∧ Below w.heap.size w w' :=
  Any.strings_Repeat Tryz.fmtLays105 Tryz.fmtExtra s c w hc hlen
theorem formatBool_any (b : Bool) (w : World) : Calls Tryz.prog 38 #[.bool b] w fun e w' => e = .returned (.string ⟨(Lib.formatBool b).toArray⟩) ∧ w' = w :=
  Any.strconv_FormatBool Tryz.fmtLays121 b w
theorem formatInt_any (n : Int) (h0 : -9223372036854775808 ≤ n) (h1 : n ≤ 9223372036854775807) (w : World) (htab : Lib.TabIs Tryz.prog w "internal/strconv.uint64pow10" .u64 Lib.pow10Tab) :
    Calls Tryz.prog 39 #[.int .i64 n, .int .i64 10] w fun e w' => e = .returned (.string ⟨(Lib.itoa n).toArray⟩) ∧ Below w.heap.size w w' :=
  (Any.strconv_FormatInt_10 Tryz.fmtLays173 n h0 h1 w htab).mono fun e w' ⟨h, k, os, hw⟩ => ⟨h, hw ▸ ⟨rfl, rfl, rfl, by simp [Go.Sort.grow], fun b hb => by simp [Go.Sort.grow, Array.getElem?_append_left hb]⟩⟩
end Go.Proofs.YtagcgnhpdmhegaaGreatDoor

/-
  Which type lies behind the interface: all pairs, in the order of a type switch.
-/
namespace Go.Proofs.YtagcgnhpdmhegaaGreatDoor
open Go.RowKit
theorem tw_null_null (x : Value) (w : World) : (Instr.typeAssert (.iface 73 x) 36 73 true).run Tryz.prog w = .ok (.tuple #[x, .bool true]) w := by kernel_rfl
theorem tw_bool_null (x : Value) (w : World) : (Instr.typeAssert (.iface 77 x) 36 73 true).run Tryz.prog w = .ok (.tuple #[.agg #[], .bool false]) w := by kernel_rfl
theorem tw_bool_bool (x : Value) (w : World) : (Instr.typeAssert (.iface 77 x) 36 77 true).run Tryz.prog w = .ok (.tuple #[x, .bool true]) w := by kernel_rfl
theorem tw_int_null (x : Value) (w : World) : (Instr.typeAssert (.iface 79 x) 36 73 true).run Tryz.prog w = .ok (.tuple #[.agg #[], .bool false]) w := by kernel_rfl
theorem tw_int_bool (x : Value) (w : World) : (Instr.typeAssert (.iface 79 x) 36 77 true).run Tryz.prog w = .ok (.tuple #[.agg #[.int .i64 0], .bool false]) w := by kernel_rfl
theorem tw_int_int (x : Value) (w : World) : (Instr.typeAssert (.iface 79 x) 36 79 true).run Tryz.prog w = .ok (.tuple #[x, .bool true]) w := by kernel_rfl
theorem tw_text_null (x : Value) (w : World) : (Instr.typeAssert (.iface 82 x) 36 73 true).run Tryz.prog w = .ok (.tuple #[.agg #[], .bool false]) w := by kernel_rfl
theorem tw_text_bool (x : Value) (w : World) : (Instr.typeAssert (.iface 82 x) 36 77 true).run Tryz.prog w = .ok (.tuple #[.agg #[.int .i64 0], .bool false]) w := by kernel_rfl
theorem tw_text_int (x : Value) (w : World) : (Instr.typeAssert (.iface 82 x) 36 79 true).run Tryz.prog w = .ok (.tuple #[.agg #[.int .i64 0], .bool false]) w := by kernel_rfl
theorem tw_text_text (x : Value) (w : World) : (Instr.typeAssert (.iface 82 x) 36 82 true).run Tryz.prog w = .ok (.tuple #[x, .bool true]) w := by kernel_rfl
theorem tw_list_null (x : Value) (w : World) : (Instr.typeAssert (.iface 84 x) 36 73 true).run Tryz.prog w = .ok (.tuple #[.agg #[], .bool false]) w := by kernel_rfl
theorem tw_list_bool (x : Value) (w : World) : (Instr.typeAssert (.iface 84 x) 36 77 true).run Tryz.prog w = .ok (.tuple #[.agg #[.int .i64 0], .bool false]) w := by kernel_rfl
theorem tw_list_int (x : Value) (w : World) : (Instr.typeAssert (.iface 84 x) 36 79 true).run Tryz.prog w = .ok (.tuple #[.agg #[.int .i64 0], .bool false]) w := by kernel_rfl
theorem tw_list_text (x : Value) (w : World) : (Instr.typeAssert (.iface 84 x) 36 82 true).run Tryz.prog w = .ok (.tuple #[.agg #[.string ByteArray.empty], .bool false]) w := by kernel_rfl
theorem tw_list_list (x : Value) (w : World) : (Instr.typeAssert (.iface 84 x) 36 84 true).run Tryz.prog w = .ok (.tuple #[x, .bool true]) w := by kernel_rfl
theorem tw_map_null (x : Value) (w : World) : (Instr.typeAssert (.iface 87 x) 36 73 true).run Tryz.prog w = .ok (.tuple #[.agg #[], .bool false]) w := by kernel_rfl
theorem tw_map_bool (x : Value) (w : World) : (Instr.typeAssert (.iface 87 x) 36 77 true).run Tryz.prog w = .ok (.tuple #[.agg #[.int .i64 0], .bool false]) w := by kernel_rfl
theorem tw_map_int (x : Value) (w : World) : (Instr.typeAssert (.iface 87 x) 36 79 true).run Tryz.prog w = .ok (.tuple #[.agg #[.int .i64 0], .bool false]) w := by kernel_rfl
theorem tw_map_text (x : Value) (w : World) : (Instr.typeAssert (.iface 87 x) 36 82 true).run Tryz.prog w = .ok (.tuple #[.agg #[.string ByteArray.empty], .bool false]) w := by kernel_rfl
theorem tw_map_list (x : Value) (w : World) : (Instr.typeAssert (.iface 87 x) 36 84 true).run Tryz.prog w = .ok (.tuple #[.agg #[.slice none 0 0], .bool false]) w := by kernel_rfl
theorem tw_map_map (x : Value) (w : World) : (Instr.typeAssert (.iface 87 x) 36 87 true).run Tryz.prog w = .ok (.tuple #[x, .bool true]) w := by kernel_rfl
end Go.Proofs.YtagcgnhpdmhegaaGreatDoor

/-
  The program's jsonWriter: lines, keys, and what a number, a Boolean and a text are written as.
-/
namespace Go.Proofs.YtagcgnhpdmhegaaGreatDoor
open Go.RowKit
set_option linter.unusedSimpArgs false
set_option linter.unusedVariables false

/-- The table of powers of ten stands, whatever is made from block 'B' on. -/
def TabB (B : Nat) (w : World) : Prop := ∀ w', Below B w w' → Lib.TabIs Tryz.prog w' "internal/strconv.uint64pow10" .u64 Lib.pow10Tab
theorem TabB.next {B : Nat} {w w' : World} (h : TabB B w) (hb : Below B w w') : TabB B w' := fun w2 h2 => h w2 (hb.trans h2)
theorem TabB.wide {B C : Nat} {w : World} (h : TabB B w) (hBC : B ≤ C) : TabB C w := fun w2 h2 => h w2 (h2.mono hBC)
theorem FB.lines {T : TypeId} {B b : Nat} {x : Bool} {l : List UInt8} {w : World} (h : FB T B b [.bool x] l w) : w.cell? ⟨b, 2, none⟩ = some (.bool x) := by
  obtain ⟨_, p, v, _, hb, _⟩ := h
  exact cellAt hb rfl
theorem call_wstr (u v : Value) : ∀ w, (callFunc 37 #[u, v]).run Tryz.prog w = .ok (.enter 37 #[u, v]) w := fun w => by kernel_rfl
theorem call_rep (u v : Value) : ∀ w, (callFunc 94 #[u, v]).run Tryz.prog w = .ok (.enter 94 #[u, v]) w := fun w => by kernel_rfl
theorem call_quo (u : Value) : ∀ w, (callFunc 40 #[u]).run Tryz.prog w = .ok (.enter 40 #[u]) w := fun w => by kernel_rfl
theorem repeat_blanks (d : Nat) : Lib.repeatL [32, 32] d = List.replicate (2 * d) 32 := by
  induction d with
  | zero => rfl
  | succ d ih => rw [Lib.repeatL, ih, show 2 * (d + 1) = 2 * d + 1 + 1 by omega, List.replicate_succ, List.replicate_succ]; rfl

set_option maxRecDepth 100000 in
set_option maxHeartbeats 1600000 in
theorem beginLine_any {B b : Nat} {x : Bool} {l : List UInt8} {w : World} (hT : FT 43 1) (h : FB 43 B b [.bool x] l w) (d : Nat) (hd : d ≤ 1000) (hlen : l.length ≤ 100000000) (hBw : B ≤ w.heap.size) :
    Calls Tryz.prog 75 #[.pointer (some ⟨b, 0, none⟩), .int .i64 d] w fun e w' => e = .returned (.tuple #[]) ∧ FB 43 B b [.bool x] (l ++ lineJ x d) w' ∧ Below B w w' ∧ Beside b w w' := by
  have HF := hideB h
  have c2 := h.lines
  clear h
  cases x
  · have HE : Hid (l ++ lineJ false d = l) := by rw [Hid, lineJ]; simp
    rw [HE.out]
    go_enter Tryz.func75, Tryz.ntmps75
    go_wp2_with fail
    go_end0
    exact ⟨rfl, HF.out, Below.refl _ _, Beside.refl _ _⟩
  · have HE : Hid (l ++ lineJ true d = l ++ [10] ++ (ByteArray.mk (Lib.repeatL (ByteArray.mk #[32, 32]).data.toList d).toArray).data.toList) := by
      rw [Hid, lineJ, if_pos rfl, List.append_assoc]
      show l ++ 10 :: List.replicate (2 * d) 32 = l ++ ([10] ++ Lib.repeatL [32, 32] d)
      rw [repeat_blanks]; rfl
    have hsz : (ByteArray.mk (Lib.repeatL (ByteArray.mk #[32, 32]).data.toList d).toArray).size ≤ 2000 := by
      show (Lib.repeatL [32, 32] d).toArray.size ≤ 2000
      rw [repeat_blanks]; simp; omega
    rw [HE.out]
    obtain ⟨S, hS⟩ : ∃ S, ByteArray.mk (Lib.repeatL (ByteArray.mk #[32, 32]).data.toList d).toArray = S := ⟨_, rfl⟩
    have CR := hideB (fun w => repeat_any ⟨#[32, 32]⟩ d w (by show 2 * d ≤ _; omega) (by omega))
    rw [hS] at hsz ⊢
    rw [hS] at CR
    clear hS HE
    go_enter Tryz.func75, Tryz.ntmps75
    go_wp2_with (go_at_call 21; refine (fb_byte hT HF.out 10 (by omega) hBw).mono ?_; rintro e w1 ⟨rfl, f1, b1, k1⟩; have z1 := b1.size)
    have HF1 := hideB f1
    clear f1
    go_region_law (first
      | (refine step_call2 (by rfl) 94 _ _ _ _ (by rfl) (.string ⟨#[32, 32]⟩) (.int .i64 d) (by rfl) (by rfl) (call_rep _ _) (CR.out _) ?_; rintro e w2 ⟨rfl, b2⟩; have z2 : w1.heap.size ≤ w2.heap.size := b2.size; refine ⟨_, rfl, ?_⟩)
      | (refine step_call2 (by rfl) 37 _ _ _ _ (by rfl) (.pointer (some ⟨b, 0, none⟩)) (.string S) (by rfl) (by rfl) (call_wstr _ _) (fb_text hT (HF1.out.drew.keep b2) S (by rw [List.length_append]; simp; omega) (by omega)) ?_; rintro e w3 ⟨rfl, f3, b3, k3⟩; refine ⟨_, rfl, ?_⟩))
    all_goals (
      go_wp2_with fail
      go_end0
      exact ⟨rfl, f3, ((b1.drew).trans (b2.mono (show B ≤ w1.drew.heap.size from Nat.le_trans hBw z1))).trans b3, (k1.trans (Beside.below (w := w1.drew) b2)).trans k3⟩)

set_option maxRecDepth 100000 in
set_option maxHeartbeats 1600000 in
theorem writeKey_any {B b : Nat} {x : Bool} {l : List UInt8} {w : World} (hT : FT 43 1) (h : FB 43 B b [.bool x] l w) (key : ByteArray) (hk : key.size ≤ 60) (hlen : l.length ≤ 100000000) (hBw : B ≤ w.heap.size) :
    Calls Tryz.prog 76 #[.pointer (some ⟨b, 0, none⟩), .string key] w fun e w' => e = .returned (.tuple #[]) ∧ FB 43 B b [.bool x] (l ++ keyJ x key) w' ∧ Below B w w' ∧ Beside b w w' := by
  have HF := hideB h
  clear h
  have hql := (quoT_len key).2
  have CQ := hideB (fun w => iQuo_any key w (by omega))
  have HE : Hid (keyJ x key = quoT key ++ 58 :: (if x = true then [32] else [])) := rfl
  obtain ⟨Q, hQ⟩ : ∃ Q, quoT key = Q := ⟨_, rfl⟩
  rw [hQ] at hql CQ HE
  clear hQ
  have hqs : (txt Q).size ≤ 362 := by rw [txt_size]; omega
  have HQ : Hid ((txt Q).data.toList = Q) := bytes_txt Q
  go_enter Tryz.func76, Tryz.ntmps76
  go_wp2_with fail
  go_region_law (first
    | (refine step_call1 (by rfl) 40 _ _ (by rfl) (.string key) (by rfl) (call_quo _) (CQ.out _) ?_; rintro e w1 ⟨rfl, b1⟩; have z1 : w.heap.size ≤ w1.heap.size := b1.size; refine ⟨_, rfl, ?_⟩)
    | (refine step_call2 (by rfl) 37 _ _ _ _ (by rfl) (.pointer (some ⟨b, 0, none⟩)) (.string (txt Q)) (by rfl) (by rfl) (call_wstr _ _) (fb_text hT (HF.out.drew.keep b1) (txt Q) (by omega) (by omega)) ?_; rintro e w2 ⟨rfl, f2, b2, k2⟩; have z2 := b2.size; refine ⟨_, rfl, ?_⟩))
  all_goals (
    rw [HQ.out] at f2
    have HF2 := hideB f2
    have HB2 := hideB (((Below.drew (Below.refl B w)).trans (b1.mono (show B ≤ w.drew.heap.size from hBw))).trans b2)
    have HK2 := hideB ((Beside.below (b := b) (w := w.drew) b1).trans k2)
    clear f2 b1 b2 k2
    go_wp2_with fail
    refine (fb_byte hT HF2.out 58 (by rw [List.length_append]; omega) (by omega)).mono ?_
    rintro e w3 ⟨rfl, f3, b3, k3⟩
    have c2 := f3.lines
    have z3 := b3.size
    have HF3 := hideB f3
    clear f3
    cases x
    · go_wp2_with fail
      go_end0
      exact ⟨rfl, by rw [HE.out]; simpa using HF3.out, HB2.out.trans b3, HK2.out.trans k3⟩
    · go_wp2_with fail
      refine (fb_byte hT HF3.out 32 (by simp; omega) (by omega)).mono ?_
      rintro e w4 ⟨rfl, f4, b4, k4⟩
      go_wp2_with fail
      go_end0
      exact ⟨rfl, by rw [HE.out]; simpa using f4, (HB2.out.trans b3).trans b4, (HK2.out.trans k3).trans k4⟩)
end Go.Proofs.YtagcgnhpdmhegaaGreatDoor
