/-
  A builder in a struct, kept while other memory is made.
-/
import Derived.Test.YtehihemfepbmfaaGreatDoorFBld
import Derived.RangeFuncOwn
import Derived.Shelf.Strings.Repeat
import Derived.Shelf.Small.Wraps
import Derived.Shelf.Strconv.Itoa4
import Derived.Test.YtehihemfepbmfaaGreatDoorProg
import Derived.Test.YtehihemfepbmfaaGreatDoorIQuo
import Derived.WalkKit
import Derived.Test.YtehihemfepbmfaaGreatDoorRowB
import Derived.Test.YtehihemfepbmfaaGreatDoorStepC
namespace Go.Proofs.YtehihemfepbmfaaGreatDoor
open Go.RowKit Go.Shelf
set_option linter.unusedSimpArgs false
set_option linter.unusedVariables false

theorem FB.grown {T : TypeId} {B b : Nat} {rest : List Value} {l : List UInt8} {X Y : World} {row : Option Nat} (h : FB T B b rest l X) (hg : X.grownBy Y row) (hr : ∀ r, row = some r → ∃ o : Obj, X.heap[r]? = some o ∧ o.isCells = false) : FB T B b rest l Y := by
  obtain ⟨hB, p, v, hp, hb, hrow, hne⟩ := h
  refine ⟨hB, p, v, hp, (grownBy_keeps_cells hg hr hb rfl).trans hb, ⟨hrow.1, ?_⟩, hne⟩
  rcases hrow.2 with h0 | ⟨g, cap, cur, hv, h1, h2, h3⟩
  · exact .inl h0
  · exact .inr ⟨g, cap, cur, hv, h1, (grownBy_keeps_cells hg hr h2 rfl).trans h2, h3⟩
theorem FB.lt {T : TypeId} {B b : Nat} {rest : List Value} {l : List UInt8} {w : World} (h : FB T B b rest l w) : b < w.heap.size := by
  obtain ⟨hB, p, v, hp, hb, _⟩ := h
  exact lt_heap hb
theorem FB.drew {T : TypeId} {B b : Nat} {rest : List Value} {l : List UInt8} {X : World} (h : FB T B b rest l X) : FB T B b rest l X.drew := h
theorem FB.alloc {T : TypeId} {B b : Nat} {rest : List Value} {l : List UInt8} {X : World} (h : FB T B b rest l X) (o : Obj) : FB T B b rest l (X.alloc o) := h.grown (World.grownBy_alloc X o none) (fun r e => by cases e)

theorem FB.keep {T : TypeId} {B b : Nat} {rest : List Value} {l : List UInt8} {X Y : World} (h : FB T B b rest l X) (hk : Below X.heap.size X Y) : FB T B b rest l Y := by
  obtain ⟨hB, p, v, hp, hb, hrow, hne⟩ := h
  refine ⟨hB, p, v, hp, (hk.block b (lt_heap hb)).trans hb, ⟨hrow.1, ?_⟩, hne⟩
  rcases hrow.2 with h0 | ⟨g, cap, cur, hv, h1, h2, h3⟩
  · exact .inl h0
  · exact .inr ⟨g, cap, cur, hv, h1, (hk.block g (lt_heap h2)).trans h2, h3⟩
theorem call_wbyte (u v : Value) : ∀ w, (callFunc 131 #[u, v]).run Tryz.prog w = .ok (.enter 131 #[u, v]) w := fun w => by kernel_rfl
end Go.Proofs.YtehihemfepbmfaaGreatDoor

/-
  The library's contracts of strings.Repeat, strconv.FormatBool and strconv.FormatInt at this program.
-/
namespace Go.Proofs
open Go.Shelf
def Tryz.fmtRen : Go.Shelf.Ren := ⟨fun | 99 => 201 | 105 => 196 | 121 => 164 | 129 => 183 | 165 => 202 | 166 => 92 | 169 => 24 | 170 => 203 | 173 => 93 | 206 => 211 | 212 => 200 | 214 => 187 | 240 => 127 | 241 => 212 | 246 => 128 | 263 => 209 | 264 => 210 | 276 => 158 | 277 => 218 | 283 => 159 | 284 => 160 | 285 => 161 | 286 => 162 | 317 => 182 | 318 => 184 | 319 => 185 | 320 => 186 | 337 => 194 | 338 => 195 | n => n, fun | 37 => 22 | 46 => 160 | 51 => 170 | 53 => 158 | 70 => 38 | 72 => 40 | 75 => 126 | 76 => 127 | 109 => 236 | 127 => 97 | 146 => 245 | 148 => 247 | 164 => 183 | 171 => 185 | 173 => 188 | 212 => 220 | 213 => 221 | 232 => 234 | 233 => 235 | 80 => 44 | n => n, fun | 17 => 4 | 18 => 8 | 19 => 9 | n => n⟩
theorem Tryz.fmtLays105 : Go.Proofs.Lays.n105 Tryz.prog Tryz.fmtRen := {
  mixed := by kernel_rfl
  f99 := Tryz.func201.trans (congrArg some (by kernel_rfl))
  f105 := Tryz.func196.trans (congrArg some (by kernel_rfl))
  f165 := Tryz.func202.trans (congrArg some (by kernel_rfl))
  f166 := Tryz.func92.trans (congrArg some (by kernel_rfl))
  f169 := Tryz.func24.trans (congrArg some (by kernel_rfl))
  f170 := Tryz.func203.trans (congrArg some (by kernel_rfl))
  f206 := Tryz.func211.trans (congrArg some (by kernel_rfl))
  f212 := Tryz.func200.trans (congrArg some (by kernel_rfl))
  f240 := Tryz.func127.trans (congrArg some (by kernel_rfl))
  f241 := Tryz.func212.trans (congrArg some (by kernel_rfl))
  f263 := Tryz.func209.trans (congrArg some (by kernel_rfl))
  f264 := Tryz.func210.trans (congrArg some (by kernel_rfl))
  f276 := Tryz.func158.trans (congrArg some (by kernel_rfl))
  f277 := Tryz.func218.trans (congrArg some (by kernel_rfl))
  t0 := Tryz.underlying0
  a0 := Tryz.isAgg0
  z0 := Tryz.sizeOf0
  v0 := Tryz.zeroValue0
  t3 := Tryz.underlying3
  a3 := Tryz.isAgg3
  z3 := Tryz.sizeOf3
  v3 := Tryz.zeroValue3
  t4 := Tryz.underlying4
  a4 := Tryz.isAgg4
  z4 := Tryz.sizeOf4
  v4 := Tryz.zeroValue4
  t5 := Tryz.underlying5
  a5 := Tryz.isAgg5
  z5 := Tryz.sizeOf5
  v5 := Tryz.zeroValue5
  t9 := Tryz.underlying9
  a9 := Tryz.isAgg9
  z9 := Tryz.sizeOf9
  v9 := Tryz.zeroValue9
  t20 := Tryz.underlying20
  a20 := Tryz.isAgg20
  z20 := Tryz.sizeOf20
  v20 := Tryz.zeroValue20
  t37 := Tryz.underlying22
  a37 := Tryz.isAgg22
  z37 := Tryz.sizeOf22
  v37 := Tryz.zeroValue22
  t46 := Tryz.underlying160
  a46 := Tryz.isAgg160
  z46 := Tryz.sizeOf160
  v46 := Tryz.zeroValue160
  t51 := Tryz.underlying170
  a51 := Tryz.isAgg170
  z51 := Tryz.sizeOf170
  v51 := Tryz.zeroValue170
  t53 := Tryz.underlying158
  a53 := Tryz.isAgg158
  z53 := Tryz.sizeOf158
  v53 := Tryz.zeroValue158
  t70 := Tryz.underlying38
  a70 := Tryz.isAgg38
  z70 := Tryz.sizeOf38
  v70 := Tryz.zeroValue38
  t72 := Tryz.underlying40
  a72 := Tryz.isAgg40
  z72 := Tryz.sizeOf40
  v72 := Tryz.zeroValue40
  t75 := Tryz.underlying126
  a75 := Tryz.isAgg126
  z75 := Tryz.sizeOf126
  v75 := Tryz.zeroValue126
  t76 := Tryz.underlying127
  a76 := Tryz.isAgg127
  z76 := Tryz.sizeOf127
  v76 := Tryz.zeroValue127
  t109 := Tryz.underlying236
  a109 := Tryz.isAgg236
  z109 := Tryz.sizeOf236
  v109 := Tryz.zeroValue236
  t127 := Tryz.underlying97
  a127 := Tryz.isAgg97
  z127 := Tryz.sizeOf97
  v127 := Tryz.zeroValue97
  t146 := Tryz.underlying245
  a146 := Tryz.isAgg245
  z146 := Tryz.sizeOf245
  v146 := Tryz.zeroValue245
  t148 := Tryz.underlying247
  a148 := Tryz.isAgg247
  z148 := Tryz.sizeOf247
  v148 := Tryz.zeroValue247
  t164 := Tryz.underlying183
  a164 := Tryz.isAgg183
  z164 := Tryz.sizeOf183
  v164 := Tryz.zeroValue183
}
theorem Tryz.fmtLays121 : Go.Proofs.Lays.n121 Tryz.prog Tryz.fmtRen := {
  mixed := by kernel_rfl
  f121 := Tryz.func164.trans (congrArg some (by kernel_rfl))
  f214 := Tryz.func187.trans (congrArg some (by kernel_rfl))
  t4 := Tryz.underlying4
  a4 := Tryz.isAgg4
  z4 := Tryz.sizeOf4
  v4 := Tryz.zeroValue4
  t9 := Tryz.underlying9
  a9 := Tryz.isAgg9
  z9 := Tryz.sizeOf9
  v9 := Tryz.zeroValue9
}
theorem Tryz.fmtLays173 : Go.Proofs.LaysM.n173 Tryz.prog Tryz.fmtRen := {
  mixed := by kernel_rfl
  f129 := Tryz.func183.trans (congrArg some (by kernel_rfl))
  f173 := Tryz.func93.trans (congrArg some (by kernel_rfl))
  f246 := Tryz.func128.trans (congrArg some (by kernel_rfl))
  f283 := Tryz.func159.trans (congrArg some (by kernel_rfl))
  f284 := Tryz.func160.trans (congrArg some (by kernel_rfl))
  f285 := Tryz.func161.trans (congrArg some (by kernel_rfl))
  f286 := Tryz.func162.trans (congrArg some (by kernel_rfl))
  f317 := Tryz.func182.trans (congrArg some (by kernel_rfl))
  f318 := Tryz.func184.trans (congrArg some (by kernel_rfl))
  f319 := Tryz.func185.trans (congrArg some (by kernel_rfl))
  f320 := Tryz.func186.trans (congrArg some (by kernel_rfl))
  f337 := Tryz.func194.trans (congrArg some (by kernel_rfl))
  f338 := Tryz.func195.trans (congrArg some (by kernel_rfl))
  t0 := Tryz.underlying0
  a0 := Tryz.isAgg0
  z0 := Tryz.sizeOf0
  v0 := Tryz.zeroValue0
  t2 := Tryz.underlying2
  a2 := Tryz.isAgg2
  z2 := Tryz.sizeOf2
  v2 := Tryz.zeroValue2
  t3 := Tryz.underlying3
  a3 := Tryz.isAgg3
  z3 := Tryz.sizeOf3
  v3 := Tryz.zeroValue3
  t4 := Tryz.underlying4
  a4 := Tryz.isAgg4
  z4 := Tryz.sizeOf4
  v4 := Tryz.zeroValue4
  t5 := Tryz.underlying5
  a5 := Tryz.isAgg5
  z5 := Tryz.sizeOf5
  v5 := Tryz.zeroValue5
  t9 := Tryz.underlying9
  a9 := Tryz.isAgg9
  z9 := Tryz.sizeOf9
  v9 := Tryz.zeroValue9
  t20 := Tryz.underlying20
  a20 := Tryz.isAgg20
  z20 := Tryz.sizeOf20
  v20 := Tryz.zeroValue20
  t37 := Tryz.underlying22
  a37 := Tryz.isAgg22
  z37 := Tryz.sizeOf22
  v37 := Tryz.zeroValue22
  t46 := Tryz.underlying160
  a46 := Tryz.isAgg160
  z46 := Tryz.sizeOf160
  v46 := Tryz.zeroValue160
  t51 := Tryz.underlying170
  a51 := Tryz.isAgg170
  z51 := Tryz.sizeOf170
  v51 := Tryz.zeroValue170
  t53 := Tryz.underlying158
  a53 := Tryz.isAgg158
  z53 := Tryz.sizeOf158
  v53 := Tryz.zeroValue158
  t171 := Tryz.underlying185
  a171 := Tryz.isAgg185
  z171 := Tryz.sizeOf185
  v171 := Tryz.zeroValue185
  t173 := Tryz.underlying188
  a173 := Tryz.isAgg188
  z173 := Tryz.sizeOf188
  v173 := Tryz.zeroValue188
  t212 := Tryz.underlying220
  a212 := Tryz.isAgg220
  z212 := Tryz.sizeOf220
  v212 := Tryz.zeroValue220
  t213 := Tryz.underlying221
  a213 := Tryz.isAgg221
  z213 := Tryz.sizeOf221
  t232 := Tryz.underlying234
  a232 := Tryz.isAgg234
  z232 := Tryz.sizeOf234
  v232 := Tryz.zeroValue234
  t233 := Tryz.underlying235
  a233 := Tryz.isAgg235
  z233 := Tryz.sizeOf235
  v233 := Tryz.zeroValue235
  g17 := by kernel_rfl
  g18 := by kernel_rfl
  g19 := by kernel_rfl
  i0 := by kernel_rfl
  i2 := by kernel_rfl
  i3 := by kernel_rfl
  i4 := by kernel_rfl
  i5 := by kernel_rfl
  i9 := by kernel_rfl
  i20 := by kernel_rfl
  i37 := by kernel_rfl
  i46 := by kernel_rfl
  i51 := by kernel_rfl
  i53 := by kernel_rfl
  i171 := by kernel_rfl
  i173 := by kernel_rfl
  i212 := by kernel_rfl
  i232 := by kernel_rfl
  i233 := by kernel_rfl
  m17 := by kernel_rfl
  m18 := by kernel_rfl
  m19 := by kernel_rfl
}
theorem Tryz.fmtExtra : Builder.Extra Tryz.prog Tryz.fmtRen := {
  sizeBuilder := by kernel_rfl
  liesBuilder := by kernel_rfl
  t5 := Tryz.underlying5
  a5 := Tryz.isAgg5
  z5 := Tryz.sizeOf5
  v5 := Tryz.zeroValue5
  infoByte := by kernel_rfl
  cellsByte := by kernel_rfl
  sizeByte := by kernel_rfl
  neB5 := by decide
}
end Go.Proofs
namespace Go.Proofs.YtehihemfepbmfaaGreatDoor
open Go.Shelf Go.RowKit
theorem repeat_any (s : ByteArray) (c : Nat) (w : World) (hlen : s.size * c ≤ 140737488355328) (hc : c ≤ 9223372036854775807) : Calls Tryz.prog 196 #[.string s, .int .i64 c] w fun e w' => e = .returned (.string ⟨(Lib.repeatL s.data.toList c).toArray⟩) ∧ Below w.heap.size w w' :=
  Any.strings_Repeat Tryz.fmtLays105 Tryz.fmtExtra s c w hc hlen
theorem formatBool_any (b : Bool) (w : World) : Calls Tryz.prog 164 #[.bool b] w fun e w' => e = .returned (.string ⟨(Lib.formatBool b).toArray⟩) ∧ w' = w :=
  Any.strconv_FormatBool Tryz.fmtLays121 b w
theorem formatInt_any (n : Int) (h0 : -9223372036854775808 ≤ n) (h1 : n ≤ 9223372036854775807) (w : World) (htab : Lib.TabIs Tryz.prog w "internal/strconv.uint64pow10" .u64 Lib.pow10Tab) :
    Calls Tryz.prog 93 #[.int .i64 n, .int .i64 10] w fun e w' => e = .returned (.string ⟨(Lib.itoa n).toArray⟩) ∧ Below w.heap.size w w' :=
  (Any.strconv_FormatInt_10 Tryz.fmtLays173 n h0 h1 w htab).mono fun e w' ⟨h, k, os, hw⟩ => ⟨h, hw ▸ ⟨rfl, rfl, rfl, by simp [Go.Sort.grow], fun b hb => by simp [Go.Sort.grow, Array.getElem?_append_left hb]⟩⟩
end Go.Proofs.YtehihemfepbmfaaGreatDoor

/-
  Which type lies behind the interface: all pairs, in the order of a type switch.
-/
namespace Go.Proofs.YtehihemfepbmfaaGreatDoor
open Go.RowKit
theorem tw_null_null (x : Value) (w : World) : (Instr.typeAssert (.iface 193 x) 162 193 true).run Tryz.prog w = .ok (.tuple #[x, .bool true]) w := by kernel_rfl
theorem tw_bool_null (x : Value) (w : World) : (Instr.typeAssert (.iface 195 x) 162 193 true).run Tryz.prog w = .ok (.tuple #[.agg #[], .bool false]) w := by kernel_rfl
theorem tw_bool_bool (x : Value) (w : World) : (Instr.typeAssert (.iface 195 x) 162 195 true).run Tryz.prog w = .ok (.tuple #[x, .bool true]) w := by kernel_rfl
theorem tw_int_null (x : Value) (w : World) : (Instr.typeAssert (.iface 197 x) 162 193 true).run Tryz.prog w = .ok (.tuple #[.agg #[], .bool false]) w := by kernel_rfl
theorem tw_int_bool (x : Value) (w : World) : (Instr.typeAssert (.iface 197 x) 162 195 true).run Tryz.prog w = .ok (.tuple #[.agg #[.int .i64 0], .bool false]) w := by kernel_rfl
theorem tw_int_int (x : Value) (w : World) : (Instr.typeAssert (.iface 197 x) 162 197 true).run Tryz.prog w = .ok (.tuple #[x, .bool true]) w := by kernel_rfl
theorem tw_text_null (x : Value) (w : World) : (Instr.typeAssert (.iface 199 x) 162 193 true).run Tryz.prog w = .ok (.tuple #[.agg #[], .bool false]) w := by kernel_rfl
theorem tw_text_bool (x : Value) (w : World) : (Instr.typeAssert (.iface 199 x) 162 195 true).run Tryz.prog w = .ok (.tuple #[.agg #[.int .i64 0], .bool false]) w := by kernel_rfl
theorem tw_text_int (x : Value) (w : World) : (Instr.typeAssert (.iface 199 x) 162 197 true).run Tryz.prog w = .ok (.tuple #[.agg #[.int .i64 0], .bool false]) w := by kernel_rfl
theorem tw_text_text (x : Value) (w : World) : (Instr.typeAssert (.iface 199 x) 162 199 true).run Tryz.prog w = .ok (.tuple #[x, .bool true]) w := by kernel_rfl
theorem tw_list_null (x : Value) (w : World) : (Instr.typeAssert (.iface 201 x) 162 193 true).run Tryz.prog w = .ok (.tuple #[.agg #[], .bool false]) w := by kernel_rfl
theorem tw_list_bool (x : Value) (w : World) : (Instr.typeAssert (.iface 201 x) 162 195 true).run Tryz.prog w = .ok (.tuple #[.agg #[.int .i64 0], .bool false]) w := by kernel_rfl
theorem tw_list_int (x : Value) (w : World) : (Instr.typeAssert (.iface 201 x) 162 197 true).run Tryz.prog w = .ok (.tuple #[.agg #[.int .i64 0], .bool false]) w := by kernel_rfl
theorem tw_list_text (x : Value) (w : World) : (Instr.typeAssert (.iface 201 x) 162 199 true).run Tryz.prog w = .ok (.tuple #[.agg #[.string ByteArray.empty], .bool false]) w := by kernel_rfl
theorem tw_list_list (x : Value) (w : World) : (Instr.typeAssert (.iface 201 x) 162 201 true).run Tryz.prog w = .ok (.tuple #[x, .bool true]) w := by kernel_rfl
theorem tw_map_null (x : Value) (w : World) : (Instr.typeAssert (.iface 204 x) 162 193 true).run Tryz.prog w = .ok (.tuple #[.agg #[], .bool false]) w := by kernel_rfl
theorem tw_map_bool (x : Value) (w : World) : (Instr.typeAssert (.iface 204 x) 162 195 true).run Tryz.prog w = .ok (.tuple #[.agg #[.int .i64 0], .bool false]) w := by kernel_rfl
theorem tw_map_int (x : Value) (w : World) : (Instr.typeAssert (.iface 204 x) 162 197 true).run Tryz.prog w = .ok (.tuple #[.agg #[.int .i64 0], .bool false]) w := by kernel_rfl
theorem tw_map_text (x : Value) (w : World) : (Instr.typeAssert (.iface 204 x) 162 199 true).run Tryz.prog w = .ok (.tuple #[.agg #[.string ByteArray.empty], .bool false]) w := by kernel_rfl
theorem tw_map_list (x : Value) (w : World) : (Instr.typeAssert (.iface 204 x) 162 201 true).run Tryz.prog w = .ok (.tuple #[.agg #[.slice none 0 0], .bool false]) w := by kernel_rfl
theorem tw_map_map (x : Value) (w : World) : (Instr.typeAssert (.iface 204 x) 162 204 true).run Tryz.prog w = .ok (.tuple #[x, .bool true]) w := by kernel_rfl
end Go.Proofs.YtehihemfepbmfaaGreatDoor

/-
  The program's jsonWriter: lines, keys, and what a number, a Boolean and a text are written as.
-/
namespace Go.Proofs.YtehihemfepbmfaaGreatDoor
open Go.RowKit
set_option linter.unusedSimpArgs false
set_option linter.unusedVariables false

/-- The table of powers of ten stands, whatever is made from block 'B' on. -/
def TabB (B : Nat) (w : World) : Prop := ∀ w', Below B w w' → Lib.TabIs Tryz.prog w' "internal/strconv.uint64pow10" .u64 Lib.pow10Tab
theorem TabB.next {B : Nat} {w w' : World} (h : TabB B w) (hb : Below B w w') : TabB B w' := fun w2 h2 => h w2 (hb.trans h2)
theorem TabB.wide {B C : Nat} {w : World} (h : TabB B w) (hBC : B ≤ C) : TabB C w := fun w2 h2 => h w2 (h2.mono hBC)
theorem FB.lines {T : TypeId} {B b : Nat} {x : Bool} {l : List UInt8} {w : World} (h : FB T B b [.bool x] l w) : w.cell? ⟨b, 2, none⟩ = some (.bool x) := by
  obtain ⟨_, p, v, _, hb, _⟩ := h
  exact cellAt hb rfl
theorem call_wstr (u v : Value) : ∀ w, (callFunc 92 #[u, v]).run Tryz.prog w = .ok (.enter 92 #[u, v]) w := fun w => by kernel_rfl
theorem call_rep (u v : Value) : ∀ w, (callFunc 196 #[u, v]).run Tryz.prog w = .ok (.enter 196 #[u, v]) w := fun w => by kernel_rfl
theorem call_quo (u : Value) : ∀ w, (callFunc 165 #[u]).run Tryz.prog w = .ok (.enter 165 #[u]) w := fun w => by kernel_rfl
theorem repeat_blanks (d : Nat) : Lib.repeatL [32, 32] d = List.replicate (2 * d) 32 := by
  induction d with
  | zero => rfl
  | succ d ih => rw [Lib.repeatL, ih, show 2 * (d + 1) = 2 * d + 1 + 1 by omega, List.replicate_succ, List.replicate_succ]; rfl

set_option maxRecDepth 100000 in
set_option maxHeartbeats 1600000 in
theorem beginLine_any {B b : Nat} {x : Bool} {l : List UInt8} {w : World} (hT : FT 166 1) (h : FB 166 B b [.bool x] l w) (d : Nat) (hd : d ≤ 1000) (hlen : l.length ≤ 100000000) (hBw : B ≤ w.heap.size) :
    Calls Tryz.prog 188 #[.pointer (some ⟨b, 0, none⟩), .int .i64 d] w fun e w' => e = .returned (.tuple #[]) ∧ FB 166 B b [.bool x] (l ++ lineJ x d) w' ∧ Below B w w' ∧ Beside b w w' := by
  have HF := hideB h
  have c2 := h.lines
  clear h
  cases x
  · have HE : Hid (l ++ lineJ false d = l) := by rw [Hid, lineJ]; simp
    rw [HE.out]
    go_enter Tryz.func188, Tryz.ntmps188
    go_wp2_with fail
    go_end0
    exact ⟨rfl, HF.out, Below.refl _ _, Beside.refl _ _⟩
  · have HE : Hid (l ++ lineJ true d = l ++ [10] ++ (ByteArray.mk (Lib.repeatL (ByteArray.mk #[32, 32]).data.toList d).toArray).data.toList) := by
      rw [Hid, lineJ, if_pos rfl, List.append_assoc]
      show l ++ 10 :: List.replicate (2 * d) 32 = l ++ ([10] ++ Lib.repeatL [32, 32] d)
      rw [repeat_blanks]; rfl
    have hsz : (ByteArray.mk (Lib.repeatL (ByteArray.mk #[32, 32]).data.toList d).toArray).size ≤ 2000 := by
      show (Lib.repeatL [32, 32] d).toArray.size ≤ 2000
      rw [repeat_blanks]; simp; omega
    rw [HE.out]
    obtain ⟨S, hS⟩ : ∃ S, ByteArray.mk (Lib.repeatL (ByteArray.mk #[32, 32]).data.toList d).toArray = S := ⟨_, rfl⟩
    have CR := hideB (fun w => repeat_any ⟨#[32, 32]⟩ d w (by show 2 * d ≤ _; omega) (by omega))
    rw [hS] at hsz ⊢
    rw [hS] at CR
    clear hS HE
    go_enter Tryz.func188, Tryz.ntmps188
    go_wp2_with (go_at_call 131; refine (fb_byte hT HF.out 10 (by omega) hBw).mono ?_; rintro e w1 ⟨rfl, f1, b1, k1⟩; have z1 := b1.size)
    have HF1 := hideB f1
    clear f1
    go_region_law (first
      | (refine step_call2 (by rfl) 196 _ _ _ _ (by rfl) (.string ⟨#[32, 32]⟩) (.int .i64 d) (by rfl) (by rfl) (call_rep _ _) (CR.out _) ?_; rintro e w2 ⟨rfl, b2⟩; have z2 : w1.heap.size ≤ w2.heap.size := b2.size; refine ⟨_, rfl, ?_⟩)
      | (refine step_call2 (by rfl) 92 _ _ _ _ (by rfl) (.pointer (some ⟨b, 0, none⟩)) (.string S) (by rfl) (by rfl) (call_wstr _ _) (fb_text hT (HF1.out.drew.keep b2) S (by rw [List.length_append]; simp; omega) (by omega)) ?_; rintro e w3 ⟨rfl, f3, b3, k3⟩; refine ⟨_, rfl, ?_⟩))
    all_goals (
      go_wp2_with fail
      go_end0
      exact ⟨rfl, f3, ((b1.drew).trans (b2.mono (show B ≤ w1.drew.heap.size from Nat.le_trans hBw z1))).trans b3, (k1.trans (Beside.below (w := w1.drew) b2)).trans k3⟩)

set_option maxRecDepth 100000 in
set_option maxHeartbeats 1600000 in
theorem writeKey_any {B b : Nat} {x : Bool} {l : List UInt8} {w : World} (hT : FT 166 1) (h : FB 166 B b [.bool x] l w) (key : ByteArray) (hk : key.size ≤ 60) (hlen : l.length ≤ 100000000) (hBw : B ≤ w.heap.size) :
    Calls Tryz.prog 189 #[.pointer (some ⟨b, 0, none⟩), .string key] w fun e w' => e = .returned (.tuple #[]) ∧ FB 166 B b [.bool x] (l ++ keyJ x key) w' ∧ Below B w w' ∧ Beside b w w' := by
  have HF := hideB h
  clear h
  have hql := (quoT_len key).2
  have CQ := hideB (fun w => iQuo_any key w (by omega))
  have HE : Hid (keyJ x key = quoT key ++ 58 :: (if x = true then [32] else [])) := rfl
  obtain ⟨Q, hQ⟩ : ∃ Q, quoT key = Q := ⟨_, rfl⟩
  rw [hQ] at hql CQ HE
  clear hQ
  have hqs : (txt Q).size ≤ 362 := by rw [txt_size]; omega
  have HQ : Hid ((txt Q).data.toList = Q) := bytes_txt Q
  go_enter Tryz.func189, Tryz.ntmps189
  go_wp2_with fail
  go_region_law (first
    | (refine step_call1 (by rfl) 165 _ _ (by rfl) (.string key) (by rfl) (call_quo _) (CQ.out _) ?_; rintro e w1 ⟨rfl, b1⟩; have z1 : w.heap.size ≤ w1.heap.size := b1.size; refine ⟨_, rfl, ?_⟩)
    | (refine step_call2 (by rfl) 92 _ _ _ _ (by rfl) (.pointer (some ⟨b, 0, none⟩)) (.string (txt Q)) (by rfl) (by rfl) (call_wstr _ _) (fb_text hT (HF.out.drew.keep b1) (txt Q) (by omega) (by omega)) ?_; rintro e w2 ⟨rfl, f2, b2, k2⟩; have z2 := b2.size; refine ⟨_, rfl, ?_⟩))
  all_goals (
    rw [HQ.out] at f2
    have HF2 := hideB f2
    have HB2 := hideB (((Below.drew (Below.refl B w)).trans (b1.mono (show B ≤ w.drew.heap.size from hBw))).trans b2)
    have HK2 := hideB ((Beside.below (b := b) (w := w.drew) b1).trans k2)
    clear f2 b1 b2 k2
    go_wp2_with fail
    refine (fb_byte hT HF2.out 58 (by rw [List.length_append]; omega) (by omega)).mono ?_
    rintro e w3 ⟨rfl, f3, b3, k3⟩
    have c2 := f3.lines
    have z3 := b3.size
    have HF3 := hideB f3
    clear f3
    cases x
    · go_wp2_with fail
      go_end0
      exact ⟨rfl, by rw [HE.out]; simpa using HF3.out, HB2.out.trans b3, HK2.out.trans k3⟩
    · go_wp2_with fail
      refine (fb_byte hT HF3.out 32 (by simp; omega) (by omega)).mono ?_
      rintro e w4 ⟨rfl, f4, b4, k4⟩
      go_wp2_with fail
      go_end0
      exact ⟨rfl, by rw [HE.out]; simpa using f4, (HB2.out.trans b3).trans b4, (HK2.out.trans k3).trans k4⟩)
end Go.Proofs.YtehihemfepbmfaaGreatDoor
