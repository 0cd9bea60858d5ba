import Derived.Test.YtcidjhnogldgmaaGreatDoorFmtI
import Derived.Test.YtcidjhnogldgmaaGreatDoorPick
import Derived.Deep.MidRow
import Derived.Handy
import Derived.Test.YtcidjhnogldgmaaGreatDoorRows
import Derived.Lib.LaidTab
import Derived.LaidLaws
import Derived.ProofKit
namespace Go.Proofs.YtcidjhnogldgmaaGreatDoor
open Go.RowKit
set_option linter.unusedSimpArgs false
set_option linter.unusedVariables false
def TabB (B : Nat) (w : World) : Prop := ∀ w', Below B w w' → Lib.TabIs Tryz.prog w' "internal/strconv.uint64pow10" .u64 Lib.pow10Tab
theorem TabB.next {B : Nat} {w w' : World} (h : TabB B w) (hb : Below B w w') : TabB B w' := fun w2 h2 => h w2 (hb.trans h2)
theorem TabB.wide {B C : Nat} {w : World} (h : TabB B w) (hBC : B ≤ C) : TabB C w := fun w2 h2 => h w2 (h2.mono hBC)
def wordC : List Value := [.int .i64 11, .string (txt [108, 101, 110, 103, 116, 104]), .int .i64 12, .string (txt [107, 101, 121, 115]), .int .i64 13, .string (txt [110, 111, 116]), .int .i64 14, .string (txt [101, 109, 112, 116, 121])]
def WdB (B : Nat) (w : World) : Prop := ∀ w', Below B w w' → w'.rangeAt 7 0 wordC
theorem WdB.next {B : Nat} {w w' : World} (h : WdB B w) (hb : Below B w w') : WdB B w' := fun w2 h2 => h w2 (hb.trans h2)
def wkF (i : Nat) : Int := [11, 12, 13, 14].getD i 0
theorem w_und : Tryz.prog.underlying 219 = some (.array 4 218) := by kernel_rfl
theorem w_inf : (Tryz.prog.info? 219).map (·.size) = some wordC.length := by kernel_rfl
theorem wix0 (W : World) : (Instr.index 219 (.agg wordC.toArray) (.int .i64 0)).run Tryz.prog W = .ok (.agg #[.int .i64 11, .string (txt [108, 101, 110, 103, 116, 104])]) W := by kernel_rfl
theorem wix1 (W : World) : (Instr.index 219 (.agg wordC.toArray) (.int .i64 1)).run Tryz.prog W = .ok (.agg #[.int .i64 12, .string (txt [107, 101, 121, 115])]) W := by kernel_rfl
theorem wix2 (W : World) : (Instr.index 219 (.agg wordC.toArray) (.int .i64 2)).run Tryz.prog W = .ok (.agg #[.int .i64 13, .string (txt [110, 111, 116])]) W := by kernel_rfl
theorem wix3 (W : World) : (Instr.index 219 (.agg wordC.toArray) (.int .i64 3)).run Tryz.prog W = .ok (.agg #[.int .i64 14, .string (txt [101, 109, 112, 116, 121])]) W := by kernel_rfl
end Go.Proofs.YtcidjhnogldgmaaGreatDoor

namespace Go.Proofs.YtcidjhnogldgmaaGreatDoor
open Go.RowKit
set_option linter.unusedVariables false
theorem js_own : ownKnob Tryz.prog.godebug = none := by kernel_rfl
theorem js_laidOut : laidOutB Tryz.prog = true := by kernel_rfl
theorem js_tab : (Rows.laid_internal_strconv_uint64pow10 : DataW Unit) = Lib.tabData .u64 Lib.pow10Tab := by rfl
theorem js_g : Tryz.prog.globalNamed "internal/strconv.uint64pow10" = some 14 := by kernel_rfl
theorem js_gt : (Tryz.prog.globals[14]?).map (·.type) = some 277 := by kernel_rfl
theorem js_c1 : Tryz.prog.cellsOf 131 = 1 := by kernel_rfl
theorem js_c20 : Tryz.prog.cellsOf 277 = 20 := by kernel_rfl
theorem js_tabB {W : World} (h : Lib.TabIs Tryz.prog W "internal/strconv.uint64pow10" .u64 Lib.pow10Tab) : TabB W.heap.size W := by
  intro w' hb
  have hc := h.cell js_g 0 (by decide)
  have hlt : 14 < W.heap.size := by
    rcases Nat.lt_or_ge 14 W.heap.size with h' | h'
    · exact h'
    · simp [World.cell?, Array.getElem?_eq_none h'] at hc
  unfold Lib.TabIs World.var? at h ⊢
  simp only [js_g, Option.bind_some] at h ⊢
  rw [hb.block _ hlt]
  exact h
end Go.Proofs.YtcidjhnogldgmaaGreatDoor
