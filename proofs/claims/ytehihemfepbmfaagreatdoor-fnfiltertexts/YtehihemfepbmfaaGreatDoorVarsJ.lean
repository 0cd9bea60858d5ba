import Derived.Test.YtehihemfepbmfaaGreatDoorRows
import Derived.Test.YtehihemfepbmfaaGreatDoorIJson
import Derived.Lib.LaidTab
import Derived.LaidLaws
import Derived.ProofKit
namespace Go.Proofs.YtehihemfepbmfaaGreatDoor
set_option linter.unusedSimpArgs false
set_option linter.unusedSectionVars false
open Go.RowKit
set_option linter.unusedVariables false
theorem Xx1:ownKnob Tryz.prog.godebug=none:=by kernel_rfl
theorem Xe3:laidOutB Tryz.prog=true:=by kernel_rfl
theorem Xx2:(Rows.laid_internal_strconv_uint64pow10:DataW Unit)=Lib.tabData .u64 Lib.pow10Tab:=by rfl
theorem js_g : Tryz.prog.globalNamed "internal/strconv.uint64pow10" = some 4 := by kernel_rfl
theorem js_gt:(Tryz.prog.globals[4]?).map (·.type)=some 220:=by kernel_rfl
theorem X0a:Tryz.prog.cellsOf 158=1:=by kernel_rfl
theorem Xx3:Tryz.prog.cellsOf 220=20:=by kernel_rfl
theorem Xvx {W : World} (h : Lib.TabIs Tryz.prog W "internal/strconv.uint64pow10" .u64 Lib.pow10Tab) : TabB W.heap.size W := by
 intro w' hb
 have hc:=h.cell js_g 0 (by decide)
 have hlt:4<W.heap.size:=by
  rcases Nat.lt_or_ge 4 W.heap.size with h'|h'
  ·exact h'
  ·simp[World.cell?,Array.getElem?_eq_none h'] at hc
 unfold Lib.TabIs World.var? at h⊢
 simp only[js_g,Option.bind_some] at h⊢
 rw[hb.block _ hlt]
 exact h
end Go.Proofs.YtehihemfepbmfaaGreatDoor
