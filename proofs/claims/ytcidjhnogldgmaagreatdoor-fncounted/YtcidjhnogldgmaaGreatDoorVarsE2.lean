import Derived.Test.YtcidjhnogldgmaaGreatDoorRows
import Derived.Test.YtcidjhnogldgmaaGreatDoorIMrg
import Derived.ProofKit
import Derived.LaidMore
import Derived.OpenShut
import Derived.ShutString
import Derived.ChangeOld
import Derived.Below
import Derived.LaidLaws
import Derived.LaidHandle
import Derived.Stop.Joined
import Derived.Stop.LaidErr
import Derived.Stop.LaidTwo
namespace Go.Proofs.YtcidjhnogldgmaaGreatDoor
open Go.ChangeShapes Go.WideShapes Go.ChangeAt Go.RowKit
set_option linter.unusedVariables false
theorem ev_et : Tryz.prog.globalNamed "errors.errorType" = some 4 := by kernel_rfl
theorem ev_gk : Tryz.prog.globalNamed "loop.example/g00345/impl.errKind" = some 0 := by kernel_rfl
theorem ev_gkType : (Tryz.prog.globals[0]?).map (·.type) = some 47 := by kernel_rfl
theorem ev_rt : (Tryz.prog.cutTypes.find? (·.1 == "internal/reflectlite.rtype")).map (·.2) = some 167 := by kernel_rfl
theorem ev_oneRow : ((List.range 316).filter fun t => Tryz.prog.rowNamed t [101, 114, 114, 111, 114]) = [47] := by kernel_rfl
theorem ev_size : Tryz.prog.types.size = 316 := by kernel_rfl
theorem ev_hdl : typeHandle Tryz.prog 47 = .pointer (some ⟨18, 47, none⟩) := by kernel_rfl
theorem ev_star : "*" ++ "errors.errorString" = "*errors.errorString" := by decide
theorem ev_row (u : TypeId) (h : Tryz.prog.typeName? 3 u = some "*errors.errorString") : u = 282 :=
  typeName_ptr_named (nm := "errors.errorString") (by rw [ev_star]; kernel_rfl) (by kernel_rfl) (by decide) u (by rw [ev_star]; exact h)
theorem ev_cellsE : Tryz.prog.cellsOf 284 = 1 := by kernel_rfl
theorem ev_cellsS : Tryz.prog.cellsOf 9 = 1 := by kernel_rfl
theorem ev_handle {W : World} (h : handlesMet Tryz.prog [("errors.errorType", Rows.laid_errors_errorType)] W) : ErrT W := by
  obtain ⟨name, u, ty, e1, e2, e3, e4, e5⟩ := h _ (List.mem_singleton.2 rfl)
  have en : name = [101, 114, 114, 111, 114] := (Option.some.inj e1).symm
  subst en
  obtain rfl := Option.some.inj (ev_rt.symm.trans e2)
  have hm : ty ∈ (List.range 316).filter fun t => Tryz.prog.rowNamed t [101, 114, 114, 111, 114] := List.mem_filter.2 ⟨List.mem_range.2 (by rw [← ev_size]; exact e3), e4⟩
  rw [ev_oneRow] at hm
  obtain rfl := List.mem_singleton.1 hm
  rw [ev_hdl] at e5
  unfold ErrT
  simpa using World.var?_cell ev_et e5 0
end Go.Proofs.YtcidjhnogldgmaaGreatDoor

namespace Go.Proofs.YtcidjhnogldgmaaGreatDoor
open Go.ChangeShapes Go.WideShapes Go.ChangeAt Go.RowKit
set_option linter.unusedVariables false
theorem ev_gn : Tryz.prog.globalNamed "loop.example/g00345/impl.errNotRight" = some 8 := by kernel_rfl
theorem ev_gnType : (Tryz.prog.globals[8]?).map (·.type) = some 47 := by kernel_rfl
theorem ev_cell0 {W : World} {x : Addr} (h : W.var? Tryz.prog "loop.example/g00345/impl.errKind" = some #[.iface 282 (.pointer (some x))]) : W.cell? ⟨0, 0, none⟩ = some (.iface 282 (.pointer (some x))) := by simpa using World.var?_cell ev_gk h 0
theorem ev_cell1 {W : World} {x : Addr} (h : W.var? Tryz.prog "loop.example/g00345/impl.errNotRight" = some #[.iface 282 (.pointer (some x))]) : W.cell? ⟨8, 0, none⟩ = some (.iface 282 (.pointer (some x))) := by simpa using World.var?_cell ev_gn h 0
end Go.Proofs.YtcidjhnogldgmaaGreatDoor
