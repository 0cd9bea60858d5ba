/-
  What the listed variables give a walk: the errors' own type, and the errors of the program.
-/
import Derived.Test.YtgmnihofkpjboaaGreatDoorRows
import Derived.Test.YtgmnihofkpjboaaGreatDoorIMrg
import Derived.ProofKit
import Derived.LaidMore
import Derived.OpenShut
import Derived.ShutString
import Derived.ChangeOld
import Derived.Below
import Derived.LaidLaws
import Derived.LaidHandle
import Derived.Stop.Joined
import Derived.Stop.LaidErr
namespace Go.Proofs.YtgmnihofkpjboaaGreatDoor
open Go.ChangeShapes Go.WideShapes Go.ChangeAt Go.RowKit
set_option linter.unusedVariables false

theorem ev_own : ownKnob Tryz.prog.godebug = none := by kernel_rfl
theorem ev_laidOut : laidOutB Tryz.prog = true := by kernel_rfl
theorem ev_et : Tryz.prog.globalNamed "errors.errorType" = some 2 := by kernel_rfl
theorem ev_gk : Tryz.prog.globalNamed "loop.example/g00345/impl.errKind" = some 0 := by kernel_rfl
theorem ev_gkType : (Tryz.prog.globals[0]?).map (·.type) = some 64 := by kernel_rfl
theorem ev_rt : (Tryz.prog.cutTypes.find? (·.1 == "internal/reflectlite.rtype")).map (·.2) = some 131 := by kernel_rfl
theorem ev_oneRow : ((List.range 177).filter fun t => Tryz.prog.rowNamed t [101, 114, 114, 111, 114]) = [64] := by kernel_rfl
theorem ev_size : Tryz.prog.types.size = 177 := by kernel_rfl
theorem ev_hdl : typeHandle Tryz.prog 64 = .pointer (some ⟨4, 64, none⟩) := by kernel_rfl
theorem ev_star : "*" ++ "errors.errorString" = "*errors.errorString" := by decide
theorem ev_row (u : TypeId) (h : Tryz.prog.typeName? 3 u = some "*errors.errorString") : u = 143 :=
  typeName_ptr_named (nm := "errors.errorString") (by rw [ev_star]; kernel_rfl) (by kernel_rfl) (by decide) u (by rw [ev_star]; exact h)
theorem ev_cellsE : Tryz.prog.cellsOf 165 = 1 := by kernel_rfl
theorem ev_cellsS : Tryz.prog.cellsOf 9 = 1 := by kernel_rfl

/-- What the handle's condition gives: the variable's one cell. -/
theorem ev_handle {W : World} (h : handlesMet Tryz.prog [("errors.errorType", Rows.laid_errors_errorType)] W) : ErrT W := by
  obtain ⟨name, u, ty, e1, e2, e3, e4, e5⟩ := h _ (List.mem_singleton.2 rfl)
  have en : name = [101, 114, 114, 111, 114] := (Option.some.inj e1).symm
  subst en
  obtain rfl := Option.some.inj (ev_rt.symm.trans e2)
  have hm : ty ∈ (List.range 177).filter fun t => Tryz.prog.rowNamed t [101, 114, 114, 111, 114] := List.mem_filter.2 ⟨List.mem_range.2 (by rw [← ev_size]; exact e3), e4⟩
  rw [ev_oneRow] at hm
  obtain rfl := List.mem_singleton.1 hm
  rw [ev_hdl] at e5
  unfold ErrT
  simpa using World.var?_cell ev_et e5 0

theorem ev_var_below {P : Program} {B g : Nat} {W W' : World} {n : String} {cs : Array Value} (h : Below B W W') (hg : P.globalNamed n = some g) (hgB : g < B) (hv : W.var? P n = some cs) : W'.var? P n = some cs := by
  unfold World.var? at hv ⊢
  simp only [hg, Option.bind_some] at hv ⊢
  rw [h.block g hgB]
  exact hv
end Go.Proofs.YtgmnihofkpjboaaGreatDoor
