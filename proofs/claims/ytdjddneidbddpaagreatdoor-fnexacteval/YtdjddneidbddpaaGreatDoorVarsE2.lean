import Derived.Test.YtdjddneidbddpaaGreatDoorVarsE
import Derived.Test.YtdjddneidbddpaaGreatDoorIMrg
import Derived.Stop.LaidTwo
namespace Go.Proofs.YtdjddneidbddpaaGreatDoor
set_option linter.unusedSimpArgs false
set_option linter.unusedSectionVars false
open Go.ChangeShapes Go.WideShapes Go.ChangeAt Go.RowKit
set_option linter.unusedVariables false
theorem Xme : Tryz.prog.globalNamed "loop.example/g00345/impl.errNotRight" = some 4 := by kernel_rfl
theorem Xkw:(Tryz.prog.globals[4]?).map (·.type)=some 60:=by kernel_rfl
theorem Xbn {W : World} {x : Addr} (h : W.var? Tryz.prog "loop.example/g00345/impl.errKind" = some #[.iface 257 (.pointer (some x))]) : W.cell? ⟨3, 0, none⟩ = some (.iface 257 (.pointer (some x))) := by simpa using World.var?_cell Xfz h 0
theorem Xnb {W : World} {x : Addr} (h : W.var? Tryz.prog "loop.example/g00345/impl.errNotRight" = some #[.iface 257 (.pointer (some x))]) : W.cell? ⟨4, 0, none⟩ = some (.iface 257 (.pointer (some x))) := by simpa using World.var?_cell Xme h 0
end Go.Proofs.YtdjddneidbddpaaGreatDoor
