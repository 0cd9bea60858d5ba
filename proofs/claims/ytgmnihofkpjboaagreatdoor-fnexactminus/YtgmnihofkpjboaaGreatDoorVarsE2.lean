/-
  What the listed variables give a walk, where there are two errors of the program.
-/
import Derived.Test.YtgmnihofkpjboaaGreatDoorVarsE
import Derived.Test.YtgmnihofkpjboaaGreatDoorIMrg
import Derived.Stop.LaidTwo
namespace Go.Proofs.YtgmnihofkpjboaaGreatDoor
open Go.ChangeShapes Go.WideShapes Go.ChangeAt Go.RowKit
set_option linter.unusedVariables false

theorem ev_gn : Tryz.prog.globalNamed "loop.example/g00345/impl.errNotRight" = some 1 := by kernel_rfl
theorem ev_gnType : (Tryz.prog.globals[1]?).map (·.type) = some 64 := by kernel_rfl

theorem ev_cell0 {W : World} {x : Addr} (h : W.var? Tryz.prog "loop.example/g00345/impl.errKind" = some #[.iface 143 (.pointer (some x))]) : W.cell? ⟨0, 0, none⟩ = some (.iface 143 (.pointer (some x))) := by simpa using World.var?_cell ev_gk h 0
theorem ev_cell1 {W : World} {x : Addr} (h : W.var? Tryz.prog "loop.example/g00345/impl.errNotRight" = some #[.iface 143 (.pointer (some x))]) : W.cell? ⟨1, 0, none⟩ = some (.iface 143 (.pointer (some x))) := by simpa using World.var?_cell ev_gn h 0

theorem ev_errs2 {W : World} (h : laidMet Tryz.prog [("loop.example/g00345/impl.errKind", Rows.laid_loop_example_g00345_impl_errKind), ("loop.example/g00345/impl.errNotRight", Rows.laid_loop_example_g00345_impl_errNotRight)] W) (hh : handlesMet Tryz.prog [("errors.errorType", Rows.laid_errors_errorType)] W) :
    Errs2 W ∧ ∃ x0 x1 : Addr, W.var? Tryz.prog "loop.example/g00345/impl.errKind" = some #[.iface 143 (.pointer (some x0))] ∧ W.var? Tryz.prog "loop.example/g00345/impl.errNotRight" = some #[.iface 143 (.pointer (some x1))] := by
  obtain ⟨x0, x1, s0, s1, c0, c1, t0, t1, hv0, hv1, _, _, _, _, _, _, hne, hh0, hh1⟩ := laid_sentinels2 h ev_gk ev_gkType ev_gn ev_gnType Tryz.underlying64 ev_row Tryz.underlying143 Tryz.underlying165 rfl rfl Tryz.underlying9 ev_cellsE ev_cellsS
  exact ⟨⟨⟨ev_handle hh, ⟨_, ev_cell0 hv0, _, _, hh0⟩⟩, ⟨_, _, ev_cell1 hv1, ev_cell0 hv0, fun e => hne e.symm, ⟨_, _, hh1⟩, _, _, hh0⟩⟩, x0, x1, hv0, hv1⟩

theorem ev_read2 {H : Type} (enc : TypeId × Value → H) {W : World} {x0 x1 : Addr} (h0 : W.var? Tryz.prog "loop.example/g00345/impl.errKind" = some #[.iface 143 (.pointer (some x0))]) (h1 : W.var? Tryz.prog "loop.example/g00345/impl.errNotRight" = some #[.iface 143 (.pointer (some x1))]) (sp : Nat → Bool) :
    DataW.TrodVars enc Tryz.prog W sp ["loop.example/g00345/impl.errKind", "loop.example/g00345/impl.errNotRight"] [tok enc (.iface 143 (.pointer (some x0))), tok enc (.iface 143 (.pointer (some x1)))] [.cell 0 0, .cell 1 0] :=
  Go.vars_read2 enc ev_gk ev_gkType Tryz.underlying64 h0 trivial ev_gn ev_gnType Tryz.underlying64 h1 trivial sp
end Go.Proofs.YtgmnihofkpjboaaGreatDoor
