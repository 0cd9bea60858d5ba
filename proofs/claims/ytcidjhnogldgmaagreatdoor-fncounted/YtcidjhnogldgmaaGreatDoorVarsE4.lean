import Derived.Test.YtcidjhnogldgmaaGreatDoorVarsE2
import Derived.Test.YtcidjhnogldgmaaGreatDoorEvO
namespace Go.Proofs.YtcidjhnogldgmaaGreatDoor
open Go.ChangeShapes Go.WideShapes Go.ChangeAt Go.RowKit
set_option linter.unusedVariables false
theorem laid_drop2 {P : Program} {x y : String × DataW Unit} {r : List (String × DataW Unit)} {w : World} (h : laidMet P (x :: y :: r) w) : laidMet P (x :: r) w := by
  obtain ⟨n0, d0⟩ := x
  obtain ⟨n1, d1⟩ := y
  obtain ⟨ps, ⟨g0, t0, cs0, f0, p0, q0, hg0, ht0, hv0, hd0, ⟨g1, t1, cs1, f1, p1, q1, _, _, _, _, hr, e1⟩, e0⟩, hnd, hrows⟩ := h
  subst e1
  subst e0
  have hsub : List.Sublist (MemPlace.row ⟨g0, 0, none⟩ cs0.size ++ p0 ++ q1) (MemPlace.row ⟨g0, 0, none⟩ cs0.size ++ p0 ++ (MemPlace.row ⟨g1, 0, none⟩ cs1.size ++ p1 ++ q1)) := List.Sublist.append (List.Sublist.refl _) (List.sublist_append_right _ _)
  exact ⟨_, ⟨g0, t0, cs0, f0, p0, q1, hg0, ht0, hv0, hd0, hr, rfl⟩, List.Nodup.sublist hsub hnd, fun b off hm => hrows b off (hsub.subset hm)⟩
theorem ev_gm : Tryz.prog.globalNamed "loop.example/g00345/impl.errManyOuts" = some 3 := by kernel_rfl
theorem ev_gmType : (Tryz.prog.globals[3]?).map (·.type) = some 47 := by kernel_rfl
theorem ev_gf : Tryz.prog.globalNamed "loop.example/g00345/impl.errNoFuel" = some 2 := by kernel_rfl
theorem ev_gfType : (Tryz.prog.globals[2]?).map (·.type) = some 47 := by kernel_rfl
theorem ev_cell2 {W : World} {x : Addr} (h : W.var? Tryz.prog "loop.example/g00345/impl.errManyOuts" = some #[.iface 282 (.pointer (some x))]) : W.cell? ⟨3, 0, none⟩ = some (.iface 282 (.pointer (some x))) := by simpa using World.var?_cell ev_gm h 0
theorem ev_cell3 {W : World} {x : Addr} (h : W.var? Tryz.prog "loop.example/g00345/impl.errNoFuel" = some #[.iface 282 (.pointer (some x))]) : W.cell? ⟨2, 0, none⟩ = some (.iface 282 (.pointer (some x))) := by simpa using World.var?_cell ev_gf h 0
theorem ev_same {W : World} {n : String} {x y : Addr} (h : W.var? Tryz.prog n = some #[.iface 282 (.pointer (some x))]) (k : W.var? Tryz.prog n = some #[.iface 282 (.pointer (some y))]) : x = y := by
  have := h.symm.trans k
  simpa using this
end Go.Proofs.YtcidjhnogldgmaaGreatDoor
