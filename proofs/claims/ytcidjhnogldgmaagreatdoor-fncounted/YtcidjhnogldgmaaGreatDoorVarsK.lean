import Derived.Test.YtcidjhnogldgmaaGreatDoorVarsR
import Derived.Test.YtcidjhnogldgmaaGreatDoorVarsE4
namespace Go.Proofs.YtcidjhnogldgmaaGreatDoor
open Go.ChangeShapes Go.WideShapes Go.ChangeAt Go.RowKit
set_option linter.unusedVariables false
set_option linter.unusedSimpArgs false
theorem laid_drop1 {P : Program} {x : String × DataW Unit} {r : List (String × DataW Unit)} {w : World} (h : laidMet P (x :: r) w) : laidMet P r w := by
  obtain ⟨n0, d0⟩ := x
  obtain ⟨ps, ⟨g0, t0, cs0, f0, p0, q0, hg0, ht0, hv0, hd0, hr, e0⟩, hnd, hrows⟩ := h
  subst e0
  have hsub : List.Sublist q0 (MemPlace.row ⟨g0, 0, none⟩ cs0.size ++ p0 ++ q0) := List.sublist_append_right _ _
  exact ⟨_, hr, List.Nodup.sublist hsub hnd, fun b off hm => hrows b off (hsub.subset hm)⟩
theorem ev_errs4r {W : World} {r : List (String × DataW Unit)} (h : laidMet Tryz.prog (("loop.example/g00345/impl.errKind", Rows.laid_loop_example_g00345_impl_errKind) :: ("loop.example/g00345/impl.errNotRight", Rows.laid_loop_example_g00345_impl_errNotRight) :: ("loop.example/g00345/impl.errManyOuts", Rows.laid_loop_example_g00345_impl_errManyOuts) :: ("loop.example/g00345/impl.errNoFuel", Rows.laid_loop_example_g00345_impl_errNoFuel) :: r) W) (hh : handlesMet Tryz.prog [("errors.errorType", Rows.laid_errors_errorType)] W) :
    Errs4 W ∧ ∃ x0 x1 x2 x3 : Addr, W.var? Tryz.prog "loop.example/g00345/impl.errKind" = some #[.iface 282 (.pointer (some x0))] ∧ W.var? Tryz.prog "loop.example/g00345/impl.errNotRight" = some #[.iface 282 (.pointer (some x1))] ∧
      W.var? Tryz.prog "loop.example/g00345/impl.errManyOuts" = some #[.iface 282 (.pointer (some x2))] ∧ W.var? Tryz.prog "loop.example/g00345/impl.errNoFuel" = some #[.iface 282 (.pointer (some x3))] := by
  obtain ⟨x0, x1, s0, s1, c0, c1, t0, t1, hv0, hv1, _, _, _, _, _, _, hne, hh0, hh1⟩ := laid_sentinels2 h ev_gk ev_gkType ev_gn ev_gnType Tryz.underlying47 ev_row Tryz.underlying282 Tryz.underlying284 rfl rfl Tryz.underlying9 ev_cellsE ev_cellsS
  obtain ⟨y0, x2, _, _, _, c2, _, t2, hy0, hv2, _, _, _, _, _, _, hne2, _, hh2⟩ := laid_sentinels2 (laid_drop2 h) ev_gk ev_gkType ev_gm ev_gmType Tryz.underlying47 ev_row Tryz.underlying282 Tryz.underlying284 rfl rfl Tryz.underlying9 ev_cellsE ev_cellsS
  obtain ⟨z0, x3, _, _, _, c3, _, t3, hz0, hv3, _, _, _, _, _, _, hne3, _, hh3⟩ := laid_sentinels2 (laid_drop2 (laid_drop2 h)) ev_gk ev_gkType ev_gf ev_gfType Tryz.underlying47 ev_row Tryz.underlying282 Tryz.underlying284 rfl rfl Tryz.underlying9 ev_cellsE ev_cellsS
  obtain rfl := ev_same hv0 hy0
  obtain rfl := ev_same hv0 hz0
  exact ⟨⟨⟨⟨ev_handle hh, ⟨_, ev_cell0 hv0, _, _, hh0⟩⟩, ⟨_, _, ev_cell1 hv1, ev_cell0 hv0, fun e => hne e.symm, ⟨_, _, hh1⟩, _, _, hh0⟩⟩,
    ⟨_, _, ev_cell2 hv2, ev_cell0 hv0, fun e => hne2 e.symm, ⟨_, _, hh2⟩, _, _, hh0⟩, ⟨_, _, ev_cell3 hv3, ev_cell0 hv0, fun e => hne3 e.symm, ⟨_, _, hh3⟩, _, _, hh0⟩⟩, x0, x1, x2, x3, hv0, hv1, hv2, hv3⟩
theorem trodVars_len {H : Type} {enc : TypeId × Value → H} {P : Program} {w : World} {sp : Nat → Bool} : ∀ {ns : List String} {gs : List (DataW H)} {q : List MemPlace}, DataW.TrodVars enc P w sp ns gs q → gs.length = ns.length
  | [], [], _, _ => rfl
  | _ :: _, _ :: _, _, ⟨_, _, _, _, _, _, _, _, _, _, h, _⟩ => by simp [trodVars_len h]
  | [], _ :: _, _, h => h.elim
  | _ :: _, [], _, h => h.elim
end Go.Proofs.YtcidjhnogldgmaaGreatDoor
