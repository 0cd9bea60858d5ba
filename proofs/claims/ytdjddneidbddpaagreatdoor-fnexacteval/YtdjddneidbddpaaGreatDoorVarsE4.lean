import Derived.Test.YtdjddneidbddpaaGreatDoorVarsE2
import Derived.Test.YtdjddneidbddpaaGreatDoorIPlsT
namespace Go.Proofs.YtdjddneidbddpaaGreatDoor
set_option linter.unusedSimpArgs false
set_option linter.unusedSectionVars false
open Go.ChangeShapes Go.WideShapes Go.ChangeAt Go.RowKit
set_option linter.unusedVariables false
theorem Xdx {P:Program} {x y:String×DataW Unit} {r:List (String×DataW Unit)} {w:World} (h:laidMet P (x::y::r) w):laidMet P (x::r) w:=by
 obtain ⟨n0,d0⟩:=x
 obtain ⟨n1,d1⟩:=y
 obtain ⟨ps,⟨g0,t0,cs0,f0,p0,q0,hg0,ht0,hv0,hd0,⟨g1,t1,cs1,f1,p1,q1,_,_,_,_,hr,e1⟩,e0⟩,hnd,hrows⟩:=h
 subst e1
 subst e0
 have hsub:List.Sublist (MemPlace.row ⟨g0,0,none⟩ cs0.size++p0++q1) (MemPlace.row ⟨g0,0,none⟩ cs0.size++p0++(MemPlace.row ⟨g1,0,none⟩ cs1.size++p1++q1)):=List.Sublist.append (List.Sublist.refl _) (List.sublist_append_right _ _)
 exact ⟨_,⟨g0,t0,cs0,f0,p0,q1,hg0,ht0,hv0,hd0,hr,rfl⟩,List.Nodup.sublist hsub hnd,fun b off hm=>hrows b off (hsub.subset hm)⟩
theorem Xmu : Tryz.prog.globalNamed "loop.example/g00345/impl.errManyOuts" = some 1 := by kernel_rfl
theorem Xk9:(Tryz.prog.globals[1]?).map (·.type)=some 60:=by kernel_rfl
theorem Xmv : Tryz.prog.globalNamed "loop.example/g00345/impl.errNoFuel" = some 0 := by kernel_rfl
theorem Xla:(Tryz.prog.globals[0]?).map (·.type)=some 60:=by kernel_rfl
theorem Xno {W : World} {x : Addr} (h : W.var? Tryz.prog "loop.example/g00345/impl.errManyOuts" = some #[.iface 257 (.pointer (some x))]) : W.cell? ⟨1, 0, none⟩ = some (.iface 257 (.pointer (some x))) := by simpa using World.var?_cell Xmu h 0
theorem Xnp {W : World} {x : Addr} (h : W.var? Tryz.prog "loop.example/g00345/impl.errNoFuel" = some #[.iface 257 (.pointer (some x))]) : W.cell? ⟨0, 0, none⟩ = some (.iface 257 (.pointer (some x))) := by simpa using World.var?_cell Xmv h 0
theorem Xss {W:World} {n:String} {x y:Addr} (h:W.var? Tryz.prog n=some #[.iface 257 (.pointer (some x))]) (k:W.var? Tryz.prog n=some #[.iface 257 (.pointer (some y))]):x=y:=by
 have:=h.symm.trans k
 simpa using this
theorem Xzx {W : World} (h : laidMet Tryz.prog [("loop.example/g00345/impl.errKind", Rows.laid_loop_example_g00345_impl_errKind), ("loop.example/g00345/impl.errNotRight", Rows.laid_loop_example_g00345_impl_errNotRight), ("loop.example/g00345/impl.errManyOuts", Rows.laid_loop_example_g00345_impl_errManyOuts), ("loop.example/g00345/impl.errNoFuel", Rows.laid_loop_example_g00345_impl_errNoFuel)] W) (hh : handlesMet Tryz.prog [("errors.errorType", Rows.laid_errors_errorType)] W) :
  Errs4 W ∧ ∃ x0 x1 x2 x3 : Addr, W.var? Tryz.prog "loop.example/g00345/impl.errKind" = some #[.iface 257 (.pointer (some x0))] ∧ W.var? Tryz.prog "loop.example/g00345/impl.errNotRight" = some #[.iface 257 (.pointer (some x1))] ∧
   W.var? Tryz.prog "loop.example/g00345/impl.errManyOuts" = some #[.iface 257 (.pointer (some x2))] ∧ W.var? Tryz.prog "loop.example/g00345/impl.errNoFuel" = some #[.iface 257 (.pointer (some x3))] := by
 obtain ⟨x0,x1,s0,s1,c0,c1,t0,t1,hv0,hv1,_,_,_,_,_,_,hne,hh0,hh1⟩:=laid_sentinels2 h Xge Xcm Xmw Xlb Tryz.underlying60 Xm9 Tryz.underlying257 Tryz.underlying277 rfl rfl Tryz.underlying9 Xe3 Xe4
 obtain ⟨y0,x2,_,_,_,c2,_,t2,hy0,hv2,_,_,_,_,_,_,hne2,_,hh2⟩:=laid_sentinels2 (Xdx h) Xge Xcm Xmu Xk9 Tryz.underlying60 Xm9 Tryz.underlying257 Tryz.underlying277 rfl rfl Tryz.underlying9 Xe3 Xe4
 obtain ⟨z0,x3,_,_,_,c3,_,t3,hz0,hv3,_,_,_,_,_,_,hne3,_,hh3⟩:=laid_sentinels2 (Xdx (Xdx h)) Xge Xcm Xmv Xla Tryz.underlying60 Xm9 Tryz.underlying257 Tryz.underlying277 rfl rfl Tryz.underlying9 Xe3 Xe4
 obtain rfl:=Xss hv0 hy0
 obtain rfl:=Xss hv0 hz0
 exact ⟨⟨⟨⟨Xv3 hh,⟨_,Xb3 hv0,_,_,hh0⟩⟩,⟨_,_,Xnt hv1,Xb3 hv0,fun e=>hne e.symm,⟨_,_,hh1⟩,_,_,hh0⟩⟩,
  ⟨_,_,Xno hv2,Xb3 hv0,fun e=>hne2 e.symm,⟨_,_,hh2⟩,_,_,hh0⟩,⟨_,_,Xnp hv3,Xb3 hv0,fun e=>hne3 e.symm,⟨_,_,hh3⟩,_,_,hh0⟩⟩,x0,x1,x2,x3,hv0,hv1,hv2,hv3⟩
theorem Xnq {H : Type} (enc : TypeId × Value → H) {W : World} {x0 x1 x2 x3 : Addr} (h0 : W.var? Tryz.prog "loop.example/g00345/impl.errKind" = some #[.iface 257 (.pointer (some x0))]) (h1 : W.var? Tryz.prog "loop.example/g00345/impl.errNotRight" = some #[.iface 257 (.pointer (some x1))])
  (h2 : W.var? Tryz.prog "loop.example/g00345/impl.errManyOuts" = some #[.iface 257 (.pointer (some x2))]) (h3 : W.var? Tryz.prog "loop.example/g00345/impl.errNoFuel" = some #[.iface 257 (.pointer (some x3))]) (sp : Nat → Bool) :
  DataW.TrodVars enc Tryz.prog W sp ["loop.example/g00345/impl.errNoFuel", "loop.example/g00345/impl.errManyOuts", "loop.example/g00345/impl.errKind", "loop.example/g00345/impl.errNotRight"] [tok enc (.iface 257 (.pointer (some x3))), tok enc (.iface 257 (.pointer (some x2))), tok enc (.iface 257 (.pointer (some x0))), tok enc (.iface 257 (.pointer (some x1)))] [.cell 0 0, .cell 1 0, .cell 3 0, .cell 4 0] :=
 ⟨0, _, #[.iface 257 (.pointer (some x3))], 1, [], [.cell 1 0, .cell 3 0, .cell 4 0], Xmv, Xla, h3, trod_held Tryz.underlying60 (show IsIface (.iface 257 (.pointer (some x3))) from trivial) 0,
  ⟨1, _, #[.iface 257 (.pointer (some x2))], 1, [], [.cell 3 0, .cell 4 0], Xmu, Xk9, h2, trod_held Tryz.underlying60 (show IsIface (.iface 257 (.pointer (some x2))) from trivial) 0,
   Go.vars_read2 enc Xge Xcm Tryz.underlying60 h0 trivial Xmw Xlb Tryz.underlying60 h1 trivial sp,rfl⟩,rfl⟩
end Go.Proofs.YtdjddneidbddpaaGreatDoor
