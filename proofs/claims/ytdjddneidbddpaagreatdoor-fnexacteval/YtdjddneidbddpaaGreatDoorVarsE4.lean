import Derived.Test.YtdjddneidbddpaaGreatDoorVarsE2
import Derived.Test.YtdjddneidbddpaaGreatDoorIPlsT
namespace Go.Proofs.YtdjddneidbddpaaGreatDoor
set_option linter.unusedSimpArgs false
set_option linter.unusedSectionVars false
open Go.ChangeShapes Go.WideShapes Go.ChangeAt Go.RowKit
set_option linter.unusedVariables false
theorem Xde {P:Program} {x y:String×DataW Unit} {r:List (String×DataW Unit)} {w:World} (h:laidMet P (x::y::r) w):laidMet P (x::r) w:=by
 obtain ⟨M,R⟩:=x
 obtain ⟨S,T⟩:=y
 obtain ⟨V,⟨g,B,d,C,j,X,l,o,p,q,⟨D,Y,s,Z,F,t,_,_,_,_,G,J⟩,L⟩,z,f⟩:=h
 subst J
 subst L
 have c:List.Sublist (MemPlace.row ⟨g,0,none⟩ d.size++j++t) (MemPlace.row ⟨g,0,none⟩ d.size++j++(MemPlace.row ⟨D,0,none⟩ s.size++F++t)):=List.Sublist.append (List.Sublist.refl _) (List.sublist_append_right _ _)
 exact ⟨_,⟨g,B,d,C,j,t,l,o,p,q,G,rfl⟩,List.Nodup.sublist c z,fun b off hm=>f b off (c.subset hm)⟩
theorem Xmc : Tryz.prog.globalNamed "loop.example/g00345/impl.errManyOuts" = some 1 := by kernel_rfl
theorem Xku:(Tryz.prog.globals[1]?).map (·.type)=some 60:=by kernel_rfl
theorem Xmd : Tryz.prog.globalNamed "loop.example/g00345/impl.errNoFuel" = some 0 := by kernel_rfl
theorem Xkv:(Tryz.prog.globals[0]?).map (·.type)=some 60:=by kernel_rfl
theorem Xm6 {W : World} {x : Addr} (h : W.var? Tryz.prog "loop.example/g00345/impl.errManyOuts" = some #[.iface 257 (.pointer (some x))]) : W.cell? ⟨1, 0, none⟩ = some (.iface 257 (.pointer (some x))) := by simpa using World.var?_cell Xmc h 0
theorem Xm7 {W : World} {x : Addr} (h : W.var? Tryz.prog "loop.example/g00345/impl.errNoFuel" = some #[.iface 257 (.pointer (some x))]) : W.cell? ⟨0, 0, none⟩ = some (.iface 257 (.pointer (some x))) := by simpa using World.var?_cell Xmd h 0
theorem Xr9 {W:World} {n:String} {x y:Addr} (h:W.var? Tryz.prog n=some #[.iface 257 (.pointer (some x))]) (k:W.var? Tryz.prog n=some #[.iface 257 (.pointer (some y))]):x=y:=by
 have:=h.symm.trans k
 simpa using this
theorem Xzp {W : World} (h : laidMet Tryz.prog [("loop.example/g00345/impl.errKind", Rows.laid_loop_example_g00345_impl_errKind), ("loop.example/g00345/impl.errNotRight", Rows.laid_loop_example_g00345_impl_errNotRight), ("loop.example/g00345/impl.errManyOuts", Rows.laid_loop_example_g00345_impl_errManyOuts), ("loop.example/g00345/impl.errNoFuel", Rows.laid_loop_example_g00345_impl_errNoFuel)] W) (hh : handlesMet Tryz.prog [("errors.errorType", Rows.laid_errors_errorType)] W) :
  Errs4 W /\ ∃ x0 x1 x2 x3 : Addr, W.var? Tryz.prog "loop.example/g00345/impl.errKind" = some #[.iface 257 (.pointer (some x0))] /\ W.var? Tryz.prog "loop.example/g00345/impl.errNotRight" = some #[.iface 257 (.pointer (some x1))] /\
   W.var? Tryz.prog "loop.example/g00345/impl.errManyOuts" = some #[.iface 257 (.pointer (some x2))] /\ W.var? Tryz.prog "loop.example/g00345/impl.errNoFuel" = some #[.iface 257 (.pointer (some x3))] := by
 obtain ⟨x0,x1,z,B,c0,c1,C,D,b,d,_,_,_,_,_,_,o,c,p⟩:=laid_sentinels2 h Xfz Xb3 Xme Xkw Tryz.underlying60 Xmr Tryz.underlying257 Tryz.underlying277 rfl rfl Tryz.underlying9 Xej Xek
 obtain ⟨F,x2,_,_,_,G,_,J,q,f,_,_,_,_,_,_,g,_,s⟩:=laid_sentinels2 (Xde h) Xfz Xb3 Xmc Xku Tryz.underlying60 Xmr Tryz.underlying257 Tryz.underlying277 rfl rfl Tryz.underlying9 Xej Xek
 obtain ⟨L,x3,_,_,_,M,_,P,t,j,_,_,_,_,_,_,l,_,y⟩:=laid_sentinels2 (Xde (Xde h)) Xfz Xb3 Xmd Xkv Tryz.underlying60 Xmr Tryz.underlying257 Tryz.underlying277 rfl rfl Tryz.underlying9 Xej Xek
 obtain rfl:=Xr9 b q
 obtain rfl:=Xr9 b t
 exact ⟨⟨⟨⟨Xvl hh,⟨_,Xbn b,_,_,c⟩⟩,⟨_,_,Xnb d,Xbn b,fun e=>o e.symm,⟨_,_,p⟩,_,_,c⟩⟩,
  ⟨_,_,Xm6 f,Xbn b,fun e=>g e.symm,⟨_,_,s⟩,_,_,c⟩,⟨_,_,Xm7 j,Xbn b,fun e=>l e.symm,⟨_,_,y⟩,_,_,c⟩⟩,x0,x1,x2,x3,b,d,f,j⟩
theorem Xm8 {H : Type} (enc : TypeId × Value -> H) {W : World} {x0 x1 x2 x3 : Addr} (h0 : W.var? Tryz.prog "loop.example/g00345/impl.errKind" = some #[.iface 257 (.pointer (some x0))]) (h1 : W.var? Tryz.prog "loop.example/g00345/impl.errNotRight" = some #[.iface 257 (.pointer (some x1))])
  (h2 : W.var? Tryz.prog "loop.example/g00345/impl.errManyOuts" = some #[.iface 257 (.pointer (some x2))]) (h3 : W.var? Tryz.prog "loop.example/g00345/impl.errNoFuel" = some #[.iface 257 (.pointer (some x3))]) (sp : Nat -> Bool) :
  DataW.TrodVars enc Tryz.prog W sp ["loop.example/g00345/impl.errNoFuel", "loop.example/g00345/impl.errManyOuts", "loop.example/g00345/impl.errKind", "loop.example/g00345/impl.errNotRight"] [tok enc (.iface 257 (.pointer (some x3))), tok enc (.iface 257 (.pointer (some x2))), tok enc (.iface 257 (.pointer (some x0))), tok enc (.iface 257 (.pointer (some x1)))] [.cell 0 0, .cell 1 0, .cell 3 0, .cell 4 0] :=
 ⟨0, _, #[.iface 257 (.pointer (some x3))], 1, [], [.cell 1 0, .cell 3 0, .cell 4 0], Xmd, Xkv, h3, trod_held Tryz.underlying60 (show IsIface (.iface 257 (.pointer (some x3))) from trivial) 0,
  ⟨1, _, #[.iface 257 (.pointer (some x2))], 1, [], [.cell 3 0, .cell 4 0], Xmc, Xku, h2, trod_held Tryz.underlying60 (show IsIface (.iface 257 (.pointer (some x2))) from trivial) 0,
   Go.vars_read2 enc Xfz Xb3 Tryz.underlying60 h0 trivial Xme Xkw Tryz.underlying60 h1 trivial sp,rfl⟩,rfl⟩
end Go.Proofs.YtdjddneidbddpaaGreatDoor
