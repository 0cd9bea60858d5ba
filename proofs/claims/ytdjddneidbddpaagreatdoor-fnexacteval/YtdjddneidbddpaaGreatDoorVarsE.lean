import Derived.Test.YtdjddneidbddpaaGreatDoorRows
import Derived.Test.YtdjddneidbddpaaGreatDoorIMrg
import Derived.ProofKit
import Derived.LaidMore
import Derived.OpenShut
import Derived.ShutString
import Derived.ChangeOld
import Derived.Below
import Derived.LaidLaws
import Derived.LaidHandle
import Derived.Stop.Joined
import Derived.Stop.LaidErr
namespace Go.Proofs.YtdjddneidbddpaaGreatDoor
set_option linter.unusedSimpArgs false
set_option linter.unusedSectionVars false
open Go.ChangeShapes Go.WideShapes Go.ChangeAt Go.RowKit
set_option linter.unusedVariables false
theorem X3y:ownKnob Tryz.prog.godebug=none:=by kernel_rfl
theorem Xc6:laidOutB Tryz.prog=true:=by kernel_rfl
theorem X4v : Tryz.prog.globalNamed "errors.errorType" = some 2 := by kernel_rfl
theorem Xfz : Tryz.prog.globalNamed "loop.example/g00345/impl.errKind" = some 3 := by kernel_rfl
theorem Xb3:(Tryz.prog.globals[3]?).map (·.type)=some 60:=by kernel_rfl
theorem ev_rt : (Tryz.prog.cutTypes.find? (·.1 == "internal/reflectlite.rtype")).map (·.2) = some 204 := by kernel_rfl
theorem Xvk:((List.range 289).filter fun t=>Tryz.prog.rowNamed t [101,114,114,111,114])= [60]:=by kernel_rfl
theorem X2h:Tryz.prog.types.size=289:=by kernel_rfl
theorem X3z:typeHandle Tryz.prog 60= .pointer (some ⟨6,60,none⟩):=by kernel_rfl
theorem Xr0 : "*" ++ "errors.errorString" = "*errors.errorString" := by decide
theorem Xmr (u : TypeId) (h : Tryz.prog.typeName? 3 u = some "*errors.errorString") : u = 257 :=
 typeName_ptr_named (nm := "errors.errorString") (by rw [Xr0]; kernel_rfl) (by kernel_rfl) (by decide) u (by rw [Xr0]; exact h)
theorem Xej:Tryz.prog.cellsOf 277=1:=by kernel_rfl
theorem Xek:Tryz.prog.cellsOf 9=1:=by kernel_rfl
theorem Xvl {W : World} (h : handlesMet Tryz.prog [("errors.errorType", Rows.laid_errors_errorType)] W) : ErrT W := by
 obtain ⟨b,u,f,g,j,l,o,c⟩:=h _ (List.mem_singleton.2 rfl)
 have p:b= [101,114,114,111,114]:=(Option.some.inj g).symm
 subst p
 obtain rfl:=Option.some.inj (ev_rt.symm.trans j)
 have d:f∈(List.range 289).filter fun t=>Tryz.prog.rowNamed t [101,114,114,111,114]:=List.mem_filter.2 ⟨List.mem_range.2 (by rw[<-X2h];exact l),o⟩
 rw[Xvk] at d
 obtain rfl:=List.mem_singleton.1 d
 rw[X3z] at c
 unfold ErrT
 simpa using World.var?_cell X4v c 0
theorem Uk {P:Program} {B g:Nat} {W W':World} {n:String} {cs:Array Value} (h:Below B W W') (hg:P.globalNamed n=some g) (hgB:g<B) (hv:W.var? P n=some cs):W'.var? P n=some cs:=by
 unfold World.var? at hv|-
 simp only[hg,Option.bind_some] at hv|-
 rw[h.block g hgB]
 exact hv
end Go.Proofs.YtdjddneidbddpaaGreatDoor
