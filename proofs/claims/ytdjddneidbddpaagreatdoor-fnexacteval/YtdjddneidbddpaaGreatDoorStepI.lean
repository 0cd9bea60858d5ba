import Derived.Test.YtdjddneidbddpaaGreatDoorByP
import Derived.Test.YtdjddneidbddpaaGreatDoorProg
namespace Go.Proofs.YtdjddneidbddpaaGreatDoor
set_option linter.unusedSectionVars false
open Go.RowKit
set_option linter.unusedSimpArgs false
set_option linter.unusedVariables false


theorem Xcj {P:Program} {w:World} {ops:Array Oper} {o:Oper} {a:Act} {K:Act->World->Prop} {Q:Exit->Act->World->Prop} {E:Prop} (hgd:o.guard=none) (x:Operand) (name:String)
  (ho:o.op= .call {callee:= .invoke x name,args:= #[],argTypes:= #[]}) (t:TypeId) (v:Value) (hx:a.eval x= .iface t v) (F:FuncId) (hm:∀w,(Go.method (P.types.size+Made.depth) t v name).run P w= .ok (F,v) w)
  (hcf:∀w,(callFunc F #[v]).run P w= .ok (.enter F #[v]) w) {R:Ending->World->Prop} (hc:Calls P F #[v] w R)
  (h:∀e w',R e w'->∃u,e= .returned u/\K (a.put o.dst u) w'):
  if Region.wanted o (yielded ops a.tmps)=true then Oper.wp P o a w K Q else E:=by
 have b:Region.wanted o (yielded ops a.tmps)=true:=by simp[Region.wanted,hgd]
 rw[if_pos b]
 unfold Oper.wp execOp
 simp[ho,resolve,invoke,callMethod,hx,Deferred.ofValue,hcf,hm,Result.andThen,Oper.upon_enter]
 refine hc.mono fun e w' hr=> ?_
 obtain ⟨u,rfl,c⟩:=h e w' hr
 exact c
theorem Xgv {P:Program} {w:World} {ops:Array Oper} {o:Oper} {a:Act} {K:Act->World->Prop} {Q:Exit->Act->World->Prop} {E:Prop} (hw:Region.wanted o (yielded ops a.tmps)=true) (F:FuncId) (x y:Operand) (T U:TypeId)
  (ho:o.op= .call {callee:= .value (.func F),args:= #[x,y],argTypes:= #[T,U]}) (v u:Value) (hx:a.eval x=v) (hy:a.eval y=u) (hcf:∀w,(callFunc F #[v,u]).run P w= .ok (.enter F #[v,u]) w) {R:Ending->World->Prop} (hc:Calls P F #[v,u] w R)
  (h:∀e w',R e w'->∃u,e= .returned u/\K (a.put o.dst u) w'):
  if Region.wanted o (yielded ops a.tmps)=true then Oper.wp P o a w K Q else E:=by
 rw[if_pos hw]
 unfold Oper.wp execOp
 have b:a.eval (.func F)= .func (.func F) #[] #[]:=rfl
 simp[ho,resolve,invoke,hx,hy,b,Deferred.ofValue,hcf,Result.andThen,Oper.upon_enter]
 refine hc.mono fun e w' hr=> ?_
 obtain ⟨u,rfl,c⟩:=h e w' hr
 exact c
end Go.Proofs.YtdjddneidbddpaaGreatDoor
