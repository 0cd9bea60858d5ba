import Derived.Test.YtehihemfepbmfaaGreatDoorDrH
import Derived.Test.YtehihemfepbmfaaGreatDoorSDig
import Derived.Deep.RegionLaw
import Derived.Lib.ItoaLen
import Derived.Test.YtehihemfepbmfaaGreatDoorDrOp
namespace Go.Proofs.YtehihemfepbmfaaGreatDoor
set_option maxHeartbeats 25600000
open Go.RowKit
set_option linter.unusedSimpArgs false
set_option linter.unusedVariables false
set_option linter.unusedSectionVars false
def Xe1 (rb n:Nat) (D:Int) (B:Nat):Prop:=∀w,(∃p,RdAt w rb n p)→Calls Tryz.prog 39 #[.pointer (some ⟨rb,0,none⟩), .int .i64 D] w fun e w'=>(∃s:ByteArray,s.size≤B∧e= .returned (.string s))∧Drawn rb n w w'
theorem Xbh {v:Int} (h1: -100≤v) (h2:v≤100):(txt (Lib.itoa v)).size≤21:=by
 rw[Xo];exact Lib.itoa_length_le v (by omega) (by omega)
theorem Vp {P:Program} {w:World} {ops:Array Oper} {o:Oper} {a:Act} {K:Act→World→Prop} {Q:Exit→Act→World→Prop} {E:Prop} (hgd:o.guard=none) (F:FuncId) (x y:Operand) (T U:TypeId)
  (ho:o.op= .call {callee:= .value (.func F),args:= #[x,y],argTypes:= #[T,U]}) (v u:Value) (hx:a.eval x=v) (hy:a.eval y=u) (hcf:∀w,(callFunc F #[v,u]).run P w= .ok (.enter F #[v,u]) w) {R:Ending→World→Prop} (hc:Calls P F #[v,u] w R)
  (h:∀e w',R e w'→∃u,e= .returned u∧K (a.put o.dst u) w'):
  if Region.wanted o (yielded ops a.tmps)=true then Oper.wp P o a w K Q else E:=by
 have hw:Region.wanted o (yielded ops a.tmps)=true:=by simp[Region.wanted,hgd]
 rw[if_pos hw]
 unfold Oper.wp execOp
 have e1:a.eval (.func F)= .func (.func F) #[] #[]:=rfl
 simp[ho,resolve,invoke,hx,hy,e1,Deferred.ofValue,hcf,Result.andThen,Oper.upon_enter]
 refine hc.mono fun e w' hr=> ?_
 obtain ⟨u,rfl,hk⟩:=h e w' hr
 exact hk
theorem U0 (u v:Value):∀w,(callFunc 39 #[u,v]).run Tryz.prog w= .ok (.enter 39 #[u,v]) w:=fun w=>by kernel_rfl
theorem Z7:(ByteArray.mk #[32]).size=1:=rfl
theorem Z8:(ByteArray.mk #[32,101,108,115,101,32]).size=6:=rfl
theorem Z9:(ByteArray.mk #[32,101,110,100]).size=4:=rfl
theorem Qa:(ByteArray.mk #[32,116,104,101,110,32]).size=6:=rfl
theorem Qb:(ByteArray.mk #[32,124,32]).size=3:=rfl
theorem Qc:(ByteArray.mk #[40]).size=1:=rfl
theorem Qd:(ByteArray.mk #[41]).size=1:=rfl
theorem Qe:(ByteArray.mk #[41,32]).size=2:=rfl
theorem Qf:(ByteArray.mk #[41,32,47,47,32]).size=5:=rfl
theorem Qg:(ByteArray.mk #[41,44,32,98,58,32]).size=6:=rfl
theorem Y3:(ByteArray.mk #[41,63]).size=2:=rfl
theorem Y4:(ByteArray.mk #[44,32]).size=2:=rfl
theorem Y5:(ByteArray.mk #[46]).size=1:=rfl
theorem Y6:(ByteArray.mk #[46,91]).size=2:=rfl
theorem Y7:(ByteArray.mk #[46,91,93]).size=3:=rfl
theorem Y8:(ByteArray.mk #[46,91,93,63]).size=4:=rfl
theorem Y9:(ByteArray.mk #[91]).size=1:=rfl
theorem Za:(ByteArray.mk #[91,93]).size=2:=rfl
theorem Zb:(ByteArray.mk #[93]).size=1:=rfl
theorem Zc:(ByteArray.mk #[105,102,32]).size=3:=rfl
theorem Zd:(ByteArray.mk #[115,101,108,101,99,116,40]).size=7:=rfl
theorem Ze:(ByteArray.mk #[123,97,58,32,40]).size=5:=rfl
theorem Zf:(ByteArray.mk #[123,125]).size=2:=rfl
theorem Zg:(ByteArray.mk #[125]).size=1:=rfl
section
variable {rb n:Nat}
set_option maxRecDepth 100000 in
theorem Xal:Xe1 rb n 0 70:=by
 intro w h
 have H:=Xb h
 clear h
 go_enter Tryz.func39,Tryz.ntmps39
 go_wp2_with fail
 refine (Zp rb n 24 w H.out (by omega) (by omega)).mono ?_
 rintro e w1 ⟨⟨x0,hx0,rfl⟩,hd⟩
 have HD1:=Xb hd
 clear hd
 go_wp2_with fail
 refine (Zp rb n 11 w1 HD1.out.rd (by omega) (by omega)).mono ?_
 rintro e w2 ⟨⟨x,hx,rfl⟩,hd⟩
 have HD2:=Xb (HD1.out.trans hd)
 clear hd H
 by_cases e0:x=0
 ·subst e0
  go_wp2_with fail
  go_ret
  exact ⟨⟨_,by first|(simp only[ByteArray.size_append,Z7,Z8,Z9,Qa,Qb,Qc,Qd,Qe,Qf,Qg,Y3,Y4,Y5,Y6,Y7,Y8,Y9,Za,Zb,Zc,Zd,Ze,Zf,Zg];omega)|omega,rfl⟩,HD2.out⟩
 by_cases e1:x=1
 ·subst e1
  have HC1:=Xb (Wn rb n 3 #[.string ⟨#[97]⟩, .string ⟨#[98]⟩, .string ⟨#[107,101,121]⟩] 9 w2 HD2.out.rd (by omega) (by omega) (by kernel_rfl))
  go_wp2_with fail
  refine HC1.out.mono ?_
  rintro e w101 ⟨⟨y,tt,hy,rfl,hsz,hcl⟩,hd⟩
  have HD101:=Xb (HD2.out.trans hd)
  clear hd
  go_wp2_with fail
  go_ret
  exact ⟨⟨_,by first|(simp only[ByteArray.size_append,Z7,Z8,Z9,Qa,Qb,Qc,Qd,Qe,Qf,Qg,Y3,Y4,Y5,Y6,Y7,Y8,Y9,Za,Zb,Zc,Zd,Ze,Zf,Zg];omega)|omega,rfl⟩,HD101.out⟩
 by_cases e2:x=2
 ·subst e2
  have HC2:=Xb (Wn rb n 3 #[.string ⟨#[97]⟩, .string ⟨#[98]⟩, .string ⟨#[107,101,121]⟩] 9 w2 HD2.out.rd (by omega) (by omega) (by kernel_rfl))
  go_wp2_with fail
  refine HC2.out.mono ?_
  rintro e w102 ⟨⟨y,tt,hy,rfl,hsz,hcl⟩,hd⟩
  have HD102:=Xb (HD2.out.trans hd)
  clear hd
  go_wp2_with fail
  go_ret
  exact ⟨⟨_,by first|(simp only[ByteArray.size_append,Z7,Z8,Z9,Qa,Qb,Qc,Qd,Qe,Qf,Qg,Y3,Y4,Y5,Y6,Y7,Y8,Y9,Za,Zb,Zc,Zd,Ze,Zf,Zg];omega)|omega,rfl⟩,HD102.out⟩
 by_cases e3:x=3
 ·subst e3
  have HC3:=Xb (Zp rb n 4 w2 HD2.out.rd (by omega) (by omega))
  go_wp2_with fail
  refine HC3.out.mono ?_
  rintro e w103 ⟨⟨y,hy,rfl⟩,hd⟩
  have HD103:=Xb (HD2.out.trans hd)
  clear hd
  have hv: -100≤(y:Int)-1∧(y:Int)-1≤100:=⟨by omega,by omega⟩
  have HC4:=Xb (Uc ((y:Int)-1) w103 (by omega) (by omega))
  have hsz:=Xbh hv.1 hv.2
  obtain ⟨tt,htt⟩:∃tt,txt (Lib.itoa ((y:Int)-1))=tt:=⟨_,rfl⟩
  rw[htt] at HC4 hsz
  clear htt
  go_wp2_with fail
  refine HC4.out.mono ?_
  rintro e w104 ⟨rfl,hb⟩
  have HD104:=Xb (HD103.out.next hb)
  clear hb
  go_wp2_with fail
  go_ret
  exact ⟨⟨_,by first|(simp only[ByteArray.size_append,Z7,Z8,Z9,Qa,Qb,Qc,Qd,Qe,Qf,Qg,Y3,Y4,Y5,Y6,Y7,Y8,Y9,Za,Zb,Zc,Zd,Ze,Zf,Zg];omega)|omega,rfl⟩,HD104.out⟩
 by_cases e4:x=4
 ·subst e4
  go_wp2_with fail
  go_ret
  exact ⟨⟨_,by first|(simp only[ByteArray.size_append,Z7,Z8,Z9,Qa,Qb,Qc,Qd,Qe,Qf,Qg,Y3,Y4,Y5,Y6,Y7,Y8,Y9,Za,Zb,Zc,Zd,Ze,Zf,Zg];omega)|omega,rfl⟩,HD2.out⟩
 by_cases e5:x=5
 ·subst e5
  have HC5:=Xb (Zp rb n 9 w2 HD2.out.rd (by omega) (by omega))
  go_wp2_with fail
  refine HC5.out.mono ?_
  rintro e w105 ⟨⟨y,hy,rfl⟩,hd⟩
  have HD105:=Xb (HD2.out.trans hd)
  clear hd
  have hv: -100≤(y:Int)-3∧(y:Int)-3≤100:=⟨by omega,by omega⟩
  have HC6:=Xb (Uc ((y:Int)-3) w105 (by omega) (by omega))
  have hsz:=Xbh hv.1 hv.2
  obtain ⟨tt,htt⟩:∃tt,txt (Lib.itoa ((y:Int)-3))=tt:=⟨_,rfl⟩
  rw[htt] at HC6 hsz
  clear htt
  go_wp2_with fail
  refine HC6.out.mono ?_
  rintro e w106 ⟨rfl,hb⟩
  have HD106:=Xb (HD105.out.next hb)
  clear hb
  go_wp2_with fail
  go_ret
  exact ⟨⟨_,by first|(simp only[ByteArray.size_append,Z7,Z8,Z9,Qa,Qb,Qc,Qd,Qe,Qf,Qg,Y3,Y4,Y5,Y6,Y7,Y8,Y9,Za,Zb,Zc,Zd,Ze,Zf,Zg];omega)|omega,rfl⟩,HD106.out⟩
 by_cases e6:x=6
 ·subst e6
  have HC7:=Xb (Wn rb n 5 #[.string ⟨#[110,117,108,108]⟩, .string ⟨#[116,114,117,101]⟩, .string ⟨#[102,97,108,115,101]⟩, .string ⟨#[34,97,34]⟩, .string ⟨#[34,120,32,121,34]⟩] 9 w2 HD2.out.rd (by omega) (by omega) (by kernel_rfl))
  go_wp2_with fail
  refine HC7.out.mono ?_
  rintro e w107 ⟨⟨y,tt,hy,rfl,hsz,hcl⟩,hd⟩
  have HD107:=Xb (HD2.out.trans hd)
  clear hd
  go_wp2_with fail
  go_ret
  exact ⟨⟨_,by first|(simp only[ByteArray.size_append,Z7,Z8,Z9,Qa,Qb,Qc,Qd,Qe,Qf,Qg,Y3,Y4,Y5,Y6,Y7,Y8,Y9,Za,Zb,Zc,Zd,Ze,Zf,Zg];omega)|omega,rfl⟩,HD107.out⟩
 by_cases e7:x=7
 ·subst e7
  have HC8:=Xb (Wn rb n 4 #[.string ⟨#[108,101,110,103,116,104]⟩, .string ⟨#[107,101,121,115]⟩, .string ⟨#[110,111,116]⟩, .string ⟨#[101,109,112,116,121]⟩] 9 w2 HD2.out.rd (by omega) (by omega) (by kernel_rfl))
  go_wp2_with fail
  refine HC8.out.mono ?_
  rintro e w108 ⟨⟨y,tt,hy,rfl,hsz,hcl⟩,hd⟩
  have HD108:=Xb (HD2.out.trans hd)
  clear hd
  go_wp2_with fail
  go_ret
  exact ⟨⟨_,by first|(simp only[ByteArray.size_append,Z7,Z8,Z9,Qa,Qb,Qc,Qd,Qe,Qf,Qg,Y3,Y4,Y5,Y6,Y7,Y8,Y9,Za,Zb,Zc,Zd,Ze,Zf,Zg];omega)|omega,rfl⟩,HD108.out⟩
 by_cases e8:x=8
 ·subst e8
  go_wp2_with fail
  go_ret
  exact ⟨⟨_,by first|(simp only[ByteArray.size_append,Z7,Z8,Z9,Qa,Qb,Qc,Qd,Qe,Qf,Qg,Y3,Y4,Y5,Y6,Y7,Y8,Y9,Za,Zb,Zc,Zd,Ze,Zf,Zg];omega)|omega,rfl⟩,HD2.out⟩
 by_cases e9:x=9
 ·subst e9
  go_wp2_with fail
  go_ret
  exact ⟨⟨_,by first|(simp only[ByteArray.size_append,Z7,Z8,Z9,Qa,Qb,Qc,Qd,Qe,Qf,Qg,Y3,Y4,Y5,Y6,Y7,Y8,Y9,Za,Zb,Zc,Zd,Ze,Zf,Zg];omega)|omega,rfl⟩,HD2.out⟩
 by_cases e10:x=10
 ·subst e10
  go_wp2_with fail
  go_ret
  exact ⟨⟨_,by first|(simp only[ByteArray.size_append,Z7,Z8,Z9,Qa,Qb,Qc,Qd,Qe,Qf,Qg,Y3,Y4,Y5,Y6,Y7,Y8,Y9,Za,Zb,Zc,Zd,Ze,Zf,Zg];omega)|omega,rfl⟩,HD2.out⟩
 omega
set_option maxRecDepth 100000 in
theorem Xcl {D:Int} {B:Nat} (hD:1≤D∧D≤10) (hB:70≤B∧B≤10000) (h0:Xe1 rb n 0 70) (hr:Xe1 rb n (D-1) B):Xe1 rb n D (2 *B+200):=by
 intro w h
 have H:=Xb h
 have H0:=Xb h0
 have HR:=Xb hr
 have hd0:(D==0)=false:=by simp;omega
 have hd1:¬D=0:=by omega
 clear h h0 hr
 go_enter Tryz.func39,Tryz.ntmps39
 go_wp2_with fail
 refine (Zp rb n 24 w H.out (by omega) (by omega)).mono ?_
 rintro e w2 ⟨⟨x,hx,rfl⟩,hd⟩
 have HD2:=Xb hd
 clear hd H
 by_cases e0:x=0
 ·subst e0
  go_wp2_with fail
  go_ret
  exact ⟨⟨_,by first|(simp only[ByteArray.size_append,Z7,Z8,Z9,Qa,Qb,Qc,Qd,Qe,Qf,Qg,Y3,Y4,Y5,Y6,Y7,Y8,Y9,Za,Zb,Zc,Zd,Ze,Zf,Zg];omega)|omega,rfl⟩,HD2.out⟩
 by_cases e1:x=1
 ·subst e1
  have HC9:=Xb (Wn rb n 3 #[.string ⟨#[97]⟩, .string ⟨#[98]⟩, .string ⟨#[107,101,121]⟩] 9 w2 HD2.out.rd (by omega) (by omega) (by kernel_rfl))
  go_wp2_with fail
  refine HC9.out.mono ?_
  rintro e w109 ⟨⟨y,tt,hy,rfl,hsz,hcl⟩,hd⟩
  have HD109:=Xb (HD2.out.trans hd)
  clear hd
  go_wp2_with fail
  go_ret
  exact ⟨⟨_,by first|(simp only[ByteArray.size_append,Z7,Z8,Z9,Qa,Qb,Qc,Qd,Qe,Qf,Qg,Y3,Y4,Y5,Y6,Y7,Y8,Y9,Za,Zb,Zc,Zd,Ze,Zf,Zg];omega)|omega,rfl⟩,HD109.out⟩
 by_cases e2:x=2
 ·subst e2
  have HC10:=Xb (Wn rb n 3 #[.string ⟨#[97]⟩, .string ⟨#[98]⟩, .string ⟨#[107,101,121]⟩] 9 w2 HD2.out.rd (by omega) (by omega) (by kernel_rfl))
  go_wp2_with fail
  refine HC10.out.mono ?_
  rintro e w110 ⟨⟨y,tt,hy,rfl,hsz,hcl⟩,hd⟩
  have HD110:=Xb (HD2.out.trans hd)
  clear hd
  go_wp2_with fail
  go_ret
  exact ⟨⟨_,by first|(simp only[ByteArray.size_append,Z7,Z8,Z9,Qa,Qb,Qc,Qd,Qe,Qf,Qg,Y3,Y4,Y5,Y6,Y7,Y8,Y9,Za,Zb,Zc,Zd,Ze,Zf,Zg];omega)|omega,rfl⟩,HD110.out⟩
 by_cases e3:x=3
 ·subst e3
  have HC11:=Xb (Zp rb n 4 w2 HD2.out.rd (by omega) (by omega))
  go_wp2_with fail
  refine HC11.out.mono ?_
  rintro e w111 ⟨⟨y,hy,rfl⟩,hd⟩
  have HD111:=Xb (HD2.out.trans hd)
  clear hd
  have hv: -100≤(y:Int)-1∧(y:Int)-1≤100:=⟨by omega,by omega⟩
  have HC12:=Xb (Uc ((y:Int)-1) w111 (by omega) (by omega))
  have hsz:=Xbh hv.1 hv.2
  obtain ⟨tt,htt⟩:∃tt,txt (Lib.itoa ((y:Int)-1))=tt:=⟨_,rfl⟩
  rw[htt] at HC12 hsz
  clear htt
  go_wp2_with fail
  refine HC12.out.mono ?_
  rintro e w112 ⟨rfl,hb⟩
  have HD112:=Xb (HD111.out.next hb)
  clear hb
  go_wp2_with fail
  go_ret
  exact ⟨⟨_,by first|(simp only[ByteArray.size_append,Z7,Z8,Z9,Qa,Qb,Qc,Qd,Qe,Qf,Qg,Y3,Y4,Y5,Y6,Y7,Y8,Y9,Za,Zb,Zc,Zd,Ze,Zf,Zg];omega)|omega,rfl⟩,HD112.out⟩
 by_cases e4:x=4
 ·subst e4
  go_wp2_with fail
  go_ret
  exact ⟨⟨_,by first|(simp only[ByteArray.size_append,Z7,Z8,Z9,Qa,Qb,Qc,Qd,Qe,Qf,Qg,Y3,Y4,Y5,Y6,Y7,Y8,Y9,Za,Zb,Zc,Zd,Ze,Zf,Zg];omega)|omega,rfl⟩,HD2.out⟩
 by_cases e5:x=5
 ·subst e5
  have HC13:=Xb (Zp rb n 9 w2 HD2.out.rd (by omega) (by omega))
  go_wp2_with fail
  refine HC13.out.mono ?_
  rintro e w113 ⟨⟨y,hy,rfl⟩,hd⟩
  have HD113:=Xb (HD2.out.trans hd)
  clear hd
  have hv: -100≤(y:Int)-3∧(y:Int)-3≤100:=⟨by omega,by omega⟩
  have HC14:=Xb (Uc ((y:Int)-3) w113 (by omega) (by omega))
  have hsz:=Xbh hv.1 hv.2
  obtain ⟨tt,htt⟩:∃tt,txt (Lib.itoa ((y:Int)-3))=tt:=⟨_,rfl⟩
  rw[htt] at HC14 hsz
  clear htt
  go_wp2_with fail
  refine HC14.out.mono ?_
  rintro e w114 ⟨rfl,hb⟩
  have HD114:=Xb (HD113.out.next hb)
  clear hb
  go_wp2_with fail
  go_ret
  exact ⟨⟨_,by first|(simp only[ByteArray.size_append,Z7,Z8,Z9,Qa,Qb,Qc,Qd,Qe,Qf,Qg,Y3,Y4,Y5,Y6,Y7,Y8,Y9,Za,Zb,Zc,Zd,Ze,Zf,Zg];omega)|omega,rfl⟩,HD114.out⟩
 by_cases e6:x=6
 ·subst e6
  have HC15:=Xb (Wn rb n 5 #[.string ⟨#[110,117,108,108]⟩, .string ⟨#[116,114,117,101]⟩, .string ⟨#[102,97,108,115,101]⟩, .string ⟨#[34,97,34]⟩, .string ⟨#[34,120,32,121,34]⟩] 9 w2 HD2.out.rd (by omega) (by omega) (by kernel_rfl))
  go_wp2_with fail
  refine HC15.out.mono ?_
  rintro e w115 ⟨⟨y,tt,hy,rfl,hsz,hcl⟩,hd⟩
  have HD115:=Xb (HD2.out.trans hd)
  clear hd
  go_wp2_with fail
  go_ret
  exact ⟨⟨_,by first|(simp only[ByteArray.size_append,Z7,Z8,Z9,Qa,Qb,Qc,Qd,Qe,Qf,Qg,Y3,Y4,Y5,Y6,Y7,Y8,Y9,Za,Zb,Zc,Zd,Ze,Zf,Zg];omega)|omega,rfl⟩,HD115.out⟩
 by_cases e7:x=7
 ·subst e7
  have HC16:=Xb (Wn rb n 4 #[.string ⟨#[108,101,110,103,116,104]⟩, .string ⟨#[107,101,121,115]⟩, .string ⟨#[110,111,116]⟩, .string ⟨#[101,109,112,116,121]⟩] 9 w2 HD2.out.rd (by omega) (by omega) (by kernel_rfl))
  go_wp2_with fail
  refine HC16.out.mono ?_
  rintro e w116 ⟨⟨y,tt,hy,rfl,hsz,hcl⟩,hd⟩
  have HD116:=Xb (HD2.out.trans hd)
  clear hd
  go_wp2_with fail
  go_ret
  exact ⟨⟨_,by first|(simp only[ByteArray.size_append,Z7,Z8,Z9,Qa,Qb,Qc,Qd,Qe,Qf,Qg,Y3,Y4,Y5,Y6,Y7,Y8,Y9,Za,Zb,Zc,Zd,Ze,Zf,Zg];omega)|omega,rfl⟩,HD116.out⟩
 by_cases e8:x=8
 ·subst e8
  go_wp2_with fail
  go_ret
  exact ⟨⟨_,by first|(simp only[ByteArray.size_append,Z7,Z8,Z9,Qa,Qb,Qc,Qd,Qe,Qf,Qg,Y3,Y4,Y5,Y6,Y7,Y8,Y9,Za,Zb,Zc,Zd,Ze,Zf,Zg];omega)|omega,rfl⟩,HD2.out⟩
 by_cases e9:x=9
 ·subst e9
  go_wp2_with fail
  go_ret
  exact ⟨⟨_,by first|(simp only[ByteArray.size_append,Z7,Z8,Z9,Qa,Qb,Qc,Qd,Qe,Qf,Qg,Y3,Y4,Y5,Y6,Y7,Y8,Y9,Za,Zb,Zc,Zd,Ze,Zf,Zg];omega)|omega,rfl⟩,HD2.out⟩
 by_cases e10:x=10
 ·subst e10
  go_wp2_with fail
  go_ret
  exact ⟨⟨_,by first|(simp only[ByteArray.size_append,Z7,Z8,Z9,Qa,Qb,Qc,Qd,Qe,Qf,Qg,Y3,Y4,Y5,Y6,Y7,Y8,Y9,Za,Zb,Zc,Zd,Ze,Zf,Zg];omega)|omega,rfl⟩,HD2.out⟩
 by_cases e11:x=11
 ·subst e11
  have HC17:=Xb (HR.out w2 HD2.out.rd)
  go_wp2_with fail
  refine HC17.out.mono ?_
  rintro e w117 ⟨⟨s1,zs1,rfl⟩,hd⟩
  have HD117:=Xb (HD2.out.trans hd)
  clear hd
  have HC18:=Xb (HR.out w117 HD117.out.rd)
  go_wp2_with fail
  refine HC18.out.mono ?_
  rintro e w118 ⟨⟨s2,zs2,rfl⟩,hd⟩
  have HD118:=Xb (HD117.out.trans hd)
  clear hd
  go_wp2_with fail
  go_ret
  exact ⟨⟨_,by first|(simp only[ByteArray.size_append,Z7,Z8,Z9,Qa,Qb,Qc,Qd,Qe,Qf,Qg,Y3,Y4,Y5,Y6,Y7,Y8,Y9,Za,Zb,Zc,Zd,Ze,Zf,Zg];omega)|omega,rfl⟩,HD118.out⟩
 by_cases e12:x=12
 ·subst e12
  have HC19:=Xb (HR.out w2 HD2.out.rd)
  go_wp2_with fail
  refine HC19.out.mono ?_
  rintro e w119 ⟨⟨s1,zs1,rfl⟩,hd⟩
  have HD119:=Xb (HD2.out.trans hd)
  clear hd
  have HC20:=Xb (HR.out w119 HD119.out.rd)
  go_wp2_with fail
  refine HC20.out.mono ?_
  rintro e w120 ⟨⟨s2,zs2,rfl⟩,hd⟩
  have HD120:=Xb (HD119.out.trans hd)
  clear hd
  go_wp2_with fail
  go_ret
  exact ⟨⟨_,by first|(simp only[ByteArray.size_append,Z7,Z8,Z9,Qa,Qb,Qc,Qd,Qe,Qf,Qg,Y3,Y4,Y5,Y6,Y7,Y8,Y9,Za,Zb,Zc,Zd,Ze,Zf,Zg];omega)|omega,rfl⟩,HD120.out⟩
 by_cases e13:x=13
 ·subst e13
  have HC21:=Xb (HR.out w2 HD2.out.rd)
  go_wp2_with fail
  refine HC21.out.mono ?_
  rintro e w121 ⟨⟨s1,zs1,rfl⟩,hd⟩
  have HD121:=Xb (HD2.out.trans hd)
  clear hd
  have HC22:=Xb (HR.out w121 HD121.out.rd)
  go_wp2_with fail
  refine HC22.out.mono ?_
  rintro e w122 ⟨⟨s2,zs2,rfl⟩,hd⟩
  have HD122:=Xb (HD121.out.trans hd)
  clear hd
  go_wp2_with fail
  go_ret
  exact ⟨⟨_,by first|(simp only[ByteArray.size_append,Z7,Z8,Z9,Qa,Qb,Qc,Qd,Qe,Qf,Qg,Y3,Y4,Y5,Y6,Y7,Y8,Y9,Za,Zb,Zc,Zd,Ze,Zf,Zg];omega)|omega,rfl⟩,HD122.out⟩
 by_cases e14:x=14
 ·subst e14
  have HC23:=Xb (HR.out w2 HD2.out.rd)
  go_wp2_with fail
  refine HC23.out.mono ?_
  rintro e w123 ⟨⟨s1,zs1,rfl⟩,hd⟩
  have HD123:=Xb (HD2.out.trans hd)
  clear hd
  have HC24:=Xb (HR.out w123 HD123.out.rd)
  go_wp2_with fail
  refine HC24.out.mono ?_
  rintro e w124 ⟨⟨s2,zs2,rfl⟩,hd⟩
  have HD124:=Xb (HD123.out.trans hd)
  clear hd
  go_wp2_with fail
  go_ret
  exact ⟨⟨_,by first|(simp only[ByteArray.size_append,Z7,Z8,Z9,Qa,Qb,Qc,Qd,Qe,Qf,Qg,Y3,Y4,Y5,Y6,Y7,Y8,Y9,Za,Zb,Zc,Zd,Ze,Zf,Zg];omega)|omega,rfl⟩,HD124.out⟩
 by_cases e15:x=15
 ·subst e15
  have HC25:=Xb (HR.out w2 HD2.out.rd)
  go_wp2_with fail
  refine HC25.out.mono ?_
  rintro e w125 ⟨⟨s1,zs1,rfl⟩,hd⟩
  have HD125:=Xb (HD2.out.trans hd)
  clear hd
  go_wp2_with fail
  go_ret
  exact ⟨⟨_,by first|(simp only[ByteArray.size_append,Z7,Z8,Z9,Qa,Qb,Qc,Qd,Qe,Qf,Qg,Y3,Y4,Y5,Y6,Y7,Y8,Y9,Za,Zb,Zc,Zd,Ze,Zf,Zg];omega)|omega,rfl⟩,HD125.out⟩
 by_cases e16:x=16
 ·subst e16
  have HC26:=Xb (HR.out w2 HD2.out.rd)
  go_wp2_with fail
  refine HC26.out.mono ?_
  rintro e w126 ⟨⟨s1,zs1,rfl⟩,hd⟩
  have HD126:=Xb (HD2.out.trans hd)
  clear hd
  have HC27:=Xb (H0.out w126 HD126.out.rd)
  go_wp2_with fail
  refine HC27.out.mono ?_
  rintro e w127 ⟨⟨s2,zs2,rfl⟩,hd⟩
  have HD127:=Xb (HD126.out.trans hd)
  clear hd
  go_wp2_with fail
  go_ret
  exact ⟨⟨_,by first|(simp only[ByteArray.size_append,Z7,Z8,Z9,Qa,Qb,Qc,Qd,Qe,Qf,Qg,Y3,Y4,Y5,Y6,Y7,Y8,Y9,Za,Zb,Zc,Zd,Ze,Zf,Zg];omega)|omega,rfl⟩,HD127.out⟩
 by_cases e17:x=17
 ·subst e17
  have HC28:=Xb (HR.out w2 HD2.out.rd)
  go_wp2_with fail
  refine HC28.out.mono ?_
  rintro e w128 ⟨⟨s1,zs1,rfl⟩,hd⟩
  have HD128:=Xb (HD2.out.trans hd)
  clear hd
  go_wp2_with fail
  go_ret
  exact ⟨⟨_,by first|(simp only[ByteArray.size_append,Z7,Z8,Z9,Qa,Qb,Qc,Qd,Qe,Qf,Qg,Y3,Y4,Y5,Y6,Y7,Y8,Y9,Za,Zb,Zc,Zd,Ze,Zf,Zg];omega)|omega,rfl⟩,HD128.out⟩
 by_cases e18:x=18
 ·subst e18
  have hwr:IntKind.i64.wrap (D-1)=D-1:=Xco (by omega) (by omega)
  have HFA:Hid (Xe1 rb n (D-1) B):=HR.out
  have hones:Xfj #[Value.string ⟨#[43]⟩,Value.string ⟨#[45]⟩] 2=true:=by kernel_rfl
  go_wp2_with fail
  go_region_law
   (first
    |(refine Vp (by rfl) 39 _ _ _ _ (by rfl) (.pointer (some ⟨rb,0,none⟩)) (.int .i64 0) (by rfl) (by rfl) (U0 _ _) (H0.out _ ?_) ?_;first|(exact (hq2).rd;rintro e v3 ⟨⟨s3,hs3,rfl⟩,hd3⟩;have hq3:Drawn rb n w v3:=(hq2).trans hd3;have k1:¬9223372036854775807<1+s1.size+2+tt.size+1+s3.size:=(by omega);have hcl3:=((hd3.only.cell (J7 hcl) (by first|(obtain ⟨p,hp⟩:=hq1.rd;have:=hp.lt;omega)|(obtain ⟨p,hp⟩:=hq2.rd;have:=hp.lt;omega)|(obtain ⟨p,hp⟩:=HD2.out.rd;have:=hp.lt;omega))).trans hcl);refine ⟨_,rfl, ?_⟩)|(exact (hq2.next ((Below.refl _ _).alloc (Nat.le_refl _) _)).rd;rintro e v3 ⟨⟨s3,hs3,rfl⟩,hd3⟩;have hq3:Drawn rb n w v3:=(hq2.next ((Below.refl _ _).alloc (Nat.le_refl _) _)).trans hd3;have k1:¬9223372036854775807<1+s1.size+2+tt.size+1+s3.size:=(by omega);have hcb:=Ka (w:=v2) (T:=9) htt;have hcl3:=((hd3.only.cell (J7 hcb) (by first|(obtain ⟨p,hp⟩:=hq1.rd;have:=hp.lt;omega)|(obtain ⟨p,hp⟩:=hq2.rd;have:=hp.lt;omega)|(obtain ⟨p,hp⟩:=HD2.out.rd;have:=hp.lt;omega))).trans hcb);refine ⟨_,rfl, ?_⟩)|(exact (hq2).rd;rintro e v3 ⟨⟨s3,hs3,rfl⟩,hd3⟩;have hq3:Drawn rb n w v3:=(hq2).trans hd3;have k1:¬9223372036854775807<1+s1.size+2+tt.size+1+s3.size:=(by omega);have hcl3:=Ka (w:=v3) (T:=9) htt;refine ⟨_,rfl, ?_⟩))
    |(refine Vp (by rfl) 41 _ _ _ _ (by rfl) (.pointer (some ⟨rb,0,none⟩)) (.int .i64 2) (by rfl) (by rfl) (Xfo _ _) (Zp rb n 2 _ ?_ (by omega) (by omega)) ?_;first|(exact (hq1).rd;rintro e v2 ⟨⟨y,hy,rfl⟩,hd2⟩;have hq2:Drawn rb n w v2:=(hq1).trans hd2;obtain ⟨tt,htt,hsz⟩:=V0 hones hy;have hyi:(y:Int)<2:=(by omega);have hyn:(y:Int).toNat=y:=(by omega);have j1:¬9223372036854775807<1+s1.size+2+tt.size:=(by omega);have j2:¬9223372036854775807<1+s1.size+2+tt.size+1:=(by omega);have hca:=hcl0 y tt htt;have hcl:=((hd2.only.cell (J7 hca) (by obtain ⟨p,hp⟩:=HDX.out.rd;have:=hp.lt;omega)).trans hca);refine ⟨_,rfl, ?_⟩)|(exact (hq1.next ((Below.refl _ _).alloc (Nat.le_refl _) _)).rd;rintro e v2 ⟨⟨y,hy,rfl⟩,hd2⟩;have hq2:Drawn rb n w v2:=(hq1.next ((Below.refl _ _).alloc (Nat.le_refl _) _)).trans hd2;obtain ⟨tt,htt,hsz⟩:=V0 hones hy;have hyi:(y:Int)<2:=(by omega);have hyn:(y:Int).toNat=y:=(by omega);have j1:¬9223372036854775807<1+s1.size+2+tt.size:=(by omega);have j2:¬9223372036854775807<1+s1.size+2+tt.size+1:=(by omega);have hcb:=Ka (w:=v1) (T:=9) htt;have hcl:=((hd2.only.cell (J7 hcb) (by first|(obtain ⟨p,hp⟩:=hq1.rd;have:=hp.lt;omega)|(obtain ⟨p,hp⟩:=hq2.rd;have:=hp.lt;omega)|(obtain ⟨p,hp⟩:=HD2.out.rd;have:=hp.lt;omega))).trans hcb);refine ⟨_,rfl, ?_⟩)|(exact (hq1).rd;rintro e v2 ⟨⟨y,hy,rfl⟩,hd2⟩;have hq2:Drawn rb n w v2:=(hq1).trans hd2;obtain ⟨tt,htt,hsz⟩:=V0 hones hy;have hyi:(y:Int)<2:=(by omega);have hyn:(y:Int).toNat=y:=(by omega);have j1:¬9223372036854775807<1+s1.size+2+tt.size:=(by omega);have j2:¬9223372036854775807<1+s1.size+2+tt.size+1:=(by omega);have hcw:=Ka (w:=v2) (T:=9) htt;refine ⟨_,rfl, ?_⟩))
    |(refine Vp (by rfl) 39 _ _ _ _ (by rfl) (.pointer (some ⟨rb,0,none⟩)) (.int .i64 (D-1)) (by rfl) (by rfl) (U0 _ _) (HFA.out _ ?_) ?_;first|(exact (HD2.out.next (Below.refl _ _).drew).rd;rintro e v1 ⟨⟨s1,hs1,rfl⟩,hd1⟩;have hq1:Drawn rb n w v1:=(HD2.out.next (Below.refl _ _).drew).trans hd1;have g1:¬9223372036854775807<1+s1.size:=(by omega);have g2:¬9223372036854775807<1+s1.size+2:=(by omega);skip;refine ⟨_,rfl, ?_⟩)|(exact (HD2.out.next ((Below.refl _ _).drew.alloc (by simp) _)).rd;rintro e v1 ⟨⟨s1,hs1,rfl⟩,hd1⟩;have hq1:Drawn rb n w v1:=(HD2.out.next ((Below.refl _ _).drew.alloc (by simp) _)).trans hd1;have g1:¬9223372036854775807<1+s1.size:=(by omega);have g2:¬9223372036854775807<1+s1.size+2:=(by omega);have hcl0:∀(y:Nat) (s:ByteArray),(#[Value.string ⟨#[43]⟩,Value.string ⟨#[45]⟩]:Array Value)[y]? =some (.string s)→v1.cell? ⟨w2.heap.size,y,none⟩=some (.string s):=(fun y s h=>by have hcb:((w2.drew).alloc (.cells #[Value.string ⟨#[43]⟩,Value.string ⟨#[45]⟩] 9)).cell? ⟨w2.heap.size,y,none⟩=some (.string s):=Ka h;exact ((hd1.only.cell (J7 hcb) (by obtain ⟨p,hp⟩:=HD2.out.rd;have:=hp.lt;omega)).trans hcb));have HDX:=HD2;refine ⟨_,rfl, ?_⟩))
    |(trace_state;fail))
  all_goals
   go_wp2_with fail
   go_ret
   first|exact ⟨⟨_,by first|(simp only[ByteArray.size_append,Z7,Z8,Z9,Qa,Qb,Qc,Qd,Qe,Qf,Qg,Y3,Y4,Y5,Y6,Y7,Y8,Y9,Za,Zb,Zc,Zd,Ze,Zf,Zg];omega)|omega,rfl⟩,hq3⟩|exact ⟨⟨_,by first|(simp only[ByteArray.size_append,Z7,Z8,Z9,Qa,Qb,Qc,Qd,Qe,Qf,Qg,Y3,Y4,Y5,Y6,Y7,Y8,Y9,Za,Zb,Zc,Zd,Ze,Zf,Zg];omega)|omega,rfl⟩,hq3.next ((Below.refl _ _).alloc (Nat.le_refl _) _)⟩
 by_cases e19:x=19
 ·subst e19
  have HFA:Hid (Xe1 rb n 0 70):=H0.out
  have hones:Xfj #[Value.string ⟨#[61,61]⟩,Value.string ⟨#[33,61]⟩,Value.string ⟨#[60]⟩,Value.string ⟨#[60,61]⟩] 4=true:=by kernel_rfl
  go_wp2_with fail
  go_region_law
   (first
    |(refine Vp (by rfl) 39 _ _ _ _ (by rfl) (.pointer (some ⟨rb,0,none⟩)) (.int .i64 0) (by rfl) (by rfl) (U0 _ _) (H0.out _ ?_) ?_;first|(exact (hq2).rd;rintro e v3 ⟨⟨s3,hs3,rfl⟩,hd3⟩;have hq3:Drawn rb n w v3:=(hq2).trans hd3;have k1:¬9223372036854775807<s1.size+1+tt.size+1+s3.size:=(by omega);have hcl3:=((hd3.only.cell (J7 hcl) (by first|(obtain ⟨p,hp⟩:=hq1.rd;have:=hp.lt;omega)|(obtain ⟨p,hp⟩:=hq2.rd;have:=hp.lt;omega)|(obtain ⟨p,hp⟩:=HD2.out.rd;have:=hp.lt;omega))).trans hcl);refine ⟨_,rfl, ?_⟩)|(exact (hq2.next ((Below.refl _ _).alloc (Nat.le_refl _) _)).rd;rintro e v3 ⟨⟨s3,hs3,rfl⟩,hd3⟩;have hq3:Drawn rb n w v3:=(hq2.next ((Below.refl _ _).alloc (Nat.le_refl _) _)).trans hd3;have k1:¬9223372036854775807<s1.size+1+tt.size+1+s3.size:=(by omega);have hcb:=Ka (w:=v2) (T:=9) htt;have hcl3:=((hd3.only.cell (J7 hcb) (by first|(obtain ⟨p,hp⟩:=hq1.rd;have:=hp.lt;omega)|(obtain ⟨p,hp⟩:=hq2.rd;have:=hp.lt;omega)|(obtain ⟨p,hp⟩:=HD2.out.rd;have:=hp.lt;omega))).trans hcb);refine ⟨_,rfl, ?_⟩)|(exact (hq2).rd;rintro e v3 ⟨⟨s3,hs3,rfl⟩,hd3⟩;have hq3:Drawn rb n w v3:=(hq2).trans hd3;have k1:¬9223372036854775807<s1.size+1+tt.size+1+s3.size:=(by omega);have hcl3:=Ka (w:=v3) (T:=9) htt;refine ⟨_,rfl, ?_⟩))
    |(refine Vp (by rfl) 41 _ _ _ _ (by rfl) (.pointer (some ⟨rb,0,none⟩)) (.int .i64 4) (by rfl) (by rfl) (Xfo _ _) (Zp rb n 4 _ ?_ (by omega) (by omega)) ?_;first|(exact (hq1).rd;rintro e v2 ⟨⟨y,hy,rfl⟩,hd2⟩;have hq2:Drawn rb n w v2:=(hq1).trans hd2;obtain ⟨tt,htt,hsz⟩:=V0 hones hy;have hyi:(y:Int)<4:=(by omega);have hyn:(y:Int).toNat=y:=(by omega);have j1:¬9223372036854775807<s1.size+1+tt.size:=(by omega);have j2:¬9223372036854775807<s1.size+1+tt.size+1:=(by omega);have hca:=hcl0 y tt htt;have hcl:=((hd2.only.cell (J7 hca) (by obtain ⟨p,hp⟩:=HDX.out.rd;have:=hp.lt;omega)).trans hca);refine ⟨_,rfl, ?_⟩)|(exact (hq1.next ((Below.refl _ _).alloc (Nat.le_refl _) _)).rd;rintro e v2 ⟨⟨y,hy,rfl⟩,hd2⟩;have hq2:Drawn rb n w v2:=(hq1.next ((Below.refl _ _).alloc (Nat.le_refl _) _)).trans hd2;obtain ⟨tt,htt,hsz⟩:=V0 hones hy;have hyi:(y:Int)<4:=(by omega);have hyn:(y:Int).toNat=y:=(by omega);have j1:¬9223372036854775807<s1.size+1+tt.size:=(by omega);have j2:¬9223372036854775807<s1.size+1+tt.size+1:=(by omega);have hcb:=Ka (w:=v1) (T:=9) htt;have hcl:=((hd2.only.cell (J7 hcb) (by first|(obtain ⟨p,hp⟩:=hq1.rd;have:=hp.lt;omega)|(obtain ⟨p,hp⟩:=hq2.rd;have:=hp.lt;omega)|(obtain ⟨p,hp⟩:=HD2.out.rd;have:=hp.lt;omega))).trans hcb);refine ⟨_,rfl, ?_⟩)|(exact (hq1).rd;rintro e v2 ⟨⟨y,hy,rfl⟩,hd2⟩;have hq2:Drawn rb n w v2:=(hq1).trans hd2;obtain ⟨tt,htt,hsz⟩:=V0 hones hy;have hyi:(y:Int)<4:=(by omega);have hyn:(y:Int).toNat=y:=(by omega);have j1:¬9223372036854775807<s1.size+1+tt.size:=(by omega);have j2:¬9223372036854775807<s1.size+1+tt.size+1:=(by omega);have hcw:=Ka (w:=v2) (T:=9) htt;refine ⟨_,rfl, ?_⟩))
    |(refine Vp (by rfl) 39 _ _ _ _ (by rfl) (.pointer (some ⟨rb,0,none⟩)) (.int .i64 0) (by rfl) (by rfl) (U0 _ _) (HFA.out _ ?_) ?_;first|(exact (HD2.out.next (Below.refl _ _).drew).rd;rintro e v1 ⟨⟨s1,hs1,rfl⟩,hd1⟩;have hq1:Drawn rb n w v1:=(HD2.out.next (Below.refl _ _).drew).trans hd1;have g1:¬9223372036854775807<s1.size+1:=(by omega);skip;refine ⟨_,rfl, ?_⟩)|(exact (HD2.out.next ((Below.refl _ _).drew.alloc (by simp) _)).rd;rintro e v1 ⟨⟨s1,hs1,rfl⟩,hd1⟩;have hq1:Drawn rb n w v1:=(HD2.out.next ((Below.refl _ _).drew.alloc (by simp) _)).trans hd1;have g1:¬9223372036854775807<s1.size+1:=(by omega);have hcl0:∀(y:Nat) (s:ByteArray),(#[Value.string ⟨#[61,61]⟩,Value.string ⟨#[33,61]⟩,Value.string ⟨#[60]⟩,Value.string ⟨#[60,61]⟩]:Array Value)[y]? =some (.string s)→v1.cell? ⟨w2.heap.size,y,none⟩=some (.string s):=(fun y s h=>by have hcb:((w2.drew).alloc (.cells #[Value.string ⟨#[61,61]⟩,Value.string ⟨#[33,61]⟩,Value.string ⟨#[60]⟩,Value.string ⟨#[60,61]⟩] 9)).cell? ⟨w2.heap.size,y,none⟩=some (.string s):=Ka h;exact ((hd1.only.cell (J7 hcb) (by obtain ⟨p,hp⟩:=HD2.out.rd;have:=hp.lt;omega)).trans hcb));have HDX:=HD2;refine ⟨_,rfl, ?_⟩))
    |(trace_state;fail))
  all_goals
   go_wp2_with fail
   go_ret
   first|exact ⟨⟨_,by first|(simp only[ByteArray.size_append,Z7,Z8,Z9,Qa,Qb,Qc,Qd,Qe,Qf,Qg,Y3,Y4,Y5,Y6,Y7,Y8,Y9,Za,Zb,Zc,Zd,Ze,Zf,Zg];omega)|omega,rfl⟩,hq3⟩|exact ⟨⟨_,by first|(simp only[ByteArray.size_append,Z7,Z8,Z9,Qa,Qb,Qc,Qd,Qe,Qf,Qg,Y3,Y4,Y5,Y6,Y7,Y8,Y9,Za,Zb,Zc,Zd,Ze,Zf,Zg];omega)|omega,rfl⟩,hq3.next ((Below.refl _ _).alloc (Nat.le_refl _) _)⟩
 by_cases e20:x=20
 ·subst e20
  have HC29:=Xb (HR.out w2 HD2.out.rd)
  go_wp2_with fail
  refine HC29.out.mono ?_
  rintro e w129 ⟨⟨s1,zs1,rfl⟩,hd⟩
  have HD129:=Xb (HD2.out.trans hd)
  clear hd
  have HC30:=Xb (H0.out w129 HD129.out.rd)
  go_wp2_with fail
  refine HC30.out.mono ?_
  rintro e w130 ⟨⟨s2,zs2,rfl⟩,hd⟩
  have HD130:=Xb (HD129.out.trans hd)
  clear hd
  go_wp2_with fail
  go_ret
  exact ⟨⟨_,by first|(simp only[ByteArray.size_append,Z7,Z8,Z9,Qa,Qb,Qc,Qd,Qe,Qf,Qg,Y3,Y4,Y5,Y6,Y7,Y8,Y9,Za,Zb,Zc,Zd,Ze,Zf,Zg];omega)|omega,rfl⟩,HD130.out⟩
 by_cases e21:x=21
 ·subst e21
  have HC31:=Xb (HR.out w2 HD2.out.rd)
  go_wp2_with fail
  refine HC31.out.mono ?_
  rintro e w131 ⟨⟨s1,zs1,rfl⟩,hd⟩
  have HD131:=Xb (HD2.out.trans hd)
  clear hd
  have HC32:=Xb (H0.out w131 HD131.out.rd)
  go_wp2_with fail
  refine HC32.out.mono ?_
  rintro e w132 ⟨⟨s2,zs2,rfl⟩,hd⟩
  have HD132:=Xb (HD131.out.trans hd)
  clear hd
  have HC33:=Xb (HR.out w132 HD132.out.rd)
  go_wp2_with fail
  refine HC33.out.mono ?_
  rintro e w133 ⟨⟨s3,zs3,rfl⟩,hd⟩
  have HD133:=Xb (HD132.out.trans hd)
  clear hd
  go_wp2_with fail
  go_ret
  exact ⟨⟨_,by first|(simp only[ByteArray.size_append,Z7,Z8,Z9,Qa,Qb,Qc,Qd,Qe,Qf,Qg,Y3,Y4,Y5,Y6,Y7,Y8,Y9,Za,Zb,Zc,Zd,Ze,Zf,Zg];omega)|omega,rfl⟩,HD133.out⟩
 by_cases e22:x=22
 ·subst e22
  have HC34:=Xb (HR.out w2 HD2.out.rd)
  go_wp2_with fail
  refine HC34.out.mono ?_
  rintro e w134 ⟨⟨s1,zs1,rfl⟩,hd⟩
  have HD134:=Xb (HD2.out.trans hd)
  clear hd
  go_wp2_with fail
  go_ret
  exact ⟨⟨_,by first|(simp only[ByteArray.size_append,Z7,Z8,Z9,Qa,Qb,Qc,Qd,Qe,Qf,Qg,Y3,Y4,Y5,Y6,Y7,Y8,Y9,Za,Zb,Zc,Zd,Ze,Zf,Zg];omega)|omega,rfl⟩,HD134.out⟩
 by_cases e23:x=23
 ·subst e23
  have HC35:=Xb (H0.out w2 HD2.out.rd)
  go_wp2_with fail
  refine HC35.out.mono ?_
  rintro e w135 ⟨⟨s1,zs1,rfl⟩,hd⟩
  have HD135:=Xb (HD2.out.trans hd)
  clear hd
  go_wp2_with fail
  go_ret
  exact ⟨⟨_,by first|(simp only[ByteArray.size_append,Z7,Z8,Z9,Qa,Qb,Qc,Qd,Qe,Qf,Qg,Y3,Y4,Y5,Y6,Y7,Y8,Y9,Za,Zb,Zc,Zd,Ze,Zf,Zg];omega)|omega,rfl⟩,HD135.out⟩
 omega
end

theorem Xnu {rb n:Nat}:Xe1 rb n 3 2000:=by
 intro w h
 refine (Xcl (D:=3) (B:=880) (by omega) (by omega) Xal (Xcl (D:=2) (B:=340) (by omega) (by omega) Xal (Xcl (D:=1) (B:=70) (by omega) (by omega) Xal Xal)) w h).mono ?_
 rintro e w' ⟨⟨s,h1,h2⟩,h3⟩
 exact ⟨⟨s,by omega,h2⟩,h3⟩
end Go.Proofs.YtehihemfepbmfaaGreatDoor
