import Derived.Test.YtdjddneidbddpaaGreatDoorIPlsT
import Derived.Test.YtdjddneidbddpaaGreatDoorSeQ
import Derived.Test.YtdjddneidbddpaaGreatDoorStepI
import Derived.Test.YtdjddneidbddpaaGreatDoorSSort
import Derived.Test.YtdjddneidbddpaaGreatDoorEqSS
import Derived.WalkKit
import Derived.LaidEql
import Derived.Stop.Asserts
import Derived.RowKitTokens
import Derived.Test.YtdjddneidbddpaaGreatDoorIMrg
import Derived.Test.YtdjddneidbddpaaGreatDoorIMinA
import Derived.Test.YtdjddneidbddpaaGreatDoorStbN
import Derived.Deep.RegionWith
namespace Go.Proofs.YtdjddneidbddpaaGreatDoor
set_option linter.unusedSectionVars false
set_option maxRecDepth 100000
set_option maxHeartbeats 6400000
open Go.RowKit
set_option linter.unusedSimpArgs false
set_option linter.unusedVariables false
def ItemsRep (w:World) (it:Value) (l:List (List VN)):Prop:=
 l.length<=100000/\∃a c,it= .slice a l.length c/\(0<l.length->∃b,a=some ⟨b,0,none⟩/\∀j,j<l.length->∃t x,w.cell? ⟨b,j,none⟩=some (.iface t x)/\Rep w (Xn l j) (.iface t x))
theorem ItemsRep.reads {w w':World} {it:Value} {l:List (List VN)} (h:ItemsRep w it l) (hr:Reads2 w w'):ItemsRep w' it l:=by
 obtain ⟨d,a,c,e,f⟩:=h
 refine ⟨d,a,c,e,fun hp=> ?_⟩
 obtain ⟨b,g,o⟩:=f hp
 refine ⟨b,g,fun j hlt=> ?_⟩
 obtain ⟨t,x,p,q⟩:=o j hlt
 exact ⟨t,x,hr.ifc _ _ _ _ p,q.reads hr⟩
theorem Xux {l:List (List VN)} {k:Nat} (h:k<l.length):l.drop k=Xn l k::l.drop (k+1):=by
 rw[List.drop_eq_getElem_cons h]
 congr 1
 unfold Xn
 rw[List.getD_eq_getElem?_getD,List.getElem?_eq_getElem h]
 rfl
theorem Xpa (h:X6) {l:List (List VN)} {k:Nat} (hk:k<l.length) (st:Xs):Xq h (l.drop k) st=if (h (Xn l k) st).1=0 then Xq h (l.drop (k+1)) (h (Xn l k) st).2 else h (Xn l k) st:=by
 rw[Xux hk,Xq]
theorem Xrl (h:X6) (l:List (List VN)) (st:Xs):Xq h (l.drop l.length) st=(0,st):=by
 rw[List.drop_length];rfl
theorem Xuy {P:Program} {w:World} {ops:Array Oper} {o:Oper} {a:Act} {K:Act->World->Prop} {Q:Exit->Act->World->Prop} {E:Prop} (hgd:o.guard=none) (F:FuncId) (caps:Array Value) (fx x:Operand) (T:TypeId)
  (ho:o.op= .call {callee:= .value fx,args:= #[x],argTypes:= #[T]}) (v:Value) (hf:a.eval fx= .func (.func F) #[] caps) (hx:a.eval x=v) (hcf:∀w,(callFunc F (#[v]++caps)).run P w= .ok (.enter F (#[v]++caps)) w) {R:Ending->World->Prop} (hc:Calls P F (#[v]++caps) w R)
  (h:∀e w',R e w'->∃u,e= .returned u/\K (a.put o.dst u) w'):
  if Region.wanted o (yielded ops a.tmps)=true then Oper.wp P o a w K Q else E:=by
 have b:Region.wanted o (yielded ops a.tmps)=true:=by simp[Region.wanted,hgd]
 rw[if_pos b]
 unfold Oper.wp execOp
 simp[ho,resolve,invoke,hx,hf,Deferred.ofValue,hcf,Result.andThen,Oper.upon_enter]
 refine hc.mono fun e w' hr=> ?_
 obtain ⟨u,rfl,c⟩:=h e w' hr
 exact c
theorem Xx8 {c:Int} (u v H:Value) (w:World) (hc:c≠0) (hu:u= .nilIface\/∃t x,u= .iface t x) (hv:J6 w c v):
  Calls Tryz.prog 120 #[u,v,H] w fun e w'=>e= .returned v/\w'=w:=by
 obtain ⟨d,f,rfl,b⟩:=hv
 clear b
 rcases hu with rfl|⟨t,x,rfl⟩
 all_goals
  go_enter Tryz.func120,Tryz.ntmps120
  go_wp2_with fail
  go_ret
  exact ⟨rfl,rfl⟩
theorem Xuz {B Z E O D:Nat} {fv:Value} {fs:List FN} {H:FuncId} {caps:Array Value} {h:X6} {w:World} {st:Xs} {ns:List VN} {x:Value} (hh:HandOk B Z E O D fv fs w H caps h) (hst:St B Z E O fv fs st w) (hx:Rep w ns x) (hD:st.1<=D):
  Calls Tryz.prog 120 #[x, .nilIface, .func (.func H) #[] caps] w (Y6 B Z E O fv fs (h ns st) w):=by
 have j:=Xa hh
 have c:=Xa hst
 have o:=Xa hx
 obtain ⟨t,y,rfl⟩:=hx.iface
 obtain ⟨R,d⟩:∃R,h ns st=R:=⟨_,rfl⟩
 have p:=Xa d
 rw[d]
 clear hh hst hx d
 go_enter Tryz.func120,Tryz.ntmps120
 go_wp2_with fail
 rw[j.out.enter,Oper.upon_enter]
 refine (j.out.says w (FrH.refl _ _ _ _) st _ ns hD c.out o.out).mono ?_
 rintro e z ⟨⟨v,rfl,b⟩,l,f⟩
 rw[p.out] at b f
 have g:=Xa b
 have q:=Xa l
 have s:=Xa f
 clear b l f
 go_wp2_with fail
 go_ret
 exact ⟨⟨_,rfl,g.out⟩,q.out,s.out⟩
theorem Gt {B Z E O D:Nat} {fv:Value} {fs:List FN} {H:FuncId} {caps:Array Value} {h:X6} {w:World} {st:Xs} {l:List (List VN)} {it:Value} (hh:HandOk B Z E O D fv fs w H caps h) (hst:St B Z E O fv fs st w) (hit:ItemsRep w it l) (hD:st.1<=D):
  Calls Tryz.prog 141 #[it, .func (.func H) #[] caps] w (Y6 B Z E O fv fs (Xq h l st) w):=by
 have HH:=Xa hh
 have C:=Xa hst
 have bd:=Xa hit
 obtain ⟨h0,a,c,rfl,hx⟩:=hit
 have F:=Xa hx
 obtain ⟨R,hR⟩:∃R,Xq h l st=R:=⟨_,rfl⟩
 have HR:Hid (Xq h (l.drop 0) st=R):=by rw[Hid,List.drop_zero];exact hR
 have o:=Xa (Xrl h l)
 have d:Hid (∀k,k<l.length->∀st,Xq h (l.drop k) st=if (h (Xn l k) st).1=0 then Xq h (l.drop (k+1)) (h (Xn l k) st).2 else h (Xn l k) st):=fun k hk st=>Xpa h hk st
 rw[hR]
 obtain ⟨M,hM⟩:∃M,l.length=M:=⟨_,rfl⟩
 rw[hM] at o d F h0|-
 have HM:=Xa hM
 clear hh hst hx hR hM
 go_enter Tryz.func141,Tryz.ntmps141
 go_wp2_with fail
 go_loopw [6,7,10] (fun _ _ i wr=>∃(k:Nat) (j:Xs),k<=M/\i= .int .i64 k/\Hid (j.1<=D)/\Xq h (l.drop k) j=R/\FrH Z E O w wr/\St B Z E O fv fs j wr) (fun _ _ i _=>M-(intOf i).toNat)
 case atStart=>exact ⟨0,st,Nat.zero_le _,rfl,hD,HR.out,FrH.refl _ _ _ _,C.out⟩
 case round=>
  obtain ⟨k,j,hk,rfl,J,L,hf,hs⟩:=hrel
  have p:=Xa L
  have Y:=Xa hf
  have HS:=Xa hs
  clear L hf hs
  by_cases hlt:k<M
  ·have bc:(k:Int)<(M:Int):=by omega
   obtain ⟨b,rfl,hj⟩:=F.out (by omega)
   obtain ⟨t,x,hc,f⟩:=hj k hlt
   have q:=C.out.reads Y.out
   have be:=q.ifc _ _ _ _ hc
   have P:=Xa (f.reads q)
   have g:=Xa (d.out k hlt j)
   have s:=HH.out.le (Xn l k) j f.1
   clear hj hc f q
   obtain ⟨G,hG⟩:∃G,h (Xn l k) j=G:=⟨_,rfl⟩
   have HG:=Xa hG
   rw[hG] at g s
   have ba:Hid (G.2.1<=D):=Nat.le_trans s J.out
   clear hG s
   go_wp2_with fail
   rw[HH.out.enter,Oper.upon_enter]
   refine (HH.out.says _ Y.out j _ _ J.out HS.out P.out).mono ?_
   rintro e w1 ⟨⟨v,rfl,S⟩,T,y⟩
   rw[HG.out] at S y
   have V:=Xa (Y.out.trans T)
   have X:=Xa y
   clear T y
   rcases S with ⟨h1,rfl⟩|⟨h1,te,xe,rfl,hr⟩
   ·have z:Hid (Xq h (l.drop (k+1)) G.2=R):=by rw[Hid,<-p.out,g.out,if_pos h1]
    clear h1
    go_wp2_with fail
    go_roundw
    case rel=>exact ⟨k+1,G.2,by omega,by go_num,ba,z.out,V.out,X.out⟩
    case measure=>simp[intOf];omega
   ·have z:Hid (G=R):=by rw[Hid,<-p.out,g.out,if_neg h1]
    have bb:=Xa hr
    have H1:=Xa h1
    clear hr h1
    go_wp2_with fail
    go_ret
    exact ⟨⟨_,rfl, .inr (by rw[<-z.out];exact ⟨H1.out,te,xe,rfl,bb.out⟩)⟩,V.out,by rw[<-z.out];exact X.out⟩
  ·obtain rfl:k=M:=by omega
   have z:Hid (R=(0,j)):=by rw[Hid,<-p.out];exact o.out j
   go_wp2_with fail
   go_ret
   exact ⟨⟨_,rfl, .inl ⟨by rw[z.out],rfl⟩⟩,Y.out,by rw[z.out];exact HS.out⟩
def Xiw (B E:Nat) (fv:Value) (fs:List FN) (r:OcR) (w:World) (e:Ending) (w':World):Prop:=
 ∃it ev,e= .returned (.tuple #[it,ev])/\((r.c=0/\ev= .nilIface/\ItemsRep w' it r.l)\/(r.c≠0/\it= .slice none 0 0/\J6 w' r.c ev))/\ButE E w w'/\EvB B E fv fs r.fu w'
def Jb (B E:Nat) (fv:Value) (fs:List FN) (d:Nat):Prop:=∀(n:Nat) (v:Value) (ns:List VN) (fu:Nat) (w:World),n<fs.length->EvB B E fv fs fu w->Rep w ns v->fu<=d->
 Calls Tryz.prog 29 #[.pointer (some ⟨E,0,none⟩), .int .i64 n,v] w (Xiw B E fv fs (Xh fs d n ns fu) w)
theorem X1m {B Z E O D:Nat} {fv:Value} {fs:List FN} {d:Nat} (ho:Jb B E fv fs d) {H:FuncId} {caps:Array Value} {h:X6} {w:World} {st:Xs} {n:Int} {ns:List VN} {v:Value} (hn:0<=n/\n.toNat<fs.length) (hh:HandOk B Z E O D fv fs w H caps h) (hst:St B Z E O fv fs st w) (hv:Rep w ns v) (hd:st.1<=d) (hD:st.1<=D) (hg:OcGood (Xh fs d)):
  Calls Tryz.prog 110 #[.pointer (some ⟨E,0,none⟩), .int .i64 n,v, .func (.func H) #[] caps] w (Y6 B Z E O fv fs (Xp (Xh fs d) n ns h st) w):=by
 obtain ⟨m,rfl⟩:∃m:Nat,n=(m:Int):=⟨n.toNat,by omega⟩
 rw[Int.toNat_natCast] at hn
 have HO:=Xa ho
 have HH:=Xa hh
 have b:=Xa hst
 have HV:=Xa hv
 have HN:=Xa hn.2
 obtain ⟨ty,y,rfl⟩:=hv.iface
 obtain ⟨r,F⟩:∃r,Xh fs d m ns st.1=r:=⟨_,rfl⟩
 have f:Hid (Xp (Xh fs d) (m:Int) ns h st=if r.c=0 then Xq h r.l (r.fu,st.2) else (r.c,(r.fu,st.2))):=by unfold Hid Xp;rw[Int.toNat_natCast,F]
 have HR:=Xa F
 have J:Hid (r.fu<=D):=by have:=hg.le m ns st.1 hv.1;rw[F] at this;exact Nat.le_trans this hD
 obtain ⟨Q,V⟩:∃Q,Xp (Xh fs d) (m:Int) ns h st=Q:=⟨_,rfl⟩
 rw[V] at f|-
 clear ho hh hst hv F hn V hg hD
 go_enter Tryz.func110,Tryz.ntmps110
 go_wp2_with fail
 refine (HO.out m _ ns st.1 w HN.out b.out.ev HV.out hd).mono ?_
 rw[HR.out]
 rintro e w1 ⟨it,ev,rfl,j,G,X⟩
 have HB:=Xa G
 have o:=Xa (b.out.step G X)
 have g:Hid (FrH Z E O w w1):=G.frh b.out.hZ
 clear G X
 rcases j with ⟨h1,rfl,hit⟩|⟨h1,rfl,te,xe,rfl,hrs⟩
 ·have L:=Xa hit
  obtain ⟨_,a,c,rfl,_⟩:=hit
  obtain ⟨M,Y⟩:∃M,r.l.length=M:=⟨_,rfl⟩
  have HL:=Xa h1
  have p:Hid (Xq h r.l (r.fu,st.2)=Q):=by rw[Hid,f.out,if_pos h1]
  have P:=Xa (Gt (HH.out.on g.out) o.out L.out J.out)
  rw[p.out] at P
  rw[Y] at P|-
  clear h1 Y
  go_wp2_with fail
  refine P.out.mono ?_
  rintro e w2 ⟨⟨v2,rfl,q⟩,s,t⟩
  have R:=Xa (g.out.trans s)
  have S:=Xa t
  have T:=Xa q
  clear s t q
  go_wp2_with fail
  go_ret
  exact ⟨⟨_,rfl,T.out⟩,R.out,S.out⟩
 ·have p:Hid (Q=(r.c,(r.fu,st.2))):=by rw[Hid,f.out,if_neg h1]
  have H1:=Xa h1
  have z:=Xa hrs
  clear h1 hrs
  obtain ⟨C,hC⟩:∃C,r.c=C:=⟨_,rfl⟩
  rw[hC] at H1 z p|-
  clear hC
  go_wp2_with fail
  go_ret
  exact ⟨⟨_,rfl, .inr (by rw[p.out];exact ⟨H1.out,te,xe,rfl,z.out⟩)⟩,g.out,by rw[p.out];exact o.out⟩


theorem Xbv (x:Value) (w:World):(Instr.typeAssert (.iface 160 x) 52 160 true).run Tryz.prog w= .ok (.tuple #[x, .bool true]) w:=by kernel_rfl
theorem Xbw (x:Value) (w:World):(Instr.typeAssert (.iface 113 x) 52 160 true).run Tryz.prog w= .ok (.tuple #[.agg #[], .bool false]) w:=by kernel_rfl
theorem Xcn (x:Value) (w:World):(Instr.typeAssert (.iface 114 x) 52 160 true).run Tryz.prog w= .ok (.tuple #[.agg #[], .bool false]) w:=by kernel_rfl
theorem Xbx (x:Value) (w:World):(Instr.typeAssert (.iface 116 x) 52 160 true).run Tryz.prog w= .ok (.tuple #[.agg #[], .bool false]) w:=by kernel_rfl
theorem Xby (x:Value) (w:World):(Instr.typeAssert (.iface 158 x) 52 160 true).run Tryz.prog w= .ok (.tuple #[.agg #[], .bool false]) w:=by kernel_rfl
theorem Xco (x:Value) (w:World):(Instr.typeAssert (.iface 118 x) 52 160 true).run Tryz.prog w= .ok (.tuple #[.agg #[], .bool false]) w:=by kernel_rfl
theorem X4u (x:Value) (w:World):(Instr.typeAssert (.iface 160 x) 52 113 true).run Tryz.prog w= .ok (.tuple #[.agg #[.int .i64 0], .bool false]) w:=by kernel_rfl
theorem Xqb (x:Value) (w:World):(Instr.typeAssert (.iface 113 x) 52 113 true).run Tryz.prog w= .ok (.tuple #[x, .bool true]) w:=by kernel_rfl
theorem Xrw (x:Value) (w:World):(Instr.typeAssert (.iface 114 x) 52 113 true).run Tryz.prog w= .ok (.tuple #[.agg #[.int .i64 0], .bool false]) w:=by kernel_rfl
theorem Xqc (x:Value) (w:World):(Instr.typeAssert (.iface 116 x) 52 113 true).run Tryz.prog w= .ok (.tuple #[.agg #[.int .i64 0], .bool false]) w:=by kernel_rfl
theorem Xqd (x:Value) (w:World):(Instr.typeAssert (.iface 158 x) 52 113 true).run Tryz.prog w= .ok (.tuple #[.agg #[.int .i64 0], .bool false]) w:=by kernel_rfl
theorem Xrx (x:Value) (w:World):(Instr.typeAssert (.iface 118 x) 52 113 true).run Tryz.prog w= .ok (.tuple #[.agg #[.int .i64 0], .bool false]) w:=by kernel_rfl
theorem Xfu (x:Value) (w:World):(Instr.typeAssert (.iface 160 x) 52 158 true).run Tryz.prog w= .ok (.tuple #[.agg #[.slice none 0 0], .bool false]) w:=by kernel_rfl
theorem Xfv (x:Value) (w:World):(Instr.typeAssert (.iface 113 x) 52 158 true).run Tryz.prog w= .ok (.tuple #[.agg #[.slice none 0 0], .bool false]) w:=by kernel_rfl
theorem Xgy (x:Value) (w:World):(Instr.typeAssert (.iface 114 x) 52 158 true).run Tryz.prog w= .ok (.tuple #[.agg #[.slice none 0 0], .bool false]) w:=by kernel_rfl
theorem Xfw (x:Value) (w:World):(Instr.typeAssert (.iface 116 x) 52 158 true).run Tryz.prog w= .ok (.tuple #[.agg #[.slice none 0 0], .bool false]) w:=by kernel_rfl
theorem Xfx (x:Value) (w:World):(Instr.typeAssert (.iface 158 x) 52 158 true).run Tryz.prog w= .ok (.tuple #[x, .bool true]) w:=by kernel_rfl
theorem Xgz (x:Value) (w:World):(Instr.typeAssert (.iface 118 x) 52 158 true).run Tryz.prog w= .ok (.tuple #[.agg #[.slice none 0 0], .bool false]) w:=by kernel_rfl
theorem Xry (x:Value) (w:World):(Instr.typeAssert (.iface 160 x) 52 118 true).run Tryz.prog w= .ok (.tuple #[.agg #[.slice none 0 0, .slice none 0 0], .bool false]) w:=by kernel_rfl
theorem Xg0 (x:Value) (w:World):(Instr.typeAssert (.iface 113 x) 52 118 true).run Tryz.prog w= .ok (.tuple #[.agg #[.slice none 0 0, .slice none 0 0], .bool false]) w:=by kernel_rfl
theorem Xjb (x:Value) (w:World):(Instr.typeAssert (.iface 114 x) 52 118 true).run Tryz.prog w= .ok (.tuple #[.agg #[.slice none 0 0, .slice none 0 0], .bool false]) w:=by kernel_rfl
theorem Xg1 (x:Value) (w:World):(Instr.typeAssert (.iface 116 x) 52 118 true).run Tryz.prog w= .ok (.tuple #[.agg #[.slice none 0 0, .slice none 0 0], .bool false]) w:=by kernel_rfl
theorem Xrz (x:Value) (w:World):(Instr.typeAssert (.iface 158 x) 52 118 true).run Tryz.prog w= .ok (.tuple #[.agg #[.slice none 0 0, .slice none 0 0], .bool false]) w:=by kernel_rfl
theorem Xjc (x:Value) (w:World):(Instr.typeAssert (.iface 118 x) 52 118 true).run Tryz.prog w= .ok (.tuple #[x, .bool true]) w:=by kernel_rfl
theorem Rep.cases {w:World} {ns:List VN} {x:Value} (h:Rep w ns x):
  ((Xd ns).kind=1/\x= .iface 160 (.agg #[]))\/((Xd ns).kind=2/\x= .iface 113 (.agg #[.int .i64 (Xd ns).n]))\/((Xd ns).kind=3/\x= .iface 114 (.agg #[.int .i64 (Xd ns).n]))\/((Xd ns).kind=4/\x= .iface 116 (.agg #[.string (Xd ns).s]))\/
  ((Xd ns).kind=5/\∃it,x= .iface 158 (.agg #[it])/\ItemsRep w it (Yn ns))\/((Xd ns).kind=6/\∃ks it,x= .iface 118 (.agg #[ks,it])/\StrsAt w.heap.size w ks (Xd ns).keys/\ItemsRep w it (Yn ns)):=by
 obtain ⟨o,p⟩:=h
 have f:((Xe ns).map fun k=>Xt ns 79 k.toNat).length=(Xe ns).length:=by simp
 have d:(Yn ns).length=(Xe ns).length:=by simp[Yn]
 have g:∀it,Q8 w.heap.size w it ((Xe ns).map fun k=>Xt ns 79 k.toNat).length (fun j u=>TreeAt w.heap.size w 79 (Yf ((Xe ns).map fun k=>Xt ns 79 k.toNat) j) u)->ItemsRep w it (Yn ns):=by
  rintro it ⟨q,a,c,e,z⟩
  rw[f] at q e z
  refine ⟨by rw[d];exact q,a,c,by rw[d];exact e,fun hp=> ?_⟩
  rw[d] at hp|-
  obtain ⟨b,B,_,C⟩:=z hp
  refine ⟨b,B,fun j hlt=> ?_⟩
  obtain ⟨t,y,D,F⟩:=C j hlt
  refine ⟨t,y,D, ?_⟩
  have l:TreeAt w.heap.size w 79 (Yf ((Xe ns).map fun k=>Xt ns 79 k.toNat) j) (.iface t y):=F
  rw[X22 ns hlt] at l
  have G:Xn (Yn ns) j=PL ns j:=by
   unfold Xn Yn
   rw[List.getD_eq_getElem?_getD,List.getElem?_map,List.getElem?_range hlt]
   rfl
  rw[G]
  exact Rep.of l (X4f o hlt) (Xf6 o hlt)
 rw[Xsf] at p
 rcases p with ⟨k,_,_,_,_,e⟩|⟨k,_,_,_,e⟩|⟨k,_,_,_,e⟩|⟨k,_,_,_,e⟩|⟨k,_,_,_,it,e,hi⟩|⟨k,_,_,ks,it,e,hs,hi⟩
 ·exact .inl ⟨k,e⟩
 ·exact .inr (.inl ⟨k,e⟩)
 ·exact .inr (.inr (.inl ⟨k,e⟩))
 ·exact .inr (.inr (.inr (.inl ⟨k,e⟩)))
 ·exact .inr (.inr (.inr (.inr (.inl ⟨k,it,e,g it hi⟩))))
 ·exact .inr (.inr (.inr (.inr (.inr ⟨k,ks,it,e,hs,g it hi⟩))))
theorem Xbz (k n:Int) (s:ByteArray):Yb 1 (.mk k n s [] []) 0=Xr k n s:=rfl
theorem Xb0 (w:World):Rep w Ja (.iface 160 (.agg #[])):=
 Rep.of (f:=1) (t:= .mk 1 0 ByteArray.empty [] []) (.inl ⟨rfl,rfl,rfl,rfl,rfl,rfl⟩) (Xbz _ _ _) Xba
theorem Xhu (b:Bool) (w:World):Rep w (Q9 b) (.iface 113 (.agg #[.int .i64 (if b=true then 1 else 0)])):=
 Rep.of (f:=1) (t:= .mk 2 (if b=true then 1 else 0) ByteArray.empty [] []) (.inr (.inl ⟨rfl,rfl,rfl,rfl,rfl⟩)) (Xbz _ _ _) (Xf5 b)
theorem Rep.below {w w':World} {ns:List VN} {x:Value} (h:Rep w ns x) (hb:Below w.heap.size w w'):Rep w' ns x:=⟨h.1,TreeAt.keep (B':=w'.heap.size) (fun k hk=>hb.block k hk) hb.size h.2⟩
theorem Xg2 (b:Bool) (w:World):Calls Tryz.prog 158 #[.bool b] w fun e w'=>e= .returned (.iface 113 (.agg #[.int .i64 (if b=true then 1 else 0)]))/\w'=w:=by
 cases b
 all_goals
  go_enter Tryz.func158,Tryz.ntmps158
  go_wp2_with fail
  go_ret
  exact ⟨rfl,rfl⟩
theorem Wc (ns:List VN) (x:Value) (w:World) (h:Rep w ns x):Calls Tryz.prog 146 #[x] w fun e w'=>e= .returned (.bool (Xu ns))/\Below w.heap.size w w':=by
 have d:=Xbv
 have f:=Xbw
 have q:=Xcn
 have g:=Xbx
 have j:=Xby
 have s:=Xco
 have l:=Xqb
 have t:=Xrw
 have o:=Xqc
 have p:=Xqd
 have y:=Xrx
 rcases h.cases with ⟨k,rfl⟩|⟨k,rfl⟩|⟨k,rfl⟩|⟨k,rfl⟩|⟨k,it,rfl,hi⟩|⟨k,ks,it,rfl,hs,hi⟩
 ·have b:Hid (Xu ns=false):=by unfold Hid Xu;simp[k]
  go_enter Tryz.func146,Tryz.ntmps146
  go_wp2_with fail
  go_ret
  exact ⟨Xi b.out.symm,(Below.refl _ _).alloc (Nat.le_refl _) _⟩
 ·have b:Hid (Xu ns=decide ((Xd ns).n=1)):=by unfold Hid Xu;simp[k]
  obtain ⟨N,z⟩:∃N,(Xd ns).n=N:=⟨_,rfl⟩
  rw[z] at b|-
  go_enter Tryz.func146,Tryz.ntmps146
  go_wp2_with fail
  go_ret
  exact ⟨Xi (by rw[b.out];rfl),(Below.refl _ _).alloc (Nat.le_refl _) _⟩
 ·have b:Hid (Xu ns=true):=by unfold Hid Xu;simp[k]
  go_enter Tryz.func146,Tryz.ntmps146
  go_wp2_with fail
  go_ret
  exact ⟨Xi b.out.symm,Below.refl _ _⟩
 ·have b:Hid (Xu ns=true):=by unfold Hid Xu;simp[k]
  go_enter Tryz.func146,Tryz.ntmps146
  go_wp2_with fail
  go_ret
  exact ⟨Xi b.out.symm,Below.refl _ _⟩
 ·have b:Hid (Xu ns=true):=by unfold Hid Xu;simp[k]
  obtain ⟨_,a,c,rfl,_⟩:=hi
  go_enter Tryz.func146,Tryz.ntmps146
  go_wp2_with fail
  go_ret
  exact ⟨Xi b.out.symm,Below.refl _ _⟩
 ·have b:Hid (Xu ns=true):=by unfold Hid Xu;simp[k]
  obtain ⟨_,a,c,rfl,_⟩:=hi
  obtain ⟨_,_,B,C,rfl,_⟩:=hs
  go_enter Tryz.func146,Tryz.ntmps146
  go_wp2_with fail
  go_ret
  exact ⟨Xi b.out.symm,Below.refl _ _⟩
def Jd (r:Int×List VN) (w:World) (e:Ending) (w':World):Prop:=
 ((r.1=0/\∃x,e= .returned (.tuple #[x, .nilIface])/\Rep w' r.2 x)\/(r.1≠0/\∃v,e= .returned (.tuple #[.nilIface,v])/\J6 w' r.1 v))/\Below w.heap.size w w'
theorem Xb1 {w:World} {it:Value} {l:List (List VN)} (h:ItemsRep w it l) {j:Nat} (hj:j<l.length):∃b c t x,it= .slice (some ⟨b,0,none⟩) l.length c/\w.cell? ⟨b,j,none⟩=some (.iface t x)/\Rep w (Xn l j) (.iface t x):=by
 obtain ⟨_,a,c,rfl,d⟩:=h
 obtain ⟨b,rfl,f⟩:=d (by omega)
 obtain ⟨t,x,g,o⟩:=f j hj
 exact ⟨b,c,t,x,rfl,g,o⟩
theorem Qm (ns:List VN):(Yn ns).length=(Xe ns).length:=by simp[Yn]
theorem Xhv (ns:List VN) {j:Nat} (h:j<(Xe ns).length):Xn (Yn ns) j=PL ns j:=by
 unfold Xn Yn
 rw[List.getD_eq_getElem?_getD,List.getElem?_map,List.getElem?_range h]
 rfl
theorem Xy2 (ns:List VN) (x:Value) (key:ByteArray) (w:World) (h:Rep w ns x) (hE:Errs w) (hkey:key.size<=1000000):Calls Tryz.prog 154 #[x, .string key] w (Jd (K8 ns key) w):=by
 have q:=Xbv
 have s:=Xbw
 have F:=Xcn
 have z:=Xbx
 have B:=Xby
 have G:=Xco
 have J:=Xg0
 have X:=Xjb
 have L:=Xg1
 have P:=Xrz
 have Y:=Xjc
 obtain ⟨R,S⟩:∃R,K8 ns key=R:=⟨_,rfl⟩
 have HE:=Xa hE
 have no:∀V,Below w.heap.size w V->∀e,R=(2,[])->∀v,J6 V 2 v->e= .returned (.tuple #[.nilIface,v])->Jd R w e V:=fun V hb e hr v hv he=>by
  subst hr
  exact ⟨.inr ⟨(show (2:Int)≠0 by decide),v,he,hv⟩,hb⟩
 have NO:=Xa no
 rw[S]
 rcases h.cases with ⟨k,rfl⟩|⟨k,rfl⟩|⟨k,rfl⟩|⟨k,rfl⟩|⟨k,it,rfl,hi⟩|⟨k,ks,it,rfl,hs,hi⟩
 case inr.inr.inr.inr.inr=>
  have p:=Xm h.1
  have d:=Y0 h.1 k
  have c:Xhw (Xd ns).keys:=Q7 d.2
  by_cases hk:Yz (Xd ns).keys key=true
  ·have C:=Xju hk
   have g:Hid (R=(0,PL ns (Zz (Xd ns).keys key))):=by rw[Hid,<-S];unfold K8;rw[if_neg (by omega),if_pos k,if_pos hk]
   obtain ⟨b,bh,t,y,rfl,hc,l⟩:=Xb1 hi (j:=Zz (Xd ns).keys key) (by rw[Qm,<-d.1];exact C)
   rw[Xhv ns (by rw[<-d.1];exact C)] at l
   have bf:=Xa l
   have T:Zz (Xd ns).keys key<(Yn ns).length:=by rw[Qm,<-d.1];exact C
   obtain ⟨M,D⟩:∃M,(Yn ns).length=M:=⟨_,rfl⟩
   rw[D] at T|-
   have bi:M<=1000:=by
    have:=Ju h.1
    have h2:(Xe ns).length<=80:=by have:=p.2.2.2 (ns.length-1) (by omega);unfold Xe;omega
    rw[Qm] at D
    omega
   obtain ⟨Q,hQ⟩:∃Q,Zz (Xd ns).keys key=Q:=⟨_,rfl⟩
   have HS:=Xa hs
   have Z:=Xa c
   have ba:=Xa hk
   have bb:=Xa hQ
   have o:(Xd ns).keys.length<=1048576:=by rw[d.1];rw[Qm] at D;omega
   have bc:=Xa o
   rw[hQ] at T hc
   have bj:=X7 hc
   obtain ⟨_,_,a',c',rfl,_⟩:=hs
   have f:Hid (Below w.heap.size w (w.alloc (.cells #[.slice a' (Xd ns).keys.length c', .slice (some ⟨b,0,none⟩) M bh] 118))):=(Below.refl _ _).alloc (Nat.le_refl _) _
   clear h k hi p d c hk C l D o S hQ
   go_enter Tryz.func154,Tryz.ntmps154
   go_wp2_with fail
   refine (Xdw w.heap.size _ (Xd ns).keys key _ (HS.out.below f.out) Z.out bc.out).mono ?_
   rintro e V ⟨rfl,rfl⟩
   rw[ba.out,bb.out]
   go_wp2_with fail
   go_ret2
   exact ⟨.inl ⟨by rw[g.out],_,rfl,by rw[g.out];exact bf.out.below f.out⟩,f.out⟩
  ·have g:Hid (R=(0,Ja)):=by rw[Hid,<-S];unfold K8;rw[if_neg (by omega),if_pos k,if_neg hk]
   have bg:Yz (Xd ns).keys key=false:=by simpa using hk
   have o:(Xd ns).keys.length<=1048576:=by
    have h2:(Xe ns).length<=80:=by have:=p.2.2.2 (ns.length-1) (by omega);unfold Xe;omega
    rw[d.1];omega
   obtain ⟨_,ai,ci,rfl,_⟩:=hi
   obtain ⟨M,D⟩:∃M,(Yn ns).length=M:=⟨_,rfl⟩
   rw[D]
   have HS:=Xa hs
   have Z:=Xa c
   have ba:=Xa bg
   have bc:=Xa o
   obtain ⟨_,_,a',c',rfl,_⟩:=hs
   have f:Hid (Below w.heap.size w (w.alloc (.cells #[.slice a' (Xd ns).keys.length c', .slice ai M ci] 118))):=(Below.refl _ _).alloc (Nat.le_refl _) _
   obtain ⟨Q,hQ⟩:∃Q,Zz (Xd ns).keys key=Q:=⟨_,rfl⟩
   have bb:=Xa hQ
   clear h k p d c hk bg D o S hQ
   go_enter Tryz.func154,Tryz.ntmps154
   go_wp2_with fail
   refine (Xdw w.heap.size _ (Xd ns).keys key _ (HS.out.below f.out) Z.out bc.out).mono ?_
   rintro e V ⟨rfl,rfl⟩
   rw[ba.out,bb.out]
   go_wp2_with fail
   go_ret2
   exact ⟨.inl ⟨by rw[g.out],_,rfl,by rw[g.out];exact Xb0 _⟩,f.out⟩
 case inl=>
  have g:Hid (R=(0,Ja)):=by rw[Hid,<-S];unfold K8;rw[if_pos k]
  go_enter Tryz.func154,Tryz.ntmps154
  go_wp2_with fail
  go_ret2
  exact ⟨.inl ⟨by rw[g.out],_,rfl,by rw[g.out];exact Xb0 _⟩,(Below.refl _ _).alloc (Nat.le_refl _) _⟩
 case inr.inr.inr.inr.inl=>
  have g:Hid (R=(2,[])):=by rw[Hid,<-S];unfold K8;rw[if_neg (by omega),if_neg (by omega)]
  obtain ⟨_,ai,ci,rfl,_⟩:=hi
  obtain ⟨M,D⟩:∃M,(Yn ns).length=M:=⟨_,rfl⟩
  rw[D]
  go_enter Tryz.func154,Tryz.ntmps154
  go_wp2_with fail
  refine (Zx _ HE.out).mono ?_
  rintro e V ⟨⟨v,rfl,te,xe,rfl,bd⟩,rfl⟩
  have be:=Xa bd
  go_wp2_with fail
  go_ret2
  exact NO.out _ (Below.refl _ _) _ g.out _ ⟨te,xe,rfl,be.out⟩ rfl
 all_goals
  have g:Hid (R=(2,[])):=by rw[Hid,<-S];unfold K8;rw[if_neg (by omega),if_neg (by omega)]
  go_enter Tryz.func154,Tryz.ntmps154
  go_wp2_with fail
  refine (Zx _ HE.out).mono ?_
  rintro e V ⟨⟨v,rfl,te,xe,rfl,bd⟩,rfl⟩
  have be:=Xa bd
  go_wp2_with fail
  go_ret2
  exact NO.out _ (Below.refl _ _) _ g.out _ ⟨te,xe,rfl,be.out⟩ rfl


theorem Xq8 (ns:List VN) (x:Value) (p:Int) (w:World) (h:Rep w ns x) (hE:Errs w) (hp1: -1000000<=p) (hp2:p<=1000000):Calls Tryz.prog 155 #[x, .int .i64 p] w (Jd (atR ns p) w):=by
 have F:=Xbv
 have G:=Xbw
 have X:=Xcn
 have J:=Xbx
 have L:=Xby
 have Y:=Xco
 have P:=Xfu
 have S:=Xfv
 have Z:=Xgy
 have T:=Xfw
 have V:=Xfx
 have ba:=Xgz
 obtain ⟨R,q⟩:∃R,atR ns p=R:=⟨_,rfl⟩
 have HE:=Xa hE
 clear hE
 have no:∀w1,Below w.heap.size w w1->∀e,R=(2,[])->∀v,J6 w1 2 v->e= .returned (.tuple #[.nilIface,v])->Jd R w e w1:=fun w1 hb e hr v hv he=>by
  subst hr
  exact ⟨.inr ⟨(show (2:Int)≠0 by decide),v,he,hv⟩,hb⟩
 have NO:=Xa no
 rw[q]
 clear no
 rcases h.cases with ⟨k,rfl⟩|⟨k,rfl⟩|⟨k,rfl⟩|⟨k,rfl⟩|⟨k,it,rfl,hi⟩|⟨k,ks,it,rfl,hs,hi⟩
 case inr.inr.inr.inr.inl=>
  have bg:(Xe ns).length<=80:=by
   have p:=Xm h.1
   have:=p.2.2.2 (ns.length-1) (by omega);unfold Xe;omega
  obtain ⟨M,s⟩:∃M,(Yn ns).length=M:=⟨_,rfl⟩
  have o:(Xe ns).length=M:=by rw[<-s,Qm]
  have bf:(M:Int)<=80:=by omega
  obtain ⟨_,a0,z,rfl,_⟩:=id hi
  have bc:Hid (Below w.heap.size w (w.alloc (.cells #[.slice a0 M z] 158))):=(Below.refl _ _).alloc (Nat.le_refl _) _
  by_cases hneg:p<0
  ·have d:Z8 ns p=p+((Xe ns).length:Int):=by unfold Z8;rw[if_pos hneg]
   by_cases hq:0<=p+((Xe ns).length:Int)
   ·obtain ⟨Q,hQ⟩:∃Q:Nat,p+((Xe ns).length:Int)=(Q:Int):=⟨(p+((Xe ns).length:Int)).toNat,by omega⟩
    have f:Q<(Xe ns).length:=by omega
    have l:Hid (R=(0,PL ns Q)):=by rw[Hid,<-q];unfold atR;rw[if_neg (by omega),if_pos k,d,hQ,if_pos ⟨by omega,by omega⟩,Int.toNat_natCast]
    obtain ⟨b,z,t,y,e,hc,c⟩:=Xb1 hi (j:=Q) (by rw[Qm];exact f)
    injection e with e1 e2 e3
    subst e1 e3
    rw[Xhv ns f] at c
    have B:=Xa c
    have bd:=X7 hc
    have C:Hid (Below w.heap.size w (w.alloc (.cells #[.slice (some ⟨b,0,none⟩) M z] 158))):=(Below.refl _ _).alloc (Nat.le_refl _) _
    have be:Q<M:=by rw[<-s,Qm];exact f
    rw[s]
    rw[o] at hQ hq
    clear h k hi c q d f s o
    have d2:0<=(Q:Int):=by omega
    have d3:(Q:Int)<(M:Int):=by omega
    have d7:(Q:Int)<=80:=by omega
    have d4:p+(M:Int)=(Q:Int):=hQ
    clear hQ
    go_enter Tryz.func155,Tryz.ntmps155
    go_wp2_with fail
    go_ret2
    exact ⟨.inl ⟨by rw[l.out],_,rfl,by rw[l.out];exact B.out.below C.out⟩,C.out⟩
   ·have l:Hid (R=(0,Ja)):=by rw[Hid,<-q];unfold atR;rw[if_neg (by omega),if_pos k,d,if_neg (fun g=>hq g.1)]
    rw[s]
    rw[o] at hq
    have d2:decide (0<=p+(M:Int))=false:=by simpa using hq
    clear h k hi q d s o
    go_enter Tryz.func155,Tryz.ntmps155
    go_wp2_with fail
    go_ret2
    exact ⟨.inl ⟨by rw[l.out],_,rfl,by rw[l.out];exact Xb0 _⟩,bc.out⟩
  ·have d:Z8 ns p=p:=by unfold Z8;rw[if_neg hneg]
   by_cases hq:p<((Xe ns).length:Int)
   ·obtain ⟨Q,hQ⟩:∃Q:Nat,p=(Q:Int):=⟨p.toNat,by omega⟩
    have f:Q<(Xe ns).length:=by omega
    have l:Hid (R=(0,PL ns Q)):=by rw[Hid,<-q];unfold atR;rw[if_neg (by omega),if_pos k,d,hQ,if_pos ⟨by omega,by omega⟩,Int.toNat_natCast]
    obtain ⟨b,z,t,y,e,hc,c⟩:=Xb1 hi (j:=Q) (by rw[Qm];exact f)
    injection e with e1 e2 e3
    subst e1 e3
    rw[Xhv ns f] at c
    have B:=Xa c
    have bd:=X7 hc
    have C:Hid (Below w.heap.size w (w.alloc (.cells #[.slice (some ⟨b,0,none⟩) M z] 158))):=(Below.refl _ _).alloc (Nat.le_refl _) _
    have be:Q<M:=by rw[<-s,Qm];exact f
    rw[s]
    rw[o] at hq
    subst hQ
    clear h k hi c q d f s o
    have d2:0<=(Q:Int):=by omega
    have d3:(Q:Int)<(M:Int):=by omega
    have d7:(Q:Int)<=80:=by omega
    have d5:¬(Q:Int)<0:=by omega
    go_enter Tryz.func155,Tryz.ntmps155
    go_wp2_with fail
    go_ret2
    exact ⟨.inl ⟨by rw[l.out],_,rfl,by rw[l.out];exact B.out.below C.out⟩,C.out⟩
   ·have l:Hid (R=(0,Ja)):=by rw[Hid,<-q];unfold atR;rw[if_neg (by omega),if_pos k,d,if_neg (fun g=>hq g.2)]
    rw[s]
    rw[o] at hq
    have d2:0<=p:=by omega
    have d3:decide (p<(M:Int))=false:=by simpa using hq
    clear h k hi q d s o
    go_enter Tryz.func155,Tryz.ntmps155
    go_wp2_with fail
    go_ret2
    exact ⟨.inl ⟨by rw[l.out],_,rfl,by rw[l.out];exact Xb0 _⟩,bc.out⟩
 case inl=>
  have l:Hid (R=(0,Ja)):=by rw[Hid,<-q];unfold atR;rw[if_pos k]
  clear h k q
  go_enter Tryz.func155,Tryz.ntmps155
  go_wp2_with fail
  go_ret2
  exact ⟨.inl ⟨by rw[l.out],_,rfl,by rw[l.out];exact Xb0 _⟩,(Below.refl _ _).alloc (Nat.le_refl _) _⟩
 case inr.inr.inr.inr.inr=>
  have l:Hid (R=(2,[])):=by rw[Hid,<-q];unfold atR;rw[if_neg (by omega),if_neg (by omega)]
  obtain ⟨_,ai,ci,rfl,_⟩:=hi
  obtain ⟨_,_,a',c',rfl,_⟩:=hs
  obtain ⟨M,s⟩:∃M,(Yn ns).length=M:=⟨_,rfl⟩
  rw[s]
  clear h k q s
  go_enter Tryz.func155,Tryz.ntmps155
  go_wp2_with fail
  refine (Zx _ HE.out).mono ?_
  rintro e w1 ⟨⟨v,rfl,te,xe,rfl,D⟩,rfl⟩
  have bb:=Xa D
  clear D
  go_wp2_with fail
  go_ret2
  exact NO.out _ (Below.refl _ _) _ l.out _ ⟨te,xe,rfl,bb.out⟩ rfl
 all_goals
  have l:Hid (R=(2,[])):=by rw[Hid,<-q];unfold atR;rw[if_neg (by omega),if_neg (by omega)]
  clear h k q
  go_enter Tryz.func155,Tryz.ntmps155
  go_wp2_with fail
  refine (Zx _ HE.out).mono ?_
  rintro e w1 ⟨⟨v,rfl,te,xe,rfl,D⟩,rfl⟩
  have bb:=Xa D
  clear D
  go_wp2_with fail
  go_ret2
  exact NO.out _ (Below.refl _ _) _ l.out _ ⟨te,xe,rfl,bb.out⟩ rfl
theorem Xq9 (ns:List VN) (x:Value) (w:World) (h:Rep w ns x) (hE:Errs w):Calls Tryz.prog 156 #[x] w (Jd (Xas ns,Gx ns) w):=by
 have d:=Xx0 h.1
 have g:=h.2
 rw[Xsf] at g
 refine (Xo5 79 (Xd ns) _ x w g (by simp[Xe,Xd]) hE d.1 d.2).mono ?_
 rintro e q ⟨c,b⟩
 refine ⟨?_,b⟩
 have j:Xas ns=Xij (Zm (Xd ns)):=by unfold Xas;rw[if_pos h.1]
 have l:Gx ns=Xmi (Zm (Xd ns)):=by unfold Gx;rw[if_pos h.1]
 rw[j,l]
 cases hl:Zm (Xd ns) with
 |none=>
  rw[hl] at c
  obtain ⟨v,e,o⟩:=c
  exact .inr ⟨(show (2:Int)≠0 by decide),v,e,o⟩
 |some n=>
  rw[hl] at c
  have p:=Xk5 h.1 hl
  exact .inl ⟨rfl,_,c,Rep.of (f:=1) (t:= .mk 3 n ByteArray.empty [] []) (.inr (.inr (.inl ⟨rfl,rfl,rfl,rfl,rfl⟩))) (Xbz _ _ _) (Xih (by omega) p.2)⟩


def Xnv (B E:Nat) (fv:Value) (fs:List FN) (d:Nat):Prop:=∀(Z O n:Nat) (x:FN) (kc kn ki v:Value) (ns:List VN) (H:FuncId) (caps:Array Value) (h:X6) (st:Xs) (w:World),n<fs.length->Xo fs n=x->FNodeIn B w x kc kn ki->HandOk B Z E O d fv fs w H caps h->St B Z E O fv fs st w->Rep w ns v->st.1<=d->
 Calls Tryz.prog 63 #[.pointer (some ⟨E,0,none⟩), .agg #[.int .i64 x.kind, .string x.name, .int .i64 x.place,kc,kn,ki],v, .func (.func H) #[] caps] w (Y6 B Z E O fv fs (evM (Xh fs d) x ns h st) w)
theorem Xtz {Z E O:Nat} {w:World} {outs:List (List VN)} {sv:Value} {xs:List Value} (h:OutsAt Z E O w outs sv xs):ItemsRep w sv outs:=by
 have b:=h.len
 refine ⟨by have:=h.few;omega, ?_⟩
 rcases h.row with ⟨rfl,rfl⟩|⟨g,cap,rfl,hg,hh,hnc,_⟩
 ·have e:outs.length=0:=by simpa using b.symm
  exact ⟨none,0,by rw[e],fun hp=>absurd hp (by omega)⟩
 ·refine ⟨some ⟨g,0,none⟩,cap,by rw[b],fun hp=>⟨g,rfl,fun j hj=> ?_⟩⟩
  have c:=h.rep j hj
  obtain ⟨t,y,e⟩:=c.iface
  refine ⟨t,y, ?_,by rw[<-e];exact c⟩
  rw[Xw hh,List.getElem?_toArray,List.getElem?_append_left (by omega)]
  rw[List.getD_eq_getElem?_getD,List.getElem?_eq_getElem (show j<xs.length by omega)] at e
  rw[List.getElem?_eq_getElem (show j<xs.length by omega)]
  exact congrArg some e
theorem X0a {B E:Nat} {fv:Value} {fs:List FN} {fu:Nat} {w:World} (h:EvB B E fv fs fu w) (k:Nat):EvB B E fv fs k (w.setCell ⟨E,1,none⟩ (.int .i64 (k:Int)))/\ButE E w (w.setCell ⟨E,1,none⟩ (.int .i64 (k:Int))):=by
 have d:ButE E w (w.setCell ⟨E,1,none⟩ (.int .i64 (k:Int))):=⟨rfl,rfl,rfl,by simp,fun c _ hc=>Below.heap_setCell _ _ _ _ hc⟩
 have f:=h.errs.le
 have b:=d.below h.hBE f
 refine ⟨⟨?_,h.nodes.below b,h.hBE,h.errs.below b⟩,d⟩
 have:=Xb9 (i:=1) h.blk (.int .i64 (k:Int))
 simpa using this
theorem X0b {B E:Nat} {fv:Value} {fs:List FN} {fu k:Nat} {w W1:World} (h:EvB B E fv fs fu w) (he:EvB B E fv fs k W1) (hb:ButE E w W1) (hz:W1.heap.size=w.heap.size):
  St B w.heap.size E w.heap.size fv fs (k,[]) (W1.alloc (.cells #[.slice none 0 0] 58))/\ButE E w (W1.alloc (.cells #[.slice none 0 0] 58)):=by
 have b:Below W1.heap.size W1 (W1.alloc (.cells #[.slice none 0 0] 58)):=(Below.refl _ _).alloc (Nat.le_refl _) _
 refine ⟨⟨he.below b,⟨.slice none 0 0,[], ?_, .inl ⟨rfl,rfl⟩,rfl,fun j hj=>absurd hj (by simp),Nat.le_refl _,by simp⟩,h.lt,by simp;omega⟩,hb.trans (.of_below b)⟩
 rw[<-hz]
 exact heap_alloc_new W1 _
theorem X0c (fs:List FN) (d n:Nat) (ns:List VN):Xh fs d n ns 0=⟨4,[],0⟩:=by
 cases d with
 |zero=>rfl
 |succ d=>rw[Xh,if_pos rfl]
theorem X0d (fs:List FN) (d n k:Nat) (ns:List VN):Xh fs (d+1) n ns (k+1)=if (evM (Xh fs d) (Xo fs n) ns Xl (k,[])).1=0 then ⟨0,(evM (Xh fs d) (Xo fs n) ns Xl (k,[])).2.2,(evM (Xh fs d) (Xo fs n) ns Xl (k,[])).2.1⟩ else ⟨(evM (Xh fs d) (Xo fs n) ns Xl (k,[])).1,[],(evM (Xh fs d) (Xo fs n) ns Xl (k,[])).2.1⟩:=by
 rw[Xh,if_neg (by omega)]
 rfl
theorem X2z {Z E O:Nat} {w W2 w3:World} (h1:ButE E w W2) (h2:FrH w.heap.size E O W2 w3):ButE E w w3:=
 ⟨h2.os.trans h1.os,h2.tape.trans h1.tape,h2.output.trans h1.output,Nat.le_trans h1.size h2.size,fun c hc hn=>(h2.block c hc hn).trans (h1.block c hc hn)⟩
theorem Xea {B E:Nat} {fv:Value} {fs:List FN} (d n:Nat) (v:Value) (ns:List VN) (w:World) (he:EvB B E fv fs 0 w) (hv:Rep w ns v):
  Calls Tryz.prog 29 #[.pointer (some ⟨E,0,none⟩), .int .i64 n,v] w (Xiw B E fv fs (Xh fs d n ns 0) w):=by
 rw[X0c]
 have s:=Xa he
 obtain ⟨z,y,rfl⟩:=hv.iface
 obtain ⟨a,q,c,rfl⟩:=he.nodes.slice
 have c1:w.cell? ⟨E,1,none⟩=some (.int .i64 0):=Xw he.blk 1
 obtain ⟨g,t,C,j,l,o,p⟩:=he.errs.now.fuel
 have f:Hid (Rsn w 4 257 (.pointer (some g))):=⟨g,t,rfl,rfl,j,⟨fun e=>absurd e (by decide),fun e=>absurd e l⟩,o,p⟩
 clear he hv j l o p
 go_enter Tryz.func29,Tryz.ntmps29
 go_wp2_with fail
 go_quiet (fail)
 have b:=Xa (below_drewN (Below.refl w.heap.size w) nq)
 go_wp2_with fail
 go_ret2
 exact ⟨_,_,rfl, .inr ⟨(show (4:Int)≠0 by decide),rfl,_,_,rfl,f.out.below b.out⟩, .of_below b.out,s.out.below b.out⟩
theorem Xl1 {B E:Nat} {fv:Value} {fs:List FN} {d:Nat} (ho:Xnv B E fv fs d) (n:Nat) (v:Value) (ns:List VN) (k:Nat) (w:World) (hn:n<fs.length) (he:EvB B E fv fs (k+1) w) (hv:Rep w ns v) (hk:k<=d) (hd:d<=1000000):
  Calls Tryz.prog 29 #[.pointer (some ⟨E,0,none⟩), .int .i64 n,v] w (Xiw B E fv fs (Xh fs (d+1) n ns (k+1)) w):=by
 obtain ⟨r,V⟩:∃r,evM (Xh fs d) (Xo fs n) ns Xl (k,[])=r:=⟨_,rfl⟩
 obtain ⟨R,Y⟩:∃R,Xh fs (d+1) n ns (k+1)=R:=⟨_,rfl⟩
 have D:Hid (R=if r.1=0 then ⟨0,r.2.2,r.2.1⟩ else ⟨r.1,[],r.2.1⟩):=by rw[Hid,<-Y,X0d,V]
 rw[Y]
 have HR:=Xa V
 have HE:=Xa he
 have HO:=Xa ho
 have HV:=Xa hv
 have HN:=Xa hn
 have HK:=Xa hk
 have bh:=he.lt
 have ba:=he.errs.le
 obtain ⟨ty,y,rfl⟩:=hv.iface
 obtain ⟨bi,a,F,rfl,f⟩:=he.nodes
 obtain ⟨b0,o0,rfl,bb,hc⟩:=f (by omega)
 obtain ⟨kc,kn,ki,g⟩:=hc n hn
 have q0:w.cell? ⟨E,0,none⟩=some (.slice (some ⟨b0,o0,none⟩) fs.length F):=Xw he.blk 0
 have q1:w.cell? ⟨E,1,none⟩=some (.int .i64 ((k+1:Nat):Int)):=Xw he.blk 1
 have q2:w.frozen? ⟨E,1,none⟩=false:=by simp[World.frozen?,he.blk]
 rw[show ((k+1:Nat):Int)=(k:Int)+1 by omega] at q1
 have bj:¬(k:Int)+1=0:=by omega
 have bk:(k:Int)<=1000000:=by omega
 obtain ⟨T,q⟩:∃T,w.setCell ⟨E,1,none⟩ (.int .i64 (k:Int))=T:=⟨_,rfl⟩
 obtain ⟨s,t⟩:∃s,T.alloc (.cells #[.slice none 0 0] 58)=s:=⟨_,rfl⟩
 have G:T.heap.size=w.heap.size:=by rw[<-q];simp
 have z:=Xa (X0a he k)
 rw[q] at z
 have c:=Xa (X0b he z.out.1 z.out.2 G)
 rw[t] at c
 have bc:Hid (Below B w s):=c.out.2.below he.hBE ba
 have b:=g.below bc.out bb
 have s0:=b.c0
 have s1:=b.c1
 have s2:=b.c2
 have s3:=b.c3
 have s4:=b.c4
 have s5:=b.c5
 have J:=Xa b.inn
 have t0:s.cell? ⟨E,0,none⟩=some (.slice (some ⟨b0,o0,none⟩) fs.length F):=Xw c.out.1.ev.blk 0
 obtain ⟨_,aC,cC,eC,_⟩:=b.inn.cst
 obtain ⟨_,_,aK,cK,eK,_⟩:=b.inn.names
 obtain ⟨_,_,aI,cI,eI,_⟩:=b.inn.kids
 obtain ⟨X,hX⟩:∃X,Xo fs n=X:=⟨_,rfl⟩
 have HX:=Xa hX
 rw[hX] at s0 s1 s2 J eC eK eI HR
 have bd:=Xa (HV.out.reads (c.out.2.reads HE.out))
 subst eC eK eI
 have bg:s.heap.size=w.heap.size+1:=by rw[<-t,<-G];simp
 have bl:=Xa q
 have bm:=Xa t
 clear he ho hv g b f hc Y V hX hk
 go_enter Tryz.func29,Tryz.ntmps29
 go_wp2_with fail
 refine (HO.out w.heap.size w.heap.size n X _ _ _ _ ns _ _ Xl (k,[]) s HN.out HX.out J.out (Xw0 B w.heap.size E w.heap.size d _ fs s) c.out.1 bd.out HK.out).mono ?_
 rw[HR.out]
 rintro e w3 ⟨⟨ev,rfl,be⟩,j,l⟩
 have bn:=Xa j
 have L:=Xa l
 have M:Hid (ButE E w w3):=X2z (Z:=w.heap.size) c.out.2 j
 rcases be with ⟨h1,rfl⟩|⟨h1,te,xe,rfl,hrs⟩
 ·have p:Hid (R=⟨0,r.2.2,r.2.1⟩):=by rw[Hid,D.out,if_pos h1]
  obtain ⟨sv,xs,o⟩:=l.outs
  have bf:=Xa (Xtz o)
  obtain ⟨a2,c2,e2⟩:=o.row.slice
  obtain ⟨M2,P⟩:∃M2,xs.length=M2:=⟨_,rfl⟩
  rw[P] at e2
  have u1:w3.cell? ⟨w.heap.size,0,none⟩=some sv:=Xw o.box 0
  subst e2
  clear h1 j l o P
  go_wp2_with fail
  go_ret2
  exact ⟨_,_,rfl, .inl ⟨by rw[p.out],rfl,by rw[p.out];exact bf.out⟩,M.out,by rw[p.out];exact L.out.ev⟩
 ·have p:Hid (R=⟨r.1,[],r.2.1⟩):=by rw[Hid,D.out,if_neg h1]
  have H1:=Xa h1
  have S:=Xa hrs
  obtain ⟨C,hC⟩:∃C,r.1=C:=⟨_,rfl⟩
  rw[hC] at H1 S p|-
  clear j l h1 hrs hC
  go_wp2_with fail
  go_ret2
  exact ⟨_,_,rfl, .inr ⟨by rw[p.out];exact H1.out,rfl,by rw[p.out];exact ⟨te,xe,rfl,S.out⟩⟩,M.out,by rw[p.out];exact L.out.ev⟩
theorem Xq3 {B E:Nat} {fv:Value} {fs:List FN} {d:Nat} (ho:Xnv B E fv fs d) (hd:d<=1000000):Jb B E fv fs (d+1):=by
 intro n v b g w j c f l
 cases g with
 |zero=>exact Xea _ n v b w c f
 |succ k=>exact Xl1 ho n v b k w j c f (by omega) hd
theorem Xl2 (B E:Nat) (fv:Value) (fs:List FN):Jb B E fv fs 0:=by
 intro n v b c w j d f g
 obtain rfl:c=0:=by omega
 exact Xea _ n v b w d f


open Go.RowKit Go.Extern.Stop Go.Stop Go.Extern
theorem Xkt (v:Value) (w:World):(Extern.ReflectliteType.typeOf #[.iface 257 v]).run Tryz.prog w= .ok (.iface 204 (.agg #[.pointer (some ⟨6,257,none⟩)])) w:=by kernel_rfl
theorem Xd5 (w : World) : ((Extern.ReflectliteType.method fun t => do Extern.Rtype.noPackHeld "Comparable" t; (fun a => Value.bool a.comparable) <$> typeInfo t) #[.agg #[.pointer (some ⟨6, 257, none⟩)]]).run Tryz.prog w = .ok (.bool true) w := by kernel_rfl
theorem Wd (v : Value) (w : World) : (Go.method 389 204 v "Comparable").run Tryz.prog w = .ok (257, v) w := by kernel_rfl
theorem Xr6:(Tryz.prog.info? 257).map (·.comparable)=some true:=by kernel_rfl
theorem Xr7:(Tryz.prog.info? 277).map (·.size)=some 1:=by kernel_rfl
theorem Xm4 (v:Value) (xT:TypeId) (w:World):(Instr.typeAssert (.iface 257 v) xT 246 true).run Tryz.prog w= .ok (.tuple #[.nilIface, .bool false]) w:=run_typeAssert_lacksB Tryz.underlying246 (by kernel_rfl) (by kernel_rfl) v xT w
theorem Xet (v:Value) (xT:TypeId) (w:World):(Instr.typeAssert (.iface 257 v) xT 212 true).run Tryz.prog w= .ok (.tuple #[.nilIface, .bool false]) w:=run_typeAssert_lacksB Tryz.underlying212 (by kernel_rfl) (by kernel_rfl) v xT w
theorem Xd6 (v:Value) (xT:TypeId) (w:World):(Instr.typeAssert (.iface 257 v) xT 213 true).run Tryz.prog w= .ok (.tuple #[.nilIface, .bool false]) w:=run_typeAssert_lacksB Tryz.underlying213 (by kernel_rfl) (by kernel_rfl) v xT w
theorem Xm5 (v:Value) (xT:TypeId) (w:World):(Instr.typeAssert (.iface 105 v) xT 246 true).run Tryz.prog w= .ok (.tuple #[.nilIface, .bool false]) w:=run_typeAssert_lacksB Tryz.underlying246 (by kernel_rfl) (by kernel_rfl) v xT w
theorem Xd7 (v:Value) (xT:TypeId) (w:World):(Instr.typeAssert (.iface 105 v) xT 212 true).run Tryz.prog w= .ok (.tuple #[.iface 105 v, .bool true]) w:=run_typeAssert_hasB Tryz.underlying212 (by kernel_rfl) v xT w
theorem Xb6 (v : Value) (w : World) : (Go.method 389 105 v "Unwrap").run Tryz.prog w = .ok (239, v) w := by kernel_rfl
theorem Xh6 (c:Int) (te:Nat) (xe:Value) (w:World):Calls Tryz.prog 239 #[.agg #[.int .i64 c, .iface te xe]] w fun e w'=>e= .returned (.iface te xe)/\Below w.heap.size w w':=by
 go_enter Tryz.func239,Tryz.ntmps239
 go_wp2_with fail
 go_ret
 exact ⟨rfl,(Below.refl _ _).alloc (Nat.le_refl _) _⟩
theorem X2n (b:Addr) (w:World):
  Calls Tryz.prog 181 #[.nilIface, .iface 257 (.pointer (some b))] w fun e w'=>e= .returned (.bool false)/\w'=w:=by
 have c:=run_eql_iface_nil_left (P:=Tryz.prog) w 257 (.pointer (some b)) Tryz.underlying60
 go_enter Tryz.func181,Tryz.ntmps181
 go_wp2
 go_ret
 exact ⟨rfl,rfl⟩
theorem X2o (c:Int) (b:Addr) (w:World):
  Calls Tryz.prog 181 #[.iface 105 (.agg #[.int .i64 c, .iface 257 (.pointer (some b))]), .iface 257 (.pointer (some b))] w fun e w'=>e= .returned (.bool true)/\Below w.heap.size w w':=by
 obtain ⟨i,f,d⟩:=Option.map_eq_some_iff.1 Xr6
 obtain ⟨j,g,l⟩:=Option.map_eq_some_iff.1 Xr7
 have y:= @run_callFunc_extern Tryz.prog 159 _ Extern.ReflectliteType.typeOf Tryz.func159 (by kernel_rfl) (by kernel_rfl) (by kernel_rfl) (by kernel_rfl)
 have o := @run_callFunc_extern Tryz.prog 257 _ (Extern.ReflectliteType.method fun t => do Extern.Rtype.noPackHeld "Comparable" t; pure (.bool (<- typeInfo t).comparable)) Tryz.func257 (by kernel_rfl) (by kernel_rfl) (by kernel_rfl) (by kernel_rfl)
 have z:=Xkt
 have B:=Xd5
 have C:=Wd
 have D:=Xm4
 have F:=Xet
 have G:=Xd6
 have J:=Xm5
 have L:=Xd7
 have M:=Xb6
 have p:=fun W=>run_eql_iface_ptr_same (P:=Tryz.prog) W b Tryz.underlying60 Tryz.underlying257 f d g
 have q:=fun W=>run_eql_iface_types (P:=Tryz.prog) 105 257 (.agg #[.int .i64 c, .iface 257 (.pointer (some b))]) (.pointer (some b)) Tryz.underlying60 (by decide) W
 go_enter Tryz.func181,Tryz.ntmps181
 go_wp2_with fail
 go_enter Tryz.func195,Tryz.ntmps195
 go_wp2_with fail
 refine wp_loop_rounds 2 ?_
 rw[rounds_succ]
 go_wp2_with (go_at_call 239;refine (Xh6 _ _ _ _).mono ?_;rintro e R ⟨rfl,s⟩)
 rw[rounds_succ]
 go_wp2_with fail
 go_ret
 exact ⟨rfl,s⟩
theorem Xzn (c:Int) (a b:Addr) (ca cb:Array Value) (ta tb:TypeId) (w:World) (hne:a≠b) (ha:w.heap[a.block]? =some (.cells ca ta (0,0))) (hb:w.heap[b.block]? =some (.cells cb tb (0,0))):
  Calls Tryz.prog 181 #[.iface 105 (.agg #[.int .i64 c, .iface 257 (.pointer (some a))]), .iface 257 (.pointer (some b))] w fun e w'=>e= .returned (.bool false)/\Below w.heap.size w w':=by
 obtain ⟨i,q,f⟩:=Option.map_eq_some_iff.1 Xr6
 obtain ⟨j,s,g⟩:=Option.map_eq_some_iff.1 Xr7
 have D:= @run_callFunc_extern Tryz.prog 159 _ Extern.ReflectliteType.typeOf Tryz.func159 (by kernel_rfl) (by kernel_rfl) (by kernel_rfl) (by kernel_rfl)
 have y := @run_callFunc_extern Tryz.prog 257 _ (Extern.ReflectliteType.method fun t => do Extern.Rtype.noPackHeld "Comparable" t; pure (.bool (<- typeInfo t).comparable)) Tryz.func257 (by kernel_rfl) (by kernel_rfl) (by kernel_rfl) (by kernel_rfl)
 have F:=Xkt
 have G:=Xd5
 have J:=Wd
 have L:=Xm4
 have M:=Xet
 have R:=Xd6
 have S:=Xm5
 have T:=Xd7
 have V:=Xb6
 have o:=Xa ha
 have p:=Xa hb
 clear ha hb
 have z:=fun W=>run_eql_iface_types (P:=Tryz.prog) 105 257 (.agg #[.int .i64 c, .iface 257 (.pointer (some a))]) (.pointer (some b)) Tryz.underlying60 (by decide) W
 go_enter Tryz.func181,Tryz.ntmps181
 go_wp2_with fail
 go_enter Tryz.func195,Tryz.ntmps195
 go_wp2_with fail
 refine wp_loop_rounds 2 ?_
 rw[rounds_succ]
 go_wp2_with (go_at_call 239;refine (Xh6 _ _ _ _).mono ?_;rintro e B ⟨rfl,d⟩)
 have C:=run_eql_iface_ptr_other (P:=Tryz.prog) B Tryz.underlying60 Tryz.underlying257 q f s (by rw[g];decide) hne ((d.block _ (Zn o.out)).trans o.out) ((d.block _ (Zn p.out)).trans p.out)
 have l:=Xa d
 clear d
 rw[rounds_succ]
 go_wp2_with fail
 go_ret
 exact ⟨rfl,l.out⟩
theorem Xzo {r:OcR} (h:r.c=2):Zp r=⟨0,[],r.fu⟩:=by unfold Zp;rw[if_pos h]
theorem Xr8 {r:OcR} (h:r.c≠2):Zp r=r:=by unfold Zp;rw[if_neg h]
theorem Xh7 {B E:Nat} {fv:Value} {fs:List FN} {d:Nat} (ho:Jb B E fv fs d) (n:Nat) (v:Value) (ns:List VN) (fu:Nat) (w:World) (hn:n<fs.length) (he:EvB B E fv fs fu w) (hv:Rep w ns v) (hd:fu<=d):
  Calls Tryz.prog 150 #[.pointer (some ⟨E,0,none⟩), .int .i64 n,v] w (Xiw B E fv fs (Zp (Xh fs d n ns fu)) w):=by
 obtain ⟨r,hr⟩:∃r,Xh fs d n ns fu=r:=⟨_,rfl⟩
 have HC:=Xa (ho n v ns fu w hn he hv hd)
 obtain ⟨R,J⟩:∃R,Zp r=R:=⟨_,rfl⟩
 rw[hr] at HC|-
 rw[J]
 have L:=Xa J
 obtain ⟨ty,y,rfl⟩:=hv.iface
 clear ho he hv hr J
 go_enter Tryz.func150,Tryz.ntmps150
 go_wp2_with fail
 refine HC.out.mono ?_
 rintro e w1 ⟨it,ev,rfl,q,hb,he⟩
 have P:=Xa hb
 have S:=Xa he
 obtain ⟨_,_,_,_,_,⟨k0,T,ck,tk,s⟩⟩:∃a b c d e,∃p:Addr,w1.cell? ⟨3,0,none⟩=some (.iface 257 (.pointer (some p)))/\∃cs t,w1.heap[p.block]? =some (.cells cs t (0,0)):=⟨0,0,0,0,0,he.errs.now.two.errs.kind⟩
 have V:=Xa s
 clear hb he s
 rcases q with ⟨h1,rfl,hit⟩|⟨h1,rfl,te,xe,rfl,hrs⟩
 ·have z:=Xa hit
  obtain ⟨_,a,c,rfl,_⟩:=hit
  have g:Hid (R=r):=by rw[Hid,<-L.out];exact Xr8 (by omega)
  obtain ⟨M,hM⟩:∃M,r.l.length=M:=⟨_,rfl⟩
  have X:=Xa h1
  clear h1
  rw[hM] at z|-
  clear hM
  go_wp2_with fail
  refine (X2n k0 _).mono ?_
  rintro e w2 ⟨rfl,rfl⟩
  go_wp2_with fail
  go_ret2
  exact ⟨_,_,rfl, .inl ⟨by rw[g.out];exact X.out,rfl,by rw[g.out];exact z.out⟩,P.out,by rw[g.out];exact S.out⟩
 ·have D:=Xa hrs
  obtain ⟨G,p,e1,e2,q1,F,⟨c1,t1,q3⟩,_,_,_⟩:=hrs
  subst e1 e2
  obtain rfl:p=k0:=by
   have:=q1.symm.trans T
   injection this with this
   injection this with _ this
   injection this with this
   injection this
  have Y:=Xa q3
  obtain ⟨C,Z⟩:∃C,r.c=C:=⟨_,rfl⟩
  have o:=Xa Z
  rw[Z] at h1 F D|-
  clear Z q1 q3
  by_cases k2:C=2
  ·obtain rfl:G=p:=F.1 k2
   have g:Hid (R=⟨0,[],r.fu⟩):=by rw[Hid,<-L.out];exact Xzo (by rw[o.out];exact k2)
   clear F k2 h1
   go_wp2_with fail
   refine (X2o C G _).mono ?_
   rintro e w2 ⟨rfl,j⟩
   have f:=Xa j
   clear j
   go_wp2_with fail
   go_ret2
   exact ⟨_,_,rfl, .inl ⟨by rw[g.out],rfl,by rw[g.out];exact ⟨by simp,none,0,rfl,fun h=>absurd h (by simp)⟩⟩,P.out.trans (.of_below f.out),by rw[g.out];exact S.out.below f.out⟩
  ·have ba:G≠p:=fun e=>k2 (F.2 e)
   have g:Hid (R=r):=by rw[Hid,<-L.out];exact Xr8 (by rw[o.out];exact k2)
   have X:=Xa h1
   clear F k2 h1
   go_wp2_with fail
   refine (Xzn C G p _ _ _ _ _ ba Y.out V.out).mono ?_
   rintro e w2 ⟨rfl,j⟩
   have f:=Xa j
   clear j
   go_wp2_with fail
   go_ret2
   exact ⟨_,_,rfl, .inr ⟨by rw[g.out,o.out];exact X.out,rfl,by rw[g.out,o.out];exact ⟨_,_,rfl,D.out.below f.out⟩⟩,P.out.trans (.of_below f.out),by rw[g.out];exact S.out.below f.out⟩


theorem V6 {lo B n:Nat} {w:World} {it:Value} {P:Nat->Value->Prop} (h:ItemsG lo B w it n P) (hB:B<=w.heap.size):∃V,ValsAt w it n V/\∀j,j<n->P j (V j):=by
 obtain ⟨a,d,rfl,g⟩:=h
 rcases Nat.eq_zero_or_pos n with e|e
 ·exact ⟨fun _=>undef,⟨a,d,rfl,fun hp=>by omega,fun j hj=>by omega⟩,fun j hj=>by omega⟩
 ·obtain ⟨b,rfl,_,o,c⟩:=g e
  refine ⟨fun j=>(w.cell? ⟨b,j,none⟩).getD undef,⟨_,d,rfl,fun _=>⟨b,rfl,by omega,fun j hj=> ?_⟩,fun j hj=> ?_⟩,fun j hj=> ?_⟩
  ·obtain ⟨t,x,f,_⟩:=c j hj
   simp only[f];rfl
  ·obtain ⟨t,x,f,_⟩:=c j hj
   exact ⟨t,x,by simp only[f];rfl⟩
  ·obtain ⟨t,x,f,l⟩:=c j hj
   simp only[f];exact l
theorem Xml (xb:Nat) (x y:Value) (us vs:List VN) (hu:FineU us) (hv:FineU vs) (lo B lo' B':Nat) (hlo:lo<=B) (hlo':lo'<=B') (f f' n k:Nat) (w:World) (hn:n<us.length) (hk:k<vs.length)
  (h1:ValG lo B w us f n x) (h2:ValG lo' B' w vs f' k y) (hB:B<=w.heap.size) (hB':B'<=w.heap.size) (hc:w.cell? ⟨xb,0,none⟩=some x):
  Calls Tryz.prog 202 #[y, .pointer (some ⟨xb,0,none⟩)] w fun e w'=>e= .returned (.bool (decide (ord us vs f n k=0)))/\Below w.heap.size w w':=by
 obtain ⟨l,o,rfl⟩:=h1.iface
 obtain ⟨p,q,rfl⟩:=h2.iface
 have b:=Xa (Xfg us vs hu hv lo B lo' B' hlo hlo' f f' n k _ _ w hn hk h1 h2 hB hB')
 obtain ⟨r,d⟩:∃r,ord us vs f n k=r:=⟨_,rfl⟩
 rw[d] at b|-
 by_cases h0:r=0
 ·go_enter Tryz.func202,Tryz.ntmps202
  go_wp2_with fail
  refine b.out.mono ?_
  rintro e g ⟨rfl,c⟩
  go_wp2_with fail
  go_ret
  exact ⟨Xi (by simp[h0]),c⟩
 ·have j:(r==0)=false:=by simpa using h0
  go_enter Tryz.func202,Tryz.ntmps202
  go_wp2_with fail
  refine b.out.mono ?_
  rintro e g ⟨rfl,c⟩
  go_wp2_with fail
  go_ret
  exact ⟨Xi (by simp[h0]),c⟩
theorem X2e {us vs:List VN} (h1:okB us=true) (h2:okB vs=true) {f:Nat} (hf:us.length=f+1) {i k:Nat} (hi:i<(Xe us).length) (hk:k<(Xe vs).length):
  decide (ord us vs f (Xj (Xe us) i).toNat (Xj (Xe vs) k).toNat=0)=Wo us vs i k:=by
 obtain ⟨q,c,g⟩:=Zh h1 hi
 obtain ⟨r,d,j⟩:=Zh h2 hk
 unfold Wo
 have l:PL us i=Ys us q:=by unfold PL;rw[c];simp
 have o:PL vs k=Ys vs r:=by unfold PL;rw[d];simp
 rw[c,d,l,o]
 simp only[Int.toNat_natCast]
 have a:=Xw1 h1 h2 (n:=q) (k:=r) (f:=f) (by omega) (by omega) (by omega)
 have b:=Xnk (Xds h1 (show q<us.length by omega)) (Xds h2 (show r<vs.length by omega))
 rw[Bool.eq_iff_iff]
 simp only[decide_eq_true_eq]
 rw[a,b]
theorem Xvf {us vs:List VN} {lo B base:Nat} {w:World} {r:Value} {V:Nat->Value} {f:Nat} (hf:us.length=f+1) (h1:okB us=true) (hB:B<=w.heap.size) (hlo:lo<=B)
  (hV:∀j,j<(Xe us).length->ValG lo B w us f (Xj (Xe us) j).toNat (V j))
  (hr:w.ownsRow base 52 1 r (Yg us vs (Xe us).length).length ((Yg us vs (Xe us).length).map V)):
  TreeAt w.heap.size w (us.length+1) (.mk 5 0 ByteArray.empty [] (Zs us vs us.length)) (.iface 158 (.agg #[r])):=by
 obtain ⟨z,C,_,D⟩:=Xm h1
 have F:=Vy us vs (Xe us).length
 have G:=(Zv h1).2
 have b:(Zs us vs us.length).length=(Yg us vs (Xe us).length).length:=by simp[Zs]
 refine Or.inr (Or.inr (Or.inr (Or.inr (Or.inl ⟨rfl,rfl,rfl,rfl,r,rfl, ?_⟩))))
 rw[b]
 obtain ⟨a,c,e⟩:=Xg hr
 subst e
 refine ⟨by omega,a,c,rfl,fun hp=> ?_⟩
 obtain ⟨g,J,e,_,l⟩:=hr.form hp
 cases e
 refine ⟨g,rfl,l,fun j hj=> ?_⟩
 have p:=F.2 _ (List.getElem_mem hj)
 have d:=hV _ p
 obtain ⟨t,x,s⟩:=d.iface
 obtain ⟨q,y,L⟩:=Zh h1 p
 rw[s] at d
 refine ⟨t,x, ?_, ?_⟩
 ·rw[hr.cellAt j (by omega),List.getElem?_map,List.getElem?_eq_getElem hj]
  simp only[Option.map_some,s]
 ·have o:Yf (Zs us vs us.length) j=Xt us us.length q:=by
   unfold Zs Yf
   rw[List.getD_eq_getElem?_getD,List.getElem?_map,List.getElem?_eq_getElem hj]
   simp only[Option.map_some,Option.getD_some]
   rw[y];simp
  show TreeAt w.heap.size w us.length (Yf (Zs us vs us.length) j) (.iface t x)
  rw[o]
  rw[y] at d
  simp only[Int.toNat_natCast] at d
  exact TreeAt.keep (fun _ _=>rfl) hB (ValG.tree hlo C D z.2 (by omega) (ValG.more (show f<=us.length by omega) d))
theorem Xmm (u v:Value):∀w,(callFunc 192 #[u,v]).run Tryz.prog w= .ok (.enter 192 #[u,v]) w:=fun w=>by kernel_rfl
theorem Xc3 (x : Value) : ∀ w, (Go.method (Tryz.prog.types.size + Made.depth) 158 x "loop.example/g00345/impl.parts").run Tryz.prog w = .ok (249, x) w := fun w => by kernel_rfl
theorem Xc4 (x:Value):∀w,(callFunc 249 #[x]).run Tryz.prog w= .ok (.enter 249 #[x]) w:=fun w=>by kernel_rfl
theorem Xfy {lo B:Nat} {w:World} {us:List VN} {f:Nat} {t:TypeId} {v:Value} (hf:us.length=f+1) (hk:(Xd us).kind=5) (h:ValG lo B w us us.length (us.length-1) (.iface t v)):
  t=158/\∃it,v= .agg #[it]/\ItemsG lo B w it (Xe us).length (fun j u=>ValG lo B w us f (Xj (Xe us) j).toNat u):=by
 rw[hf,show f+1-1=f by omega] at h
 have c:Xb us f=Xd us:=by unfold Xd;rw[hf];rfl
 have b:Xe us=(Xd us).kids:=rfl
 unfold ValG at h
 rw[c] at h
 rcases h with ⟨k,e⟩|⟨k,e⟩|⟨k,e⟩|⟨k,e⟩|⟨k,it,e,hi⟩|⟨k,ks,it,e,hs,hi⟩
 case inr.inr.inr.inr.inl=>cases e;exact ⟨rfl,it,rfl,by rw[b];exact hi⟩
 all_goals exact absurd k (by omega)
theorem Xmn (us vs:List VN) (h1:okB us=true) (h2:okB vs=true) (lo B lo' B':Nat) (hlo:lo<=B) (hlo':lo'<=B') {f f':Nat} (hf:us.length=f+1) (hf':vs.length=f'+1) (it it':Value) (V V':Nat->Value) (w:World)
  (hv:ValsAt w it (Xe us).length V) (hv':ValsAt w it' (Xe vs).length V') (hV:∀j,j<(Xe us).length->ValG lo B w us f (Xj (Xe us) j).toNat (V j)) (hV':∀j,j<(Xe vs).length->ValG lo' B' w vs f' (Xj (Xe vs) j).toNat (V' j)) (hB:B<=w.heap.size) (hB':B'<=w.heap.size):
  Calls Tryz.prog 192 #[it,it'] w fun e w'=>∃r,e= .returned r/\(∃a c,r= .slice a (Yg us vs (Xe us).length).length c)/\TreeAt w'.heap.size w' (us.length+1) (.mk 5 0 ByteArray.empty [] (Zs us vs us.length)) (.iface 158 (.agg #[r]))/\Below w.heap.size w w':=by
 have z:=Xf9 h1
 have C:=Xf9 h2
 have T:=(Zv h1).2
 have X:=(Zv h2).2
 refine (Xqz it it' (Xe us).length (Xe vs).length V V' (fun i k=>decide (ord us vs f (Xj (Xe us) i).toNat (Xj (Xe vs) k).toNat=0)) w hv hv' (by omega) (by omega) ?_).mono ?_
 ·intro Y g D i o F s y l k p
  obtain ⟨q,G,J⟩:=Zh h1 o
  obtain ⟨r,L,M⟩:=Zh h2 p
  have b:Below w.heap.size w y:=g.trans (l.mono g.size)
  have P:=ValG.keep (Z9 (b.mono hB)) (Nat.le_refl _) hlo (hV i o)
  have R:=ValG.keep (Z9 (b.mono hB')) (Nat.le_refl _) hlo' (hV' k p)
  exact Xml D (V i) (V' k) us vs z C lo B lo' B' hlo hlo' f f' _ _ y (by rw[G];simp;omega) (by rw[L];simp;omega) P R (Nat.le_trans hB b.size) (Nat.le_trans hB' b.size) ((Xc l s).trans F)
 ·rintro e w' ⟨r,rfl,d,t⟩
  have e:Yt (fun i=>Za (fun k=>decide (ord us vs f (Xj (Xe us) i).toNat (Xj (Xe vs) k).toNat=0)) (Xe vs).length) (Xe us).length=Yg us vs (Xe us).length:=by
   unfold Yg
   exact Xrk _ (fun i o=>Xuv _ (fun k p=>X2e h1 h2 hf o p))
  rw[e] at d
  obtain ⟨a,c,S⟩:=Xg d
  exact ⟨r,rfl,⟨a,c,S⟩,Xvf hf h1 (Nat.le_trans hB t.size) hlo (fun j hj=>ValG.keep (Z9 (t.mono hB)) (Nat.le_refl _) hlo (hV j hj)) d,t⟩
theorem Xs1 (us vs:List VN) (h1:okB us=true) (h2:okB vs=true) (lo B lo' B':Nat) (hlo:lo<=B) (hlo':lo'<=B') (x y:Value) (w:World) (hx:ValG lo B w us us.length (us.length-1) x) (hy:ValG lo' B' w vs vs.length (vs.length-1) y) (hB:B<=w.heap.size) (hB':B'<=w.heap.size) (hk5:(Xd us).kind=5) (hk5':(Xd vs).kind=5):
  Calls Tryz.prog 175 #[x,y] w fun e w'=>Q2 (Vz us vs) (Kg us vs) e w'/\Below w.heap.size w w':=by
 obtain ⟨tx,vx,Fx,rfl,X⟩:=Qc hx
 obtain ⟨ty,vy,Fy,rfl,Y⟩:=Qc hy
 have HM:=Xa (Xoi h1 h2 ⟨hk5,hk5'⟩)
 have s:=Xa X
 have t:=Xa Y
 have m1:=X.meth
 have e1:=X.enter
 have m2:=Y.meth
 have e2:=Y.enter
 have bi:((Xb us (us.length-1)).kind !=(Xb vs (vs.length-1)).kind)=false:=by
  have:(Xb us (us.length-1)).kind=(Xb vs (vs.length-1)).kind:=hk5.trans hk5'.symm
  simpa using this
 have bj:=Vk
 have bk:=Xbr
 obtain ⟨p1,_,_,_⟩:=Xm h1
 obtain ⟨p2,_,_,_⟩:=Xm h2
 obtain ⟨f,hf⟩:∃f,us.length=f+1:=⟨us.length-1,by omega⟩
 obtain ⟨f',l⟩:∃f',vs.length=f'+1:=⟨vs.length-1,by omega⟩
 obtain ⟨rfl,it,rfl,hi⟩:=Xfy hf hk5 hx
 obtain ⟨rfl,z,rfl,C⟩:=Xfy l hk5' hy
 obtain ⟨V,hv,hV⟩:=V6 hi hB
 obtain ⟨V',D,F⟩:=V6 C hB'
 have ba:=Xa (Xog h1 vs (Nat.le_refl us.length))
 have o:Hid (∀W,Below w.heap.size w W->Calls Tryz.prog 192 #[it,z] W fun e w'=>∃r,e= .returned r/\(∃a c,r= .slice a (Yg us vs (Xe us).length).length c)/\TreeAt w'.heap.size w' (us.length+1) (.mk 5 0 ByteArray.empty [] (Zs us vs us.length)) (.iface 158 (.agg #[r]))/\Below W.heap.size W w'):=
  fun W hb=>Xmn us vs h1 h2 lo B lo' B' hlo hlo' hf l it z V V' W (hv.below hb) (D.below hb) (fun j hj=>ValG.keep (Z9 (hb.mono hB)) (Nat.le_refl _) hlo (hV j hj)) (fun j hj=>ValG.keep (Z9 (hb.mono hB')) (Nat.le_refl _) hlo' (F j hj)) (Nat.le_trans hB hb.size) (Nat.le_trans hB' hb.size)
 obtain ⟨a,d,rfl,_⟩:=hi
 obtain ⟨a',b,rfl,_⟩:=C
 obtain ⟨N,hN⟩:∃N,(Yg us vs (Xe us).length).length=N:=⟨_,rfl⟩
 rw[hN] at o
 obtain ⟨M,hM⟩:∃M,(Xe us).length=M:=⟨_,rfl⟩
 obtain ⟨G,p⟩:∃G,(Xe vs).length=G:=⟨_,rfl⟩
 rw[hM,p] at o
 rw[hM] at s m1 e1|-
 rw[p] at t m2 e2|-
 clear X Y hx hy hv D hV F p1 p2 hf l hN hM p
 go_enter Tryz.func175,Tryz.ntmps175
 go_wp2_with fail
 refine (s.out.says _).mono ?_
 rintro e w1 ⟨rfl,J⟩
 have L:=Xa J
 clear J
 go_wp2_with fail
 refine (t.out.says _).mono ?_
 rintro e P ⟨rfl,bb⟩
 have R:=Xa (L.out.trans (bb.mono L.out.size))
 go_wp2_with fail
 obtain ⟨W,Z⟩:∃W,P.alloc (.cells #[.slice a M d] 158)=W:=⟨_,rfl⟩
 have c0:W.cell? ⟨P.heap.size,0,none⟩=some (.slice a M d):=by rw[<-Z];simp
 have bc:P.heap.size<W.heap.size:=by rw[<-Z];simp
 have g:Hid (Below w.heap.size w W.drew):=by rw[Hid,<-Z];exact (R.out.alloc R.out.size _).drew
 have bd:W.drew.cell? ⟨P.heap.size,0,none⟩=some (.slice a M d):=c0
 have S:P.heap.size<W.drew.heap.size:=by simpa using bc
 rw[Z]
 go_region_law
  (first
   |(refine Xcj (by rfl) _ _ (by rfl) 158 (.agg #[.slice a' G b]) (by rfl) 249 (Xc3 _) (Xc4 _) (Ka a' G b _) ?_;rintro e w3 ⟨rfl,q⟩;have bl:=(Xc q S).trans bd;refine ⟨_,rfl, ?_⟩)
   |(refine Kf (by rfl) 192 _ _ _ _ (by rfl) (.slice a M d) (.slice a' G b) (by rfl) (by rfl) (Xmm _ _) (o.out w3 (g.out.trans (q.mono g.out.size))) ?_;rintro e w4 ⟨r,rfl,⟨ar,cr,rfl⟩,be,bf⟩;refine ⟨_,rfl, ?_⟩))
 all_goals
  have T:=Xa (g.out.trans (q.mono g.out.size))
  have bg:=Xa (T.out.trans (bf.mono T.out.size))
  have bh:=Xa be
  go_wp2_with fail
  go_ret2
  exact ⟨Or.inl ⟨HM.out.1,_,_,_,_,rfl,bh.out,by rw[HM.out.2];exact ba.out⟩,bg.out⟩


theorem Xvg (us vs:List VN) (h1:okB us=true) (h2:okB vs=true) (lo B lo' B':Nat) (hlo:lo<=B) (hlo':lo'<=B') (x y:Value) (w:World) (hx:ValG lo B w us us.length (us.length-1) x) (hy:ValG lo' B' w vs vs.length (vs.length-1) y) (hB:B<=w.heap.size) (hB':B'<=w.heap.size) (hE:Errs2 w):
  Calls Tryz.prog 175 #[x,y] w fun e w'=>Q2 (Vz us vs) (Kg us vs) e w'/\Below w.heap.size w w':=by
 obtain ⟨tx,vx,Fx,rfl,t⟩:=Qc hx
 obtain ⟨ty,vy,Fy,rfl,z⟩:=Qc hy
 have o:=Xa t
 have p:=Xa z
 have C:=Xa hE
 have m1:=t.meth
 have e1:=t.enter
 have m2:=z.meth
 have e2:=z.enter
 clear t z hE
 by_cases hk:(Xd us).kind=(Xd vs).kind
 case neg=>
  have q:=Xa (Xe6 h1 h2 (by omega) (by omega))
  have P:((Xb us (us.length-1)).kind !=(Xb vs (vs.length-1)).kind)=true:=by
   have:¬(Xb us (us.length-1)).kind=(Xb vs (vs.length-1)).kind:=hk
   simpa using this
  go_enter Tryz.func175,Tryz.ntmps175
  go_wp2_with fail
  refine (o.out.says _).mono ?_
  rintro e R ⟨rfl,b⟩
  have c:=Xa b
  clear b
  go_wp2_with fail
  refine (p.out.says _).mono ?_
  rintro e S ⟨rfl,d⟩
  have g:=Xa (c.out.trans (d.mono c.out.size))
  have j:=Xa (C.out.below g.out)
  clear d
  go_wp2_with fail
  refine (Zx _ j.out.errs).mono ?_
  rintro e T ⟨⟨v,rfl,F,G,rfl,l⟩,rfl⟩
  go_wp2_with fail
  go_ret2
  exact ⟨Or.inr ⟨q.out.2,_,rfl,by rw[q.out.1];exact ⟨F,G,rfl,l⟩⟩,g.out⟩
 case pos=>
 have V:((Xb us (us.length-1)).kind !=(Xb vs (vs.length-1)).kind)=false:=by
  have:(Xb us (us.length-1)).kind=(Xb vs (vs.length-1)).kind:=hk
  simpa using this
 have X:=Wu
 have Y:=Xo4
 have Z:=Xgq
 have ba:=Xe2
 have bb:=V9
 have bc:=Wv
 have bd:=Xnt
 have be:=Vk
 have bf:=Xbr
 have bg:=Un
 have bh:=Xgr
 have bi:=Xi5
 have bj:=Xf0
 obtain ⟨p1,_,_,_⟩:=Xm h1
 obtain ⟨p2,_,_,_⟩:=Xm h2
 obtain ⟨f,D⟩:∃f,us.length=f+1:=⟨us.length-1,by omega⟩
 obtain ⟨L,J⟩:∃L,vs.length=L+1:=⟨vs.length-1,by omega⟩
 by_cases hk3:(Xd us).kind=3
 case pos=>
  exact Xt0 us vs h1 h2 lo B lo' B' hlo hlo' _ _ w hx hy hB hB' C.out hk3 (by omega)
 case neg=>
 by_cases hk5:(Xd us).kind=5
 case pos=>
  exact Xs1 us vs h1 h2 lo B lo' B' hlo hlo' _ _ w hx hy hB hB' hk5 (by omega)
 case neg=>
  have q:=Xa (Xe6 h1 h2 (by omega) (by omega))
  have s:=hx
  rw[D,show f+1-1=f by omega] at s
  clear hx
  rcases s with ⟨k,e⟩|⟨k,e⟩|⟨k,e⟩|⟨k,e⟩|⟨k,it,e,hi⟩|⟨k,ks,it,e,hs,hi⟩
  case inr.inr.inl=>exact absurd (show (Xd us).kind=3 by unfold Xd;rw[D];exact k) hk3
  case inr.inr.inr.inr.inl=>exact absurd (show (Xd us).kind=5 by unfold Xd;rw[D];exact k) hk5
  all_goals
   cases e
   clear k D J p1 p2 hy hk3 hk5 hk
   have M:Hid (∀W,Below w.heap.size w W->Errs2 W):=fun W hb=>C.out.below hb
   go_enter Tryz.func175,Tryz.ntmps175
   go_wp2_with fail
   refine (o.out.says _).mono ?_
   rintro e R ⟨rfl,b⟩
   have c:=Xa b
   clear b
   go_wp2_with fail
   refine (p.out.says _).mono ?_
   rintro e S ⟨rfl,d⟩
   have g:=Xa (c.out.trans (d.mono c.out.size))
   have j:=Xa (C.out.below g.out)
   clear d
   go_wp2_with fail
   refine (Zx _ j.out.errs).mono ?_
   rintro e T ⟨⟨v,rfl,F,G,rfl,l⟩,rfl⟩
   go_wp2_with fail
   go_ret2
   exact ⟨Or.inr ⟨q.out.2,_,rfl,by rw[q.out.1];exact ⟨F,G,rfl,l⟩⟩,g.out⟩


theorem X03 {l:List (List VN)} {k:Nat} (hk:k<l.length):(l.take (k+1)).any Xu=((l.take k).any Xu||Xu (Xn l k)):=by
 have e:l.take (k+1)=l.take k++ [Xn l k]:=by
  rw[List.take_succ_eq_append_getElem hk]
  unfold Xn
  rw[List.getD_eq_getElem?_getD,List.getElem?_eq_getElem hk]
  rfl
 rw[e,List.any_append]
 simp
theorem X28 {l:List (List VN)} {k:Nat} (hk:k<l.length) (h:Xu (Xn l k)=true):l.any Xu=true:=by
 rw[List.any_eq_true]
 refine ⟨Xn l k, ?_,h⟩
 unfold Xn
 rw[List.getD_eq_getElem?_getD,List.getElem?_eq_getElem hk]
 exact List.getElem_mem hk
theorem Xio (it:Value) (l:List (List VN)) (w:World) (h:ItemsRep w it l) (hl:l.length<=1000):
  Calls Tryz.prog 182 #[it, .func (.func 146) #[] #[]] w fun e w'=>(∃r:Int,e= .returned (.int .i64 r)/\(decide (0<=r))=l.any Xu/\-1<=r/\r<=1000000)/\Below w.heap.size w w':=by
 have L:=Xa h
 obtain ⟨_,a,P,rfl,_⟩:=h
 obtain ⟨M,B⟩:∃M,l.length=M:=⟨_,rfl⟩
 have z:=Xa B
 rw[B] at hl|-
 clear B
 go_enter Tryz.func182,Tryz.ntmps182
 go_wp2_with fail
 go_loopw [5,8] (fun _ i wr=>∃k:Nat,k<=M/\i= .int .i64 k/\Hid ((l.take k).any Xu=false)/\Below w.heap.size w wr) (fun _ i _=>M-(intOf i).toNat)
 case atStart=>exact ⟨0,Nat.zero_le _,rfl,rfl,Below.refl _ _⟩
 case round=>
  obtain ⟨k,T,rfl,J,d⟩:=hrel
  by_cases hlt:k<M
  ·obtain ⟨b,c,t,x,e,p,o⟩:=Xb1 L.out (j:=k) (by rw[z.out];exact hlt)
   injection e with e1 _ e3
   subst e1 e3
   have C:=(Xc d (X7 p)).trans p
   have D:=Xa (Wc (Xn l k) _ wr (o.below d))
   obtain ⟨F,q⟩:∃F,Xu (Xn l k)=F:=⟨_,rfl⟩
   have y:=Xa q
   have g:=Xa d
   rw[q] at D
   clear p o q d
   cases F
   ·have G:Hid ((l.take (k+1)).any Xu=false):=by rw[Hid,X03 (by rw[z.out];exact hlt),J.out,y.out];rfl
    go_wp2_with fail
    refine D.out.mono ?_
    rintro e R ⟨rfl,f⟩
    have s:=Xa (g.out.trans (f.mono g.out.size))
    clear f
    go_wp2_with fail
    go_roundw
    case rel=>exact ⟨k+1,by omega,by go_num,G,s.out⟩
    case measure=>simp[intOf];omega
   ·have S:=Xa (X28 (by rw[z.out];exact hlt) y.out)
    go_wp2_with fail
    refine D.out.mono ?_
    rintro e R ⟨rfl,f⟩
    have s:=Xa (g.out.trans (f.mono g.out.size))
    clear f
    go_wp2_with fail
    go_ret
    exact ⟨⟨k,rfl,by rw[S.out];simp,by omega,by omega⟩,s.out⟩
  ·obtain rfl:k=M:=by omega
   go_wp2_with fail
   go_ret
   exact ⟨⟨-1,rfl,by have:=J.out;rw[<-z.out,List.take_length] at this;rw[this];rfl,by omega,by omega⟩,d⟩
theorem Xfh (it:Value) (l:List (List VN)) (w:World) (h:ItemsRep w it l) (hl:l.length<=1000):
  Calls Tryz.prog 151 #[it, .func (.func 146) #[] #[]] w fun e w'=>e= .returned (.bool (l.any Xu))/\Below w.heap.size w w':=by
 have b:=Xa (Xio it l w h hl)
 obtain ⟨_,a,f,rfl,_⟩:=h
 obtain ⟨M,c⟩:∃M,l.length=M:=⟨_,rfl⟩
 rw[c] at b|-
 clear c
 go_enter Tryz.func151,Tryz.ntmps151
 go_wp2_with fail
 refine b.out.mono ?_
 rintro e o ⟨⟨r,rfl,d,p,q⟩,g⟩
 have j:=Xa d
 clear d
 go_wp2_with fail
 all_goals
  go_ret
  exact ⟨Xi (by rw[<-j.out];try simp[*]),g⟩
end Go.Proofs.YtdjddneidbddpaaGreatDoor
