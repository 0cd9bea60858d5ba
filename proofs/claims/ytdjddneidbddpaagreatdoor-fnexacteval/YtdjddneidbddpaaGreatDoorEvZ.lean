import Derived.Test.YtdjddneidbddpaaGreatDoorIPlsT
import Derived.Test.YtdjddneidbddpaaGreatDoorSMin
import Derived.Test.YtdjddneidbddpaaGreatDoorStepI
import Derived.Test.YtdjddneidbddpaaGreatDoorSSort
import Derived.Test.YtdjddneidbddpaaGreatDoorLowN
import Derived.WalkKit
import Derived.LaidEql
import Derived.Stop.Asserts
import Derived.RowKitTokens
import Derived.Test.YtdjddneidbddpaaGreatDoorIMrg
import Derived.Test.YtdjddneidbddpaaGreatDoorStbN
import Derived.Deep.RegionWith
namespace Go.Proofs.YtdjddneidbddpaaGreatDoor
set_option linter.unusedSectionVars false
set_option maxHeartbeats 6400000
open Go.RowKit
set_option linter.unusedSimpArgs false
set_option linter.unusedVariables false
def ItemsRep (w:World) (it:Value) (l:List (List VN)):Prop:=
 l.length≤100000∧∃a c,it= .slice a l.length c∧(0<l.length→∃b,a=some ⟨b,0,none⟩∧∀j,j<l.length→∃t x,w.cell? ⟨b,j,none⟩=some (.iface t x)∧Rep w (Xl l j) (.iface t x))
theorem ItemsRep.reads {w w':World} {it:Value} {l:List (List VN)} (h:ItemsRep w it l) (hr:Reads2 w w'):ItemsRep w' it l:=by
 obtain ⟨h0,a,c,e,hx⟩:=h
 refine ⟨h0,a,c,e,fun hp=> ?_⟩
 obtain ⟨b,ea,hj⟩:=hx hp
 refine ⟨b,ea,fun j hlt=> ?_⟩
 obtain ⟨t,x,hc,hR⟩:=hj j hlt
 exact ⟨t,x,hr.ifc _ _ _ _ hc,hR.reads hr⟩
theorem Xvh {l:List (List VN)} {k:Nat} (h:k<l.length):l.drop k=Xl l k::l.drop (k+1):=by
 rw[List.drop_eq_getElem_cons h]
 congr 1
 unfold Xl
 rw[List.getD_eq_getElem?_getD,List.getElem?_eq_getElem h]
 rfl
theorem Xpr (h:Yc) {l:List (List VN)} {k:Nat} (hk:k<l.length) (st:Xt):Xo h (l.drop k) st=if (h (Xl l k) st).1=0 then Xo h (l.drop (k+1)) (h (Xl l k) st).2 else h (Xl l k) st:=by
 rw[Xvh hk,Xo]
theorem Xr6 (h:Yc) (l:List (List VN)) (st:Xt):Xo h (l.drop l.length) st=(0,st):=by
 rw[List.drop_length];rfl
theorem Xvi {P:Program} {w:World} {ops:Array Oper} {o:Oper} {a:Act} {K:Act→World→Prop} {Q:Exit→Act→World→Prop} {E:Prop} (hgd:o.guard=none) (F:FuncId) (caps:Array Value) (fx x:Operand) (T:TypeId)
  (ho:o.op= .call {callee:= .value fx,args:= #[x],argTypes:= #[T]}) (v:Value) (hf:a.eval fx= .func (.func F) #[] caps) (hx:a.eval x=v) (hcf:∀w,(callFunc F (#[v]++caps)).run P w= .ok (.enter F (#[v]++caps)) w) {R:Ending→World→Prop} (hc:Calls P F (#[v]++caps) w R)
  (h:∀e w',R e w'→∃u,e= .returned u∧K (a.put o.dst u) w'):
  if Region.wanted o (yielded ops a.tmps)=true then Oper.wp P o a w K Q else E:=by
 have hw:Region.wanted o (yielded ops a.tmps)=true:=by simp[Region.wanted,hgd]
 rw[if_pos hw]
 unfold Oper.wp execOp
 simp[ho,resolve,invoke,hx,hf,Deferred.ofValue,hcf,Result.andThen,Oper.upon_enter]
 refine hc.mono fun e w' hr=> ?_
 obtain ⟨u,rfl,hk⟩:=h e w' hr
 exact hk
set_option maxRecDepth 100000 in
theorem Xyp {c:Int} (u v H:Value) (w:World) (hc:c≠0) (hu:u= .nilIface∨∃t x,u= .iface t x) (hv:Kf w c v):
  Calls Tryz.prog 120 #[u,v,H] w fun e w'=>e= .returned v∧w'=w:=by
 obtain ⟨te,xe,rfl,hr⟩:=hv
 clear hr
 rcases hu with rfl|⟨t,x,rfl⟩
 all_goals
  go_enter Tryz.func120,Tryz.ntmps120
  go_wp2_with fail
  go_ret
  exact ⟨rfl,rfl⟩
set_option maxRecDepth 100000 in
theorem Xvj {B Z E O D:Nat} {fv:Value} {fs:List FN} {H:FuncId} {caps:Array Value} {h:Yc} {w:World} {st:Xt} {ns:List VN} {x:Value} (hh:HandOk B Z E O D fv fs w H caps h) (hst:St B Z E O fv fs st w) (hx:Rep w ns x) (hD:st.1≤D):
  Calls Tryz.prog 120 #[x, .nilIface, .func (.func H) #[] caps] w (Yz B Z E O fv fs (h ns st) w):=by
 have HH:=Xa hh
 have HST:=Xa hst
 have HX:=Xa hx
 obtain ⟨ty,y,rfl⟩:=hx.iface
 obtain ⟨R,hR⟩:∃R,h ns st=R:=⟨_,rfl⟩
 have HR:=Xa hR
 rw[hR]
 clear hh hst hx hR
 go_enter Tryz.func120,Tryz.ntmps120
 go_wp2_with fail
 rw[HH.out.enter,Oper.upon_enter]
 refine (HH.out.says w (FrH.refl _ _ _ _) st _ ns hD HST.out HX.out).mono ?_
 rintro e w1 ⟨⟨v,rfl,hev⟩,hf,hs⟩
 rw[HR.out] at hev hs
 have HEV:=Xa hev
 have HF:=Xa hf
 have HS:=Xa hs
 clear hev hf hs
 go_wp2_with fail
 go_ret
 exact ⟨⟨_,rfl,HEV.out⟩,HF.out,HS.out⟩
set_option maxRecDepth 100000 in
theorem Gz {B Z E O D:Nat} {fv:Value} {fs:List FN} {H:FuncId} {caps:Array Value} {h:Yc} {w:World} {st:Xt} {l:List (List VN)} {it:Value} (hh:HandOk B Z E O D fv fs w H caps h) (hst:St B Z E O fv fs st w) (hit:ItemsRep w it l) (hD:st.1≤D):
  Calls Tryz.prog 141 #[it, .func (.func H) #[] caps] w (Yz B Z E O fv fs (Xo h l st) w):=by
 have HH:=Xa hh
 have HST:=Xa hst
 have HIT:=Xa hit
 obtain ⟨h0,a,c,rfl,hx⟩:=hit
 have HXX:=Xa hx
 obtain ⟨R,hR⟩:∃R,Xo h l st=R:=⟨_,rfl⟩
 have HR:Hid (Xo h (l.drop 0) st=R):=by rw[Hid,List.drop_zero];exact hR
 have HEND:=Xa (Xr6 h l)
 have HSTEP:Hid (∀k,k<l.length→∀st,Xo h (l.drop k) st=if (h (Xl l k) st).1=0 then Xo h (l.drop (k+1)) (h (Xl l k) st).2 else h (Xl l k) st):=fun k hk st=>Xpr h hk st
 rw[hR]
 obtain ⟨M,hM⟩:∃M,l.length=M:=⟨_,rfl⟩
 rw[hM] at HEND HSTEP HXX h0⊢
 have HM:=Xa hM
 clear hh hst hx hR hM
 go_enter Tryz.func141,Tryz.ntmps141
 go_wp2_with fail
 go_loopw [6,7,10] (fun _ _ i wr=>∃(k:Nat) (sk:Xt),k≤M∧i= .int .i64 k∧Hid (sk.1≤D)∧Xo h (l.drop k) sk=R∧FrH Z E O w wr∧St B Z E O fv fs sk wr) (fun _ _ i _=>M-(intOf i).toNat)
 case atStart=>exact ⟨0,st,Nat.zero_le _,rfl,hD,HR.out,FrH.refl _ _ _ _,HST.out⟩
 case round=>
  obtain ⟨k,sk,hk,rfl,HSD,hrk,hf,hs⟩:=hrel
  have HRK:=Xa hrk
  have HF:=Xa hf
  have HS:=Xa hs
  clear hrk hf hs
  by_cases hlt:k<M
  ·have hlt':(k:Int)<(M:Int):=by omega
   obtain ⟨b,rfl,hj⟩:=HXX.out (by omega)
   obtain ⟨t,x,hc,hrep⟩:=hj k hlt
   have hrd:=HST.out.reads HF.out
   have hck:=hrd.ifc _ _ _ _ hc
   have HREP:=Xa (hrep.reads hrd)
   have HST2:=Xa (HSTEP.out k hlt sk)
   have hle:=HH.out.le (Xl l k) sk hrep.1
   clear hj hc hrep hrd
   obtain ⟨G,hG⟩:∃G,h (Xl l k) sk=G:=⟨_,rfl⟩
   have HG:=Xa hG
   rw[hG] at HST2 hle
   have HLE:Hid (G.2.1≤D):=Nat.le_trans hle HSD.out
   clear hG hle
   go_wp2_with fail
   rw[HH.out.enter,Oper.upon_enter]
   refine (HH.out.says _ HF.out sk _ _ HSD.out HS.out HREP.out).mono ?_
   rintro e w1 ⟨⟨v,rfl,hev⟩,hf1,hs1⟩
   rw[HG.out] at hev hs1
   have HF1:=Xa (HF.out.trans hf1)
   have HS1:=Xa hs1
   clear hf1 hs1
   rcases hev with ⟨h1,rfl⟩|⟨h1,te,xe,rfl,hr⟩
   ·have HE:Hid (Xo h (l.drop (k+1)) G.2=R):=by rw[Hid,←HRK.out,HST2.out,if_pos h1]
    clear h1
    go_wp2_with fail
    go_roundw
    case rel=>exact ⟨k+1,G.2,by omega,by go_num,HLE,HE.out,HF1.out,HS1.out⟩
    case measure=>simp[intOf];omega
   ·have HE:Hid (G=R):=by rw[Hid,←HRK.out,HST2.out,if_neg h1]
    have HRR:=Xa hr
    have H1:=Xa h1
    clear hr h1
    go_wp2_with fail
    go_ret
    exact ⟨⟨_,rfl, .inr (by rw[←HE.out];exact ⟨H1.out,te,xe,rfl,HRR.out⟩)⟩,HF1.out,by rw[←HE.out];exact HS1.out⟩
  ·obtain rfl:k=M:=by omega
   have HE:Hid (R=(0,sk)):=by rw[Hid,←HRK.out];exact HEND.out sk
   go_wp2_with fail
   go_ret
   exact ⟨⟨_,rfl, .inl ⟨by rw[HE.out],rfl⟩⟩,HF.out,by rw[HE.out];exact HS.out⟩
def Xjd (B E:Nat) (fv:Value) (fs:List FN) (r:OcR) (w:World) (e:Ending) (w':World):Prop:=
 ∃it ev,e= .returned (.tuple #[it,ev])∧((r.c=0∧ev= .nilIface∧ItemsRep w' it r.l)∨(r.c≠0∧it= .slice none 0 0∧Kf w' r.c ev))∧ButE E w w'∧EvB B E fv fs r.fu w'
def Qr (B E:Nat) (fv:Value) (fs:List FN) (d:Nat):Prop:=∀(n:Nat) (v:Value) (ns:List VN) (fu:Nat) (w:World),n<fs.length→EvB B E fv fs fu w→Rep w ns v→fu≤d→
 Calls Tryz.prog 29 #[.pointer (some ⟨E,0,none⟩), .int .i64 n,v] w (Xjd B E fv fs (Xf fs d n ns fu) w)
set_option maxRecDepth 100000 in
theorem X1v {B Z E O D:Nat} {fv:Value} {fs:List FN} {d:Nat} (ho:Qr B E fv fs d) {H:FuncId} {caps:Array Value} {h:Yc} {w:World} {st:Xt} {n:Int} {ns:List VN} {v:Value} (hn:0≤n∧n.toNat<fs.length) (hh:HandOk B Z E O D fv fs w H caps h) (hst:St B Z E O fv fs st w) (hv:Rep w ns v) (hd:st.1≤d) (hD:st.1≤D) (hg:OcGood (Xf fs d)):
  Calls Tryz.prog 110 #[.pointer (some ⟨E,0,none⟩), .int .i64 n,v, .func (.func H) #[] caps] w (Yz B Z E O fv fs (Xq (Xf fs d) n ns h st) w):=by
 obtain ⟨m,rfl⟩:∃m:Nat,n=(m:Int):=⟨n.toNat,by omega⟩
 rw[Int.toNat_natCast] at hn
 have HO:=Xa ho
 have HH:=Xa hh
 have HST:=Xa hst
 have HV:=Xa hv
 have HN:=Xa hn.2
 obtain ⟨ty,y,rfl⟩:=hv.iface
 obtain ⟨r,hr⟩:∃r,Xf fs d m ns st.1=r:=⟨_,rfl⟩
 have HEM:Hid (Xq (Xf fs d) (m:Int) ns h st=if r.c=0 then Xo h r.l (r.fu,st.2) else (r.c,(r.fu,st.2))):=by unfold Hid Xq;rw[Int.toNat_natCast,hr]
 have HR:=Xa hr
 have HLE:Hid (r.fu≤D):=by have:=hg.le m ns st.1 hv.1;rw[hr] at this;exact Nat.le_trans this hD
 obtain ⟨Q,hQ⟩:∃Q,Xq (Xf fs d) (m:Int) ns h st=Q:=⟨_,rfl⟩
 rw[hQ] at HEM⊢
 clear ho hh hst hv hr hn hQ hg hD
 go_enter Tryz.func110,Tryz.ntmps110
 go_wp2_with fail
 refine (HO.out m _ ns st.1 w HN.out HST.out.ev HV.out hd).mono ?_
 rw[HR.out]
 rintro e w1 ⟨it,ev,rfl,hans,hb,he⟩
 have HB:=Xa hb
 have HS1:=Xa (HST.out.step hb he)
 have HF1:Hid (FrH Z E O w w1):=hb.frh HST.out.hZ
 clear hb he
 rcases hans with ⟨h1,rfl,hit⟩|⟨h1,rfl,te,xe,rfl,hrs⟩
 ·have HIT:=Xa hit
  obtain ⟨_,a,c,rfl,_⟩:=hit
  obtain ⟨M,hM⟩:∃M,r.l.length=M:=⟨_,rfl⟩
  have HL:=Xa h1
  have HQ:Hid (Xo h r.l (r.fu,st.2)=Q):=by rw[Hid,HEM.out,if_pos h1]
  have HC:=Xa (Gz (HH.out.on HF1.out) HS1.out HIT.out HLE.out)
  rw[HQ.out] at HC
  rw[hM] at HC⊢
  clear h1 hM
  go_wp2_with fail
  refine HC.out.mono ?_
  rintro e w2 ⟨⟨v2,rfl,hev⟩,hf2,hs2⟩
  have HF2:=Xa (HF1.out.trans hf2)
  have HS2:=Xa hs2
  have HEV:=Xa hev
  clear hf2 hs2 hev
  go_wp2_with fail
  go_ret
  exact ⟨⟨_,rfl,HEV.out⟩,HF2.out,HS2.out⟩
 ·have HQ:Hid (Q=(r.c,(r.fu,st.2))):=by rw[Hid,HEM.out,if_neg h1]
  have H1:=Xa h1
  have HRS:=Xa hrs
  clear h1 hrs
  obtain ⟨C,hC⟩:∃C,r.c=C:=⟨_,rfl⟩
  rw[hC] at H1 HRS HQ⊢
  clear hC
  go_wp2_with fail
  go_ret
  exact ⟨⟨_,rfl, .inr (by rw[HQ.out];exact ⟨H1.out,te,xe,rfl,HRS.out⟩)⟩,HF1.out,by rw[HQ.out];exact HS1.out⟩

theorem Xce (x:Value) (w:World):(Instr.typeAssert (.iface 160 x) 52 160 true).run Tryz.prog w= .ok (.tuple #[x, .bool true]) w:=by kernel_rfl
theorem Xcf (x:Value) (w:World):(Instr.typeAssert (.iface 113 x) 52 160 true).run Tryz.prog w= .ok (.tuple #[.agg #[], .bool false]) w:=by kernel_rfl
theorem Xc6 (x:Value) (w:World):(Instr.typeAssert (.iface 114 x) 52 160 true).run Tryz.prog w= .ok (.tuple #[.agg #[], .bool false]) w:=by kernel_rfl
theorem Xcg (x:Value) (w:World):(Instr.typeAssert (.iface 116 x) 52 160 true).run Tryz.prog w= .ok (.tuple #[.agg #[], .bool false]) w:=by kernel_rfl
theorem Xch (x:Value) (w:World):(Instr.typeAssert (.iface 158 x) 52 160 true).run Tryz.prog w= .ok (.tuple #[.agg #[], .bool false]) w:=by kernel_rfl
theorem Xc7 (x:Value) (w:World):(Instr.typeAssert (.iface 118 x) 52 160 true).run Tryz.prog w= .ok (.tuple #[.agg #[], .bool false]) w:=by kernel_rfl
theorem Xqs (x:Value) (w:World):(Instr.typeAssert (.iface 160 x) 52 113 true).run Tryz.prog w= .ok (.tuple #[.agg #[.int .i64 0], .bool false]) w:=by kernel_rfl
theorem Xqt (x:Value) (w:World):(Instr.typeAssert (.iface 113 x) 52 113 true).run Tryz.prog w= .ok (.tuple #[x, .bool true]) w:=by kernel_rfl
theorem Xsh (x:Value) (w:World):(Instr.typeAssert (.iface 114 x) 52 113 true).run Tryz.prog w= .ok (.tuple #[.agg #[.int .i64 0], .bool false]) w:=by kernel_rfl
theorem Xqu (x:Value) (w:World):(Instr.typeAssert (.iface 116 x) 52 113 true).run Tryz.prog w= .ok (.tuple #[.agg #[.int .i64 0], .bool false]) w:=by kernel_rfl
theorem Xqv (x:Value) (w:World):(Instr.typeAssert (.iface 158 x) 52 113 true).run Tryz.prog w= .ok (.tuple #[.agg #[.int .i64 0], .bool false]) w:=by kernel_rfl
theorem Xsi (x:Value) (w:World):(Instr.typeAssert (.iface 118 x) 52 113 true).run Tryz.prog w= .ok (.tuple #[.agg #[.int .i64 0], .bool false]) w:=by kernel_rfl
theorem Xf9 (x:Value) (w:World):(Instr.typeAssert (.iface 160 x) 52 158 true).run Tryz.prog w= .ok (.tuple #[.agg #[.slice none 0 0], .bool false]) w:=by kernel_rfl
theorem Xga (x:Value) (w:World):(Instr.typeAssert (.iface 113 x) 52 158 true).run Tryz.prog w= .ok (.tuple #[.agg #[.slice none 0 0], .bool false]) w:=by kernel_rfl
theorem Xhd (x:Value) (w:World):(Instr.typeAssert (.iface 114 x) 52 158 true).run Tryz.prog w= .ok (.tuple #[.agg #[.slice none 0 0], .bool false]) w:=by kernel_rfl
theorem Xgb (x:Value) (w:World):(Instr.typeAssert (.iface 116 x) 52 158 true).run Tryz.prog w= .ok (.tuple #[.agg #[.slice none 0 0], .bool false]) w:=by kernel_rfl
theorem Xgc (x:Value) (w:World):(Instr.typeAssert (.iface 158 x) 52 158 true).run Tryz.prog w= .ok (.tuple #[x, .bool true]) w:=by kernel_rfl
theorem Xhe (x:Value) (w:World):(Instr.typeAssert (.iface 118 x) 52 158 true).run Tryz.prog w= .ok (.tuple #[.agg #[.slice none 0 0], .bool false]) w:=by kernel_rfl
theorem Xhf (x:Value) (w:World):(Instr.typeAssert (.iface 160 x) 52 118 true).run Tryz.prog w= .ok (.tuple #[.agg #[.slice none 0 0, .slice none 0 0], .bool false]) w:=by kernel_rfl
theorem Xhg (x:Value) (w:World):(Instr.typeAssert (.iface 113 x) 52 118 true).run Tryz.prog w= .ok (.tuple #[.agg #[.slice none 0 0, .slice none 0 0], .bool false]) w:=by kernel_rfl
theorem Xjt (x:Value) (w:World):(Instr.typeAssert (.iface 114 x) 52 118 true).run Tryz.prog w= .ok (.tuple #[.agg #[.slice none 0 0, .slice none 0 0], .bool false]) w:=by kernel_rfl
theorem Xhh (x:Value) (w:World):(Instr.typeAssert (.iface 116 x) 52 118 true).run Tryz.prog w= .ok (.tuple #[.agg #[.slice none 0 0, .slice none 0 0], .bool false]) w:=by kernel_rfl
theorem Xhi (x:Value) (w:World):(Instr.typeAssert (.iface 158 x) 52 118 true).run Tryz.prog w= .ok (.tuple #[.agg #[.slice none 0 0, .slice none 0 0], .bool false]) w:=by kernel_rfl
theorem Xju (x:Value) (w:World):(Instr.typeAssert (.iface 118 x) 52 118 true).run Tryz.prog w= .ok (.tuple #[x, .bool true]) w:=by kernel_rfl
theorem Rep.cases {w:World} {ns:List VN} {x:Value} (h:Rep w ns x):
  ((Xd ns).kind=1∧x= .iface 160 (.agg #[]))∨((Xd ns).kind=2∧x= .iface 113 (.agg #[.int .i64 (Xd ns).n]))∨((Xd ns).kind=3∧x= .iface 114 (.agg #[.int .i64 (Xd ns).n]))∨((Xd ns).kind=4∧x= .iface 116 (.agg #[.string (Xd ns).s]))∨
  ((Xd ns).kind=5∧∃it,x= .iface 158 (.agg #[it])∧ItemsRep w it (Ys ns))∨((Xd ns).kind=6∧∃ks it,x= .iface 118 (.agg #[ks,it])∧StrsAt w.heap.size w ks (Xd ns).keys∧ItemsRep w it (Ys ns)):=by
 obtain ⟨ok,ht⟩:=h
 have hlen:((Xe ns).map fun k=>Xw ns 79 k.toNat).length=(Xe ns).length:=by simp
 have hpl:(Ys ns).length=(Xe ns).length:=by simp[Ys]
 have hit:∀it,Ji w.heap.size w it ((Xe ns).map fun k=>Xw ns 79 k.toNat).length (fun j u=>TreeAt w.heap.size w 79 (Yl ((Xe ns).map fun k=>Xw ns 79 k.toNat) j) u)→ItemsRep w it (Ys ns):=by
  rintro it ⟨h0,a,c,e,hx⟩
  rw[hlen] at h0 e hx
  refine ⟨by rw[hpl];exact h0,a,c,by rw[hpl];exact e,fun hp=> ?_⟩
  rw[hpl] at hp⊢
  obtain ⟨b,ea,_,hj⟩:=hx hp
  refine ⟨b,ea,fun j hlt=> ?_⟩
  obtain ⟨t,y,hc,hv⟩:=hj j hlt
  refine ⟨t,y,hc, ?_⟩
  have hv':TreeAt w.heap.size w 79 (Yl ((Xe ns).map fun k=>Xw ns 79 k.toNat) j) (.iface t y):=hv
  rw[X3b ns hlt] at hv'
  have e2:Xl (Ys ns) j=PL ns j:=by
   unfold Xl Ys
   rw[List.getD_eq_getElem?_getD,List.getElem?_map,List.getElem?_range hlt]
   rfl
  rw[e2]
  exact Rep.of hv' (X4r ok hlt) (Xgl ok hlt)
 rw[Xsy] at ht
 rcases ht with ⟨k,_,_,_,_,e⟩|⟨k,_,_,_,e⟩|⟨k,_,_,_,e⟩|⟨k,_,_,_,e⟩|⟨k,_,_,_,it,e,hi⟩|⟨k,_,_,ks,it,e,hs,hi⟩
 ·exact .inl ⟨k,e⟩
 ·exact .inr (.inl ⟨k,e⟩)
 ·exact .inr (.inr (.inl ⟨k,e⟩))
 ·exact .inr (.inr (.inr (.inl ⟨k,e⟩)))
 ·exact .inr (.inr (.inr (.inr (.inl ⟨k,it,e,hit it hi⟩))))
 ·exact .inr (.inr (.inr (.inr (.inr ⟨k,ks,it,e,hs,hit it hi⟩))))
theorem Xci (k n:Int) (s:ByteArray):Yi 1 (.mk k n s [] []) 0=Xu k n s:=rfl
theorem Xcj (w:World):Rep w Jj (.iface 160 (.agg #[])):=
 Rep.of (f:=1) (t:= .mk 1 0 ByteArray.empty [] []) (.inl ⟨rfl,rfl,rfl,rfl,rfl,rfl⟩) (Xci _ _ _) Xbq
theorem Xib (b:Bool) (w:World):Rep w (Qd b) (.iface 113 (.agg #[.int .i64 (if b=true then 1 else 0)])):=
 Rep.of (f:=1) (t:= .mk 2 (if b=true then 1 else 0) ByteArray.empty [] []) (.inr (.inl ⟨rfl,rfl,rfl,rfl,rfl⟩)) (Xci _ _ _) (Xgk b)
theorem Rep.below {w w':World} {ns:List VN} {x:Value} (h:Rep w ns x) (hb:Below w.heap.size w w'):Rep w' ns x:=⟨h.1,TreeAt.keep (B':=w'.heap.size) (fun k hk=>hb.block k hk) hb.size h.2⟩
theorem Xhj (b:Bool) (w:World):Calls Tryz.prog 158 #[.bool b] w fun e w'=>e= .returned (.iface 113 (.agg #[.int .i64 (if b=true then 1 else 0)]))∧w'=w:=by
 cases b
 all_goals
  go_enter Tryz.func158,Tryz.ntmps158
  go_wp2_with fail
  go_ret
  exact ⟨rfl,rfl⟩
set_option maxRecDepth 100000 in
theorem Wm (ns:List VN) (x:Value) (w:World) (h:Rep w ns x):Calls Tryz.prog 146 #[x] w fun e w'=>e= .returned (.bool (Xx ns))∧Below w.heap.size w w':=by
 have z_null_null:=Xce
 have z_bool_null:=Xcf
 have z_int_null:=Xc6
 have z_text_null:=Xcg
 have z_list_null:=Xch
 have z_map_null:=Xc7
 have z_null_bool:=Xqs
 have z_bool_bool:=Xqt
 have z_int_bool:=Xsh
 have z_text_bool:=Xqu
 have z_list_bool:=Xqv
 have z_map_bool:=Xsi
 rcases h.cases with ⟨k,rfl⟩|⟨k,rfl⟩|⟨k,rfl⟩|⟨k,rfl⟩|⟨k,it,rfl,hi⟩|⟨k,ks,it,rfl,hs,hi⟩
 ·have HT:Hid (Xx ns=false):=by unfold Hid Xx;simp[k]
  clear h k
  go_enter Tryz.func146,Tryz.ntmps146
  go_wp2_with fail
  go_ret
  exact ⟨Xn HT.out.symm,(Below.refl _ _).alloc (Nat.le_refl _) _⟩
 ·have HT:Hid (Xx ns=decide ((Xd ns).n=1)):=by unfold Hid Xx;simp[k]
  obtain ⟨N,hN⟩:∃N,(Xd ns).n=N:=⟨_,rfl⟩
  rw[hN] at HT⊢
  clear h k hN
  go_enter Tryz.func146,Tryz.ntmps146
  go_wp2_with fail
  go_ret
  exact ⟨Xn (by rw[HT.out];rfl),(Below.refl _ _).alloc (Nat.le_refl _) _⟩
 ·have HT:Hid (Xx ns=true):=by unfold Hid Xx;simp[k]
  clear h k
  go_enter Tryz.func146,Tryz.ntmps146
  go_wp2_with fail
  go_ret
  exact ⟨Xn HT.out.symm,Below.refl _ _⟩
 ·have HT:Hid (Xx ns=true):=by unfold Hid Xx;simp[k]
  clear h k
  go_enter Tryz.func146,Tryz.ntmps146
  go_wp2_with fail
  go_ret
  exact ⟨Xn HT.out.symm,Below.refl _ _⟩
 ·have HT:Hid (Xx ns=true):=by unfold Hid Xx;simp[k]
  obtain ⟨_,a,c,rfl,_⟩:=hi
  clear h k
  go_enter Tryz.func146,Tryz.ntmps146
  go_wp2_with fail
  go_ret
  exact ⟨Xn HT.out.symm,Below.refl _ _⟩
 ·have HT:Hid (Xx ns=true):=by unfold Hid Xx;simp[k]
  obtain ⟨_,a,c,rfl,_⟩:=hi
  obtain ⟨_,_,a',c',rfl,_⟩:=hs
  clear h k
  go_enter Tryz.func146,Tryz.ntmps146
  go_wp2_with fail
  go_ret
  exact ⟨Xn HT.out.symm,Below.refl _ _⟩
def Qa (r:Int×List VN) (w:World) (e:Ending) (w':World):Prop:=
 ((r.1=0∧∃x,e= .returned (.tuple #[x, .nilIface])∧Rep w' r.2 x)∨(r.1≠0∧∃v,e= .returned (.tuple #[.nilIface,v])∧Kf w' r.1 v))∧Below w.heap.size w w'
theorem Xck {w:World} {it:Value} {l:List (List VN)} (h:ItemsRep w it l) {j:Nat} (hj:j<l.length):∃b c t x,it= .slice (some ⟨b,0,none⟩) l.length c∧w.cell? ⟨b,j,none⟩=some (.iface t x)∧Rep w (Xl l j) (.iface t x):=by
 obtain ⟨_,a,c,rfl,hx⟩:=h
 obtain ⟨b,rfl,hc⟩:=hx (by omega)
 obtain ⟨t,x,h1,h2⟩:=hc j hj
 exact ⟨b,c,t,x,rfl,h1,h2⟩
theorem Qv (ns:List VN):(Ys ns).length=(Xe ns).length:=by simp[Ys]
theorem Xic (ns:List VN) {j:Nat} (h:j<(Xe ns).length):Xl (Ys ns) j=PL ns j:=by
 unfold Xl Ys
 rw[List.getD_eq_getElem?_getD,List.getElem?_map,List.getElem?_range h]
 rfl
set_option maxRecDepth 100000 in
theorem Xzb (ns:List VN) (x:Value) (key:ByteArray) (w:World) (h:Rep w ns x) (hE:Errs w) (hkey:key.size≤1000000):Calls Tryz.prog 154 #[x, .string key] w (Qa (Jb ns key) w):=by
 have z_null_null:=Xce
 have z_bool_null:=Xcf
 have z_int_null:=Xc6
 have z_text_null:=Xcg
 have z_list_null:=Xch
 have z_map_null:=Xc7
 have z_null_map:=Xhf
 have z_bool_map:=Xhg
 have z_int_map:=Xjt
 have z_text_map:=Xhh
 have z_list_map:=Xhi
 have z_map_map:=Xju
 obtain ⟨R,hR⟩:∃R,Jb ns key=R:=⟨_,rfl⟩
 have HE:=Xa hE
 have HH:=Xa h
 clear hE
 have no:∀w1,Below w.heap.size w w1→∀e,R=(2,[])→∀v,Kf w1 2 v→e= .returned (.tuple #[.nilIface,v])→Qa R w e w1:=fun w1 hb e hr v hv he=>by
  subst hr
  exact ⟨.inr ⟨(show (2:Int)≠0 by decide),v,he,hv⟩,hb⟩
 have NO:=Xa no
 rw[hR]
 clear no
 rcases h.cases with ⟨k,rfl⟩|⟨k,rfl⟩|⟨k,rfl⟩|⟨k,rfl⟩|⟨k,it,rfl,hi⟩|⟨k,ks,it,rfl,hs,hi⟩
 case inr.inr.inr.inr.inr=>
  have p:=Xp h.1
  have hmk:=Y7 h.1 k
  have hrise:Xid (Xd ns).keys:=Jh hmk.2
  by_cases hk:Y5 (Xd ns).keys key=true
  ·have hlt:=Xkc hk
   have HQ:Hid (R=(0,PL ns (Z4 (Xd ns).keys key))):=by rw[Hid,←hR];unfold Jb;rw[if_neg (by omega),if_pos k,if_pos hk]
   obtain ⟨b,cap,t,y,rfl,hc,hrep⟩:=Xck hi (j:=Z4 (Xd ns).keys key) (by rw[Qv,←hmk.1];exact hlt)
   rw[Xic ns (by rw[←hmk.1];exact hlt)] at hrep
   have HREP:=Xa hrep
   have hltp:Z4 (Xd ns).keys key<(Ys ns).length:=by rw[Qv,←hmk.1];exact hlt
   obtain ⟨M,hM⟩:∃M,(Ys ns).length=M:=⟨_,rfl⟩
   rw[hM] at hltp⊢
   have hM80:M≤1000:=by
    have:=J3 h.1
    have h2:(Xe ns).length≤80:=by have:=p.2.2.2 (ns.length-1) (by omega);unfold Xe;omega
    rw[Qv] at hM
    omega
   obtain ⟨Q,hQ⟩:∃Q,Z4 (Xd ns).keys key=Q:=⟨_,rfl⟩
   have HS:=Xa hs
   have HRI:=Xa hrise
   have HHK:=Xa hk
   have HQQ:=Xa hQ
   have hkl:(Xd ns).keys.length≤1048576:=by rw[hmk.1];rw[Qv] at hM;omega
   have HKL:=Xa hkl
   rw[hQ] at hltp hc
   have hblt:=X8 hc
   obtain ⟨_,_,a',c',rfl,_⟩:=hs
   have HBX:Hid (Below w.heap.size w (w.alloc (.cells #[.slice a' (Xd ns).keys.length c', .slice (some ⟨b,0,none⟩) M cap] 118))):=(Below.refl _ _).alloc (Nat.le_refl _) _
   clear h k hi p hmk hrise hk hlt hrep hM hkl hR hQ
   go_enter Tryz.func154,Tryz.ntmps154
   go_wp2_with fail
   refine (Xef w.heap.size _ (Xd ns).keys key _ (HS.out.below HBX.out) HRI.out HKL.out).mono ?_
   rintro e w1 ⟨rfl,rfl⟩
   rw[HHK.out,HQQ.out]
   go_wp2_with fail
   go_ret2
   exact ⟨.inl ⟨by rw[HQ.out],_,rfl,by rw[HQ.out];exact HREP.out.below HBX.out⟩,HBX.out⟩
  ·have HQ:Hid (R=(0,Jj)):=by rw[Hid,←hR];unfold Jb;rw[if_neg (by omega),if_pos k,if_neg hk]
   have hk':Y5 (Xd ns).keys key=false:=by simpa using hk
   have hkl:(Xd ns).keys.length≤1048576:=by
    have h2:(Xe ns).length≤80:=by have:=p.2.2.2 (ns.length-1) (by omega);unfold Xe;omega
    rw[hmk.1];omega
   obtain ⟨_,ai,ci,rfl,_⟩:=hi
   obtain ⟨M,hM⟩:∃M,(Ys ns).length=M:=⟨_,rfl⟩
   rw[hM]
   have HS:=Xa hs
   have HRI:=Xa hrise
   have HHK:=Xa hk'
   have HKL:=Xa hkl
   obtain ⟨_,_,a',c',rfl,_⟩:=hs
   have HBX:Hid (Below w.heap.size w (w.alloc (.cells #[.slice a' (Xd ns).keys.length c', .slice ai M ci] 118))):=(Below.refl _ _).alloc (Nat.le_refl _) _
   obtain ⟨Q,hQ⟩:∃Q,Z4 (Xd ns).keys key=Q:=⟨_,rfl⟩
   have HQQ:=Xa hQ
   clear h k p hmk hrise hk hk' hM hkl hR hQ
   go_enter Tryz.func154,Tryz.ntmps154
   go_wp2_with fail
   refine (Xef w.heap.size _ (Xd ns).keys key _ (HS.out.below HBX.out) HRI.out HKL.out).mono ?_
   rintro e w1 ⟨rfl,rfl⟩
   rw[HHK.out,HQQ.out]
   go_wp2_with fail
   go_ret2
   exact ⟨.inl ⟨by rw[HQ.out],_,rfl,by rw[HQ.out];exact Xcj _⟩,HBX.out⟩
 case inl=>
  have HQ:Hid (R=(0,Jj)):=by rw[Hid,←hR];unfold Jb;rw[if_pos k]
  clear h k hR
  go_enter Tryz.func154,Tryz.ntmps154
  go_wp2_with fail
  go_ret2
  exact ⟨.inl ⟨by rw[HQ.out],_,rfl,by rw[HQ.out];exact Xcj _⟩,(Below.refl _ _).alloc (Nat.le_refl _) _⟩
 case inr.inr.inr.inr.inl=>
  have HQ:Hid (R=(2,[])):=by rw[Hid,←hR];unfold Jb;rw[if_neg (by omega),if_neg (by omega)]
  obtain ⟨_,ai,ci,rfl,_⟩:=hi
  obtain ⟨M,hM⟩:∃M,(Ys ns).length=M:=⟨_,rfl⟩
  rw[hM]
  clear h k hR hM
  go_enter Tryz.func154,Tryz.ntmps154
  go_wp2_with fail
  refine (Zy _ HE.out).mono ?_
  rintro e w1 ⟨⟨v,rfl,te,xe,rfl,hrs⟩,rfl⟩
  have HRS:=Xa hrs
  clear hrs
  go_wp2_with fail
  go_ret2
  exact NO.out _ (Below.refl _ _) _ HQ.out _ ⟨te,xe,rfl,HRS.out⟩ rfl
 all_goals
  have HQ:Hid (R=(2,[])):=by rw[Hid,←hR];unfold Jb;rw[if_neg (by omega),if_neg (by omega)]
  clear h k hR
  go_enter Tryz.func154,Tryz.ntmps154
  go_wp2_with fail
  refine (Zy _ HE.out).mono ?_
  rintro e w1 ⟨⟨v,rfl,te,xe,rfl,hrs⟩,rfl⟩
  have HRS:=Xa hrs
  clear hrs
  go_wp2_with fail
  go_ret2
  exact NO.out _ (Below.refl _ _) _ HQ.out _ ⟨te,xe,rfl,HRS.out⟩ rfl

set_option maxRecDepth 100000 in
theorem Xrt (ns:List VN) (x:Value) (p:Int) (w:World) (h:Rep w ns x) (hE:Errs w) (hp1: -1000000≤p) (hp2:p≤1000000):Calls Tryz.prog 155 #[x, .int .i64 p] w (Qa (atR ns p) w):=by
 have z_null_null:=Xce
 have z_bool_null:=Xcf
 have z_int_null:=Xc6
 have z_text_null:=Xcg
 have z_list_null:=Xch
 have z_map_null:=Xc7
 have z_null_list:=Xf9
 have z_bool_list:=Xga
 have z_int_list:=Xhd
 have z_text_list:=Xgb
 have z_list_list:=Xgc
 have z_map_list:=Xhe
 obtain ⟨R,hR⟩:∃R,atR ns p=R:=⟨_,rfl⟩
 have HE:=Xa hE
 clear hE
 have no:∀w1,Below w.heap.size w w1→∀e,R=(2,[])→∀v,Kf w1 2 v→e= .returned (.tuple #[.nilIface,v])→Qa R w e w1:=fun w1 hb e hr v hv he=>by
  subst hr
  exact ⟨.inr ⟨(show (2:Int)≠0 by decide),v,he,hv⟩,hb⟩
 have NO:=Xa no
 rw[hR]
 clear no
 rcases h.cases with ⟨k,rfl⟩|⟨k,rfl⟩|⟨k,rfl⟩|⟨k,rfl⟩|⟨k,it,rfl,hi⟩|⟨k,ks,it,rfl,hs,hi⟩
 case inr.inr.inr.inr.inl=>
  have h80:(Xe ns).length≤80:=by
   have p:=Xp h.1
   have:=p.2.2.2 (ns.length-1) (by omega);unfold Xe;omega
  obtain ⟨M,hM⟩:∃M,(Ys ns).length=M:=⟨_,rfl⟩
  have hMn:(Xe ns).length=M:=by rw[←hM,Qv]
  have hM80:(M:Int)≤80:=by omega
  obtain ⟨_,a0,cap,rfl,_⟩:=id hi
  have HBZ:Hid (Below w.heap.size w (w.alloc (.cells #[.slice a0 M cap] 158))):=(Below.refl _ _).alloc (Nat.le_refl _) _
  by_cases hneg:p<0
  ·have hpl:Qe ns p=p+((Xe ns).length:Int):=by unfold Qe;rw[if_pos hneg]
   by_cases hq:0≤p+((Xe ns).length:Int)
   ·obtain ⟨Q,hQ⟩:∃Q:Nat,p+((Xe ns).length:Int)=(Q:Int):=⟨(p+((Xe ns).length:Int)).toNat,by omega⟩
    have hQn:Q<(Xe ns).length:=by omega
    have HQ:Hid (R=(0,PL ns Q)):=by rw[Hid,←hR];unfold atR;rw[if_neg (by omega),if_pos k,hpl,hQ,if_pos ⟨by omega,by omega⟩,Int.toNat_natCast]
    obtain ⟨b,cap,t,y,e,hc,hrep⟩:=Xck hi (j:=Q) (by rw[Qv];exact hQn)
    injection e with e1 e2 e3
    subst e1 e3
    rw[Xic ns hQn] at hrep
    have HREP:=Xa hrep
    have hblt:=X8 hc
    have HBX:Hid (Below w.heap.size w (w.alloc (.cells #[.slice (some ⟨b,0,none⟩) M cap] 158))):=(Below.refl _ _).alloc (Nat.le_refl _) _
    have hQM:Q<M:=by rw[←hM,Qv];exact hQn
    rw[hM]
    rw[hMn] at hQ hq
    clear h k hi hrep hR hpl hQn hM hMn
    have d2:0≤(Q:Int):=by omega
    have d3:(Q:Int)<(M:Int):=by omega
    have d7:(Q:Int)≤80:=by omega
    have d4:p+(M:Int)=(Q:Int):=hQ
    clear hQ
    go_enter Tryz.func155,Tryz.ntmps155
    go_wp2_with fail
    go_ret2
    exact ⟨.inl ⟨by rw[HQ.out],_,rfl,by rw[HQ.out];exact HREP.out.below HBX.out⟩,HBX.out⟩
   ·have HQ:Hid (R=(0,Jj)):=by rw[Hid,←hR];unfold atR;rw[if_neg (by omega),if_pos k,hpl,if_neg (fun g=>hq g.1)]
    rw[hM]
    rw[hMn] at hq
    have d2:decide (0≤p+(M:Int))=false:=by simpa using hq
    clear h k hi hR hpl hM hMn
    go_enter Tryz.func155,Tryz.ntmps155
    go_wp2_with fail
    go_ret2
    exact ⟨.inl ⟨by rw[HQ.out],_,rfl,by rw[HQ.out];exact Xcj _⟩,HBZ.out⟩
  ·have hpl:Qe ns p=p:=by unfold Qe;rw[if_neg hneg]
   by_cases hq:p<((Xe ns).length:Int)
   ·obtain ⟨Q,hQ⟩:∃Q:Nat,p=(Q:Int):=⟨p.toNat,by omega⟩
    have hQn:Q<(Xe ns).length:=by omega
    have HQ:Hid (R=(0,PL ns Q)):=by rw[Hid,←hR];unfold atR;rw[if_neg (by omega),if_pos k,hpl,hQ,if_pos ⟨by omega,by omega⟩,Int.toNat_natCast]
    obtain ⟨b,cap,t,y,e,hc,hrep⟩:=Xck hi (j:=Q) (by rw[Qv];exact hQn)
    injection e with e1 e2 e3
    subst e1 e3
    rw[Xic ns hQn] at hrep
    have HREP:=Xa hrep
    have hblt:=X8 hc
    have HBX:Hid (Below w.heap.size w (w.alloc (.cells #[.slice (some ⟨b,0,none⟩) M cap] 158))):=(Below.refl _ _).alloc (Nat.le_refl _) _
    have hQM:Q<M:=by rw[←hM,Qv];exact hQn
    rw[hM]
    rw[hMn] at hq
    subst hQ
    clear h k hi hrep hR hpl hQn hM hMn
    have d2:0≤(Q:Int):=by omega
    have d3:(Q:Int)<(M:Int):=by omega
    have d7:(Q:Int)≤80:=by omega
    have d5:¬(Q:Int)<0:=by omega
    go_enter Tryz.func155,Tryz.ntmps155
    go_wp2_with fail
    go_ret2
    exact ⟨.inl ⟨by rw[HQ.out],_,rfl,by rw[HQ.out];exact HREP.out.below HBX.out⟩,HBX.out⟩
   ·have HQ:Hid (R=(0,Jj)):=by rw[Hid,←hR];unfold atR;rw[if_neg (by omega),if_pos k,hpl,if_neg (fun g=>hq g.2)]
    rw[hM]
    rw[hMn] at hq
    have d2:0≤p:=by omega
    have d3:decide (p<(M:Int))=false:=by simpa using hq
    clear h k hi hR hpl hM hMn
    go_enter Tryz.func155,Tryz.ntmps155
    go_wp2_with fail
    go_ret2
    exact ⟨.inl ⟨by rw[HQ.out],_,rfl,by rw[HQ.out];exact Xcj _⟩,HBZ.out⟩
 case inl=>
  have HQ:Hid (R=(0,Jj)):=by rw[Hid,←hR];unfold atR;rw[if_pos k]
  clear h k hR
  go_enter Tryz.func155,Tryz.ntmps155
  go_wp2_with fail
  go_ret2
  exact ⟨.inl ⟨by rw[HQ.out],_,rfl,by rw[HQ.out];exact Xcj _⟩,(Below.refl _ _).alloc (Nat.le_refl _) _⟩
 case inr.inr.inr.inr.inr=>
  have HQ:Hid (R=(2,[])):=by rw[Hid,←hR];unfold atR;rw[if_neg (by omega),if_neg (by omega)]
  obtain ⟨_,ai,ci,rfl,_⟩:=hi
  obtain ⟨_,_,a',c',rfl,_⟩:=hs
  obtain ⟨M,hM⟩:∃M,(Ys ns).length=M:=⟨_,rfl⟩
  rw[hM]
  clear h k hR hM
  go_enter Tryz.func155,Tryz.ntmps155
  go_wp2_with fail
  refine (Zy _ HE.out).mono ?_
  rintro e w1 ⟨⟨v,rfl,te,xe,rfl,hrs⟩,rfl⟩
  have HRS:=Xa hrs
  clear hrs
  go_wp2_with fail
  go_ret2
  exact NO.out _ (Below.refl _ _) _ HQ.out _ ⟨te,xe,rfl,HRS.out⟩ rfl
 all_goals
  have HQ:Hid (R=(2,[])):=by rw[Hid,←hR];unfold atR;rw[if_neg (by omega),if_neg (by omega)]
  clear h k hR
  go_enter Tryz.func155,Tryz.ntmps155
  go_wp2_with fail
  refine (Zy _ HE.out).mono ?_
  rintro e w1 ⟨⟨v,rfl,te,xe,rfl,hrs⟩,rfl⟩
  have HRS:=Xa hrs
  clear hrs
  go_wp2_with fail
  go_ret2
  exact NO.out _ (Below.refl _ _) _ HQ.out _ ⟨te,xe,rfl,HRS.out⟩ rfl
theorem Xru (ns:List VN) (x:Value) (w:World) (h:Rep w ns x) (hE:Errs w):Calls Tryz.prog 156 #[x] w (Qa (Xa9 ns,G9 ns) w):=by
 have hb:=Xyh h.1
 have ht:=h.2
 rw[Xsy] at ht
 refine (Xpm 79 (Xd ns) _ x w ht (by simp[Xe,Xd]) hE hb.1 hb.2).mono ?_
 rintro e w1 ⟨ha,hbel⟩
 refine ⟨?_,hbel⟩
 have e1:Xa9 ns=Xiy (Zn (Xd ns)):=by unfold Xa9;rw[if_pos h.1]
 have e2:G9 ns=Xm0 (Zn (Xd ns)):=by unfold G9;rw[if_pos h.1]
 rw[e1,e2]
 cases hl:Zn (Xd ns) with
 | none =>
  rw[hl] at ha
  obtain ⟨v,e,hv⟩:=ha
  exact .inr ⟨(show (2:Int)≠0 by decide),v,e,hv⟩
 | some n =>
  rw[hl] at ha
  have hr:=Xlk h.1 hl
  exact .inl ⟨rfl,_,ha,Rep.of (f:=1) (t:= .mk 3 n ByteArray.empty [] []) (.inr (.inr (.inl ⟨rfl,rfl,rfl,rfl,rfl⟩))) (Xci _ _ _) (Xiw (by omega) hr.2)⟩

def Xoc (B E:Nat) (fv:Value) (fs:List FN) (d:Nat):Prop:=∀(Z O n:Nat) (x:FN) (kc kn ki v:Value) (ns:List VN) (H:FuncId) (caps:Array Value) (h:Yc) (st:Xt) (w:World),n<fs.length→Xr fs n=x→FNodeIn B w x kc kn ki→HandOk B Z E O d fv fs w H caps h→St B Z E O fv fs st w→Rep w ns v→st.1≤d→
 Calls Tryz.prog 63 #[.pointer (some ⟨E,0,none⟩), .agg #[.int .i64 x.kind, .string x.name, .int .i64 x.place,kc,kn,ki],v, .func (.func H) #[] caps] w (Yz B Z E O fv fs (evM (Xf fs d) x ns h st) w)
theorem Xul {Z E O:Nat} {w:World} {outs:List (List VN)} {sv:Value} {xs:List Value} (h:OutsAt Z E O w outs sv xs):ItemsRep w sv outs:=by
 have hl:=h.len
 refine ⟨by have:=h.few;omega, ?_⟩
 rcases h.row with ⟨rfl,rfl⟩|⟨g,cap,rfl,hg,hh,hnc,_⟩
 ·have e:outs.length=0:=by simpa using hl.symm
  exact ⟨none,0,by rw[e],fun hp=>absurd hp (by omega)⟩
 ·refine ⟨some ⟨g,0,none⟩,cap,by rw[hl],fun hp=>⟨g,rfl,fun j hj=> ?_⟩⟩
  have hr:=h.rep j hj
  obtain ⟨t,y,e⟩:=hr.iface
  refine ⟨t,y, ?_,by rw[←e];exact hr⟩
  rw[Xg hh,List.getElem?_toArray,List.getElem?_append_left (by omega)]
  rw[List.getD_eq_getElem?_getD,List.getElem?_eq_getElem (show j<xs.length by omega)] at e
  rw[List.getElem?_eq_getElem (show j<xs.length by omega)]
  exact congrArg some e
theorem X0k {B E:Nat} {fv:Value} {fs:List FN} {fu:Nat} {w:World} (h:EvB B E fv fs fu w) (k:Nat):EvB B E fv fs k (w.setCell ⟨E,1,none⟩ (.int .i64 (k:Int)))∧ButE E w (w.setCell ⟨E,1,none⟩ (.int .i64 (k:Int))):=by
 have hb:ButE E w (w.setCell ⟨E,1,none⟩ (.int .i64 (k:Int))):=⟨rfl,rfl,rfl,by simp,fun c _ hc=>Below.heap_setCell _ _ _ _ hc⟩
 have hB:=h.errs.le
 have hbel:=hb.below h.hBE hB
 refine ⟨⟨?_,h.nodes.below hbel,h.hBE,h.errs.below hbel⟩,hb⟩
 have:=Xct (i:=1) h.blk (.int .i64 (k:Int))
 simpa using this
theorem X0l {B E:Nat} {fv:Value} {fs:List FN} {fu k:Nat} {w W1:World} (h:EvB B E fv fs fu w) (he:EvB B E fv fs k W1) (hb:ButE E w W1) (hz:W1.heap.size=w.heap.size):
  St B w.heap.size E w.heap.size fv fs (k,[]) (W1.alloc (.cells #[.slice none 0 0] 58))∧ButE E w (W1.alloc (.cells #[.slice none 0 0] 58)):=by
 have hal:Below W1.heap.size W1 (W1.alloc (.cells #[.slice none 0 0] 58)):=(Below.refl _ _).alloc (Nat.le_refl _) _
 refine ⟨⟨he.below hal,⟨.slice none 0 0,[], ?_, .inl ⟨rfl,rfl⟩,rfl,fun j hj=>absurd hj (by simp),Nat.le_refl _,by simp⟩,h.lt,by simp;omega⟩,hb.trans (.of_below hal)⟩
 rw[←hz]
 exact heap_alloc_new W1 _
theorem X0m (fs:List FN) (d n:Nat) (ns:List VN):Xf fs d n ns 0=⟨4,[],0⟩:=by
 cases d with
 |zero=>rfl
 |succ d=>rw[Xf,if_pos rfl]
theorem X0n (fs:List FN) (d n k:Nat) (ns:List VN):Xf fs (d+1) n ns (k+1)=if (evM (Xf fs d) (Xr fs n) ns Xk (k,[])).1=0 then ⟨0,(evM (Xf fs d) (Xr fs n) ns Xk (k,[])).2.2,(evM (Xf fs d) (Xr fs n) ns Xk (k,[])).2.1⟩ else ⟨(evM (Xf fs d) (Xr fs n) ns Xk (k,[])).1,[],(evM (Xf fs d) (Xr fs n) ns Xk (k,[])).2.1⟩:=by
 rw[Xf,if_neg (by omega)]
 rfl
theorem X28 {Z E O:Nat} {w W2 w3:World} (h1:ButE E w W2) (h2:FrH w.heap.size E O W2 w3):ButE E w w3:=
 ⟨h2.os.trans h1.os,h2.tape.trans h1.tape,h2.output.trans h1.output,Nat.le_trans h1.size h2.size,fun c hc hn=>(h2.block c hc hn).trans (h1.block c hc hn)⟩
set_option maxRecDepth 100000 in
theorem Xeu {B E:Nat} {fv:Value} {fs:List FN} (d n:Nat) (v:Value) (ns:List VN) (w:World) (he:EvB B E fv fs 0 w) (hv:Rep w ns v):
  Calls Tryz.prog 29 #[.pointer (some ⟨E,0,none⟩), .int .i64 n,v] w (Xjd B E fv fs (Xf fs d n ns 0) w):=by
 rw[X0m]
 have HE:=Xa he
 obtain ⟨ty,y,rfl⟩:=hv.iface
 obtain ⟨a,q,c,rfl⟩:=he.nodes.slice
 have c1:w.cell? ⟨E,1,none⟩=some (.int .i64 0):=Xg he.blk 1
 obtain ⟨a1,a0,p1,p2,p3,p4,p5⟩:=he.errs.now.fuel
 have HRS:Hid (Rsn w 4 257 (.pointer (some a1))):=⟨a1,a0,rfl,rfl,p2,⟨fun e=>absurd e (by decide),fun e=>absurd e p3⟩,p4,p5⟩
 clear he hv p2 p3 p4 p5
 go_enter Tryz.func29,Tryz.ntmps29
 go_wp2_with fail
 go_quiet (fail)
 have HBD:=Xa (below_drewN (Below.refl w.heap.size w) nq)
 go_wp2_with fail
 go_ret2
 exact ⟨_,_,rfl, .inr ⟨(show (4:Int)≠0 by decide),rfl,_,_,rfl,HRS.out.below HBD.out⟩, .of_below HBD.out,HE.out.below HBD.out⟩
set_option maxRecDepth 100000 in
theorem Xmj {B E:Nat} {fv:Value} {fs:List FN} {d:Nat} (ho:Xoc B E fv fs d) (n:Nat) (v:Value) (ns:List VN) (k:Nat) (w:World) (hn:n<fs.length) (he:EvB B E fv fs (k+1) w) (hv:Rep w ns v) (hk:k≤d) (hd:d≤1000000):
  Calls Tryz.prog 29 #[.pointer (some ⟨E,0,none⟩), .int .i64 n,v] w (Xjd B E fv fs (Xf fs (d+1) n ns (k+1)) w):=by
 obtain ⟨r,hr⟩:∃r,evM (Xf fs d) (Xr fs n) ns Xk (k,[])=r:=⟨_,rfl⟩
 obtain ⟨R,hR⟩:∃R,Xf fs (d+1) n ns (k+1)=R:=⟨_,rfl⟩
 have HRR:Hid (R=if r.1=0 then ⟨0,r.2.2,r.2.1⟩ else ⟨r.1,[],r.2.1⟩):=by rw[Hid,←hR,X0n,hr]
 rw[hR]
 have HR:=Xa hr
 have HE:=Xa he
 have HO:=Xa ho
 have HV:=Xa hv
 have HN:=Xa hn
 have HK:=Xa hk
 have hEl:=he.lt
 have hBl:=he.errs.le
 obtain ⟨ty,y,rfl⟩:=hv.iface
 obtain ⟨hfl,a,cap,rfl,hcell⟩:=he.nodes
 obtain ⟨b0,o0,rfl,hb0,hc⟩:=hcell (by omega)
 obtain ⟨kc,kn,ki,hnode⟩:=hc n hn
 have q0:w.cell? ⟨E,0,none⟩=some (.slice (some ⟨b0,o0,none⟩) fs.length cap):=Xg he.blk 0
 have q1:w.cell? ⟨E,1,none⟩=some (.int .i64 ((k+1:Nat):Int)):=Xg he.blk 1
 have q2:w.frozen? ⟨E,1,none⟩=false:=by simp[World.frozen?,he.blk]
 rw[show ((k+1:Nat):Int)=(k:Int)+1 by omega] at q1
 have hk0:¬(k:Int)+1=0:=by omega
 have hkb:(k:Int)≤1000000:=by omega
 obtain ⟨W1,hW1⟩:∃W1,w.setCell ⟨E,1,none⟩ (.int .i64 (k:Int))=W1:=⟨_,rfl⟩
 obtain ⟨W2,hW2⟩:∃W2,W1.alloc (.cells #[.slice none 0 0] 58)=W2:=⟨_,rfl⟩
 have hz1:W1.heap.size=w.heap.size:=by rw[←hW1];simp
 have HSF:=Xa (X0k he k)
 rw[hW1] at HSF
 have HST:=Xa (X0l he HSF.out.1 HSF.out.2 hz1)
 rw[hW2] at HST
 have HB2:Hid (Below B w W2):=HST.out.2.below he.hBE hBl
 have hno:=hnode.below HB2.out hb0
 have s0:=hno.c0
 have s1:=hno.c1
 have s2:=hno.c2
 have s3:=hno.c3
 have s4:=hno.c4
 have s5:=hno.c5
 have HIN:=Xa hno.inn
 have t0:W2.cell? ⟨E,0,none⟩=some (.slice (some ⟨b0,o0,none⟩) fs.length cap):=Xg HST.out.1.ev.blk 0
 obtain ⟨_,aC,cC,eC,_⟩:=hno.inn.cst
 obtain ⟨_,_,aK,cK,eK,_⟩:=hno.inn.names
 obtain ⟨_,_,aI,cI,eI,_⟩:=hno.inn.kids
 obtain ⟨X,hX⟩:∃X,Xr fs n=X:=⟨_,rfl⟩
 have HX:=Xa hX
 rw[hX] at s0 s1 s2 HIN eC eK eI HR
 have HV2:=Xa (HV.out.reads (HST.out.2.reads HE.out))
 subst eC eK eI
 have hsz2:W2.heap.size=w.heap.size+1:=by rw[←hW2,←hz1];simp
 have HW1:=Xa hW1
 have HW2:=Xa hW2
 clear he ho hv hnode hno hcell hc hR hr hX hk
 go_enter Tryz.func29,Tryz.ntmps29
 go_wp2_with fail
 refine (HO.out w.heap.size w.heap.size n X _ _ _ _ ns _ _ Xk (k,[]) W2 HN.out HX.out HIN.out (Xxi B w.heap.size E w.heap.size d _ fs W2) HST.out.1 HV2.out HK.out).mono ?_
 rw[HR.out]
 rintro e w3 ⟨⟨ev,rfl,hev⟩,hf3,hs3⟩
 have HF3:=Xa hf3
 have HS3:=Xa hs3
 have HBE:Hid (ButE E w w3):=X28 (Z:=w.heap.size) HST.out.2 hf3
 rcases hev with ⟨h1,rfl⟩|⟨h1,te,xe,rfl,hrs⟩
 ·have HQ:Hid (R=⟨0,r.2.2,r.2.1⟩):=by rw[Hid,HRR.out,if_pos h1]
  obtain ⟨sv,xs,hos⟩:=hs3.outs
  have HIT:=Xa (Xul hos)
  obtain ⟨a2,c2,e2⟩:=hos.row.slice
  obtain ⟨M2,hM2⟩:∃M2,xs.length=M2:=⟨_,rfl⟩
  rw[hM2] at e2
  have u1:w3.cell? ⟨w.heap.size,0,none⟩=some sv:=Xg hos.box 0
  subst e2
  clear h1 hf3 hs3 hos hM2
  go_wp2_with fail
  go_ret2
  exact ⟨_,_,rfl, .inl ⟨by rw[HQ.out],rfl,by rw[HQ.out];exact HIT.out⟩,HBE.out,by rw[HQ.out];exact HS3.out.ev⟩
 ·have HQ:Hid (R=⟨r.1,[],r.2.1⟩):=by rw[Hid,HRR.out,if_neg h1]
  have H1:=Xa h1
  have HRS:=Xa hrs
  obtain ⟨C,hC⟩:∃C,r.1=C:=⟨_,rfl⟩
  rw[hC] at H1 HRS HQ⊢
  clear hf3 hs3 h1 hrs hC
  go_wp2_with fail
  go_ret2
  exact ⟨_,_,rfl, .inr ⟨by rw[HQ.out];exact H1.out,rfl,by rw[HQ.out];exact ⟨te,xe,rfl,HRS.out⟩⟩,HBE.out,by rw[HQ.out];exact HS3.out.ev⟩
theorem Xro {B E:Nat} {fv:Value} {fs:List FN} {d:Nat} (ho:Xoc B E fv fs d) (hd:d≤1000000):Qr B E fv fs (d+1):=by
 intro n v ns fu w hn he hv hfu
 cases fu with
 |zero=>exact Xeu _ n v ns w he hv
 |succ k=>exact Xmj ho n v ns k w hn he hv (by omega) hd
theorem Xmk (B E:Nat) (fv:Value) (fs:List FN):Qr B E fv fs 0:=by
 intro n v ns fu w hn he hv hfu
 obtain rfl:fu=0:=by omega
 exact Xeu _ n v ns w he hv

open Go.RowKit Go.Extern.Stop Go.Stop Go.Extern
theorem Xk8 (v:Value) (w:World):(Extern.ReflectliteType.typeOf #[.iface 257 v]).run Tryz.prog w= .ok (.iface 204 (.agg #[.pointer (some ⟨6,257,none⟩)])) w:=by kernel_rfl
theorem Xep (w : World) : ((Extern.ReflectliteType.method fun t => do Extern.Rtype.noPackHeld "Comparable" t; (fun a => Value.bool a.comparable) <$> typeInfo t) #[.agg #[.pointer (some ⟨6, 257, none⟩)]]).run Tryz.prog w = .ok (.bool true) w := by kernel_rfl
theorem Wn (v : Value) (w : World) : (Go.method 389 204 v "Comparable").run Tryz.prog w = .ok (257, v) w := by kernel_rfl
theorem Xsp:(Tryz.prog.info? 257).map (·.comparable)=some true:=by kernel_rfl
theorem Xsq:(Tryz.prog.info? 277).map (·.size)=some 1:=by kernel_rfl
theorem Xnm (v:Value) (xT:TypeId) (w:World):(Instr.typeAssert (.iface 257 v) xT 246 true).run Tryz.prog w= .ok (.tuple #[.nilIface, .bool false]) w:=run_typeAssert_lacksB Tryz.underlying246 (by kernel_rfl) (by kernel_rfl) v xT w
theorem Xfb (v:Value) (xT:TypeId) (w:World):(Instr.typeAssert (.iface 257 v) xT 212 true).run Tryz.prog w= .ok (.tuple #[.nilIface, .bool false]) w:=run_typeAssert_lacksB Tryz.underlying212 (by kernel_rfl) (by kernel_rfl) v xT w
theorem Xeq (v:Value) (xT:TypeId) (w:World):(Instr.typeAssert (.iface 257 v) xT 213 true).run Tryz.prog w= .ok (.tuple #[.nilIface, .bool false]) w:=run_typeAssert_lacksB Tryz.underlying213 (by kernel_rfl) (by kernel_rfl) v xT w
theorem Xnn (v:Value) (xT:TypeId) (w:World):(Instr.typeAssert (.iface 105 v) xT 246 true).run Tryz.prog w= .ok (.tuple #[.nilIface, .bool false]) w:=run_typeAssert_lacksB Tryz.underlying246 (by kernel_rfl) (by kernel_rfl) v xT w
theorem Xer (v:Value) (xT:TypeId) (w:World):(Instr.typeAssert (.iface 105 v) xT 212 true).run Tryz.prog w= .ok (.tuple #[.iface 105 v, .bool true]) w:=run_typeAssert_hasB Tryz.underlying212 (by kernel_rfl) v xT w
theorem Xcq (v : Value) (w : World) : (Go.method 389 105 v "Unwrap").run Tryz.prog w = .ok (239, v) w := by kernel_rfl
set_option maxRecDepth 100000 in
theorem Xil (c:Int) (te:Nat) (xe:Value) (w:World):Calls Tryz.prog 239 #[.agg #[.int .i64 c, .iface te xe]] w fun e w'=>e= .returned (.iface te xe)∧Below w.heap.size w w':=by
 go_enter Tryz.func239,Tryz.ntmps239
 go_wp2_with fail
 go_ret
 exact ⟨rfl,(Below.refl _ _).alloc (Nat.le_refl _) _⟩
set_option maxRecDepth 100000 in
theorem X2v (b:Addr) (w:World):
  Calls Tryz.prog 181 #[.nilIface, .iface 257 (.pointer (some b))] w fun e w'=>e= .returned (.bool false)∧w'=w:=by
 have hn:=run_eql_iface_nil_left (P:=Tryz.prog) w 257 (.pointer (some b)) Tryz.underlying60
 go_enter Tryz.func181,Tryz.ntmps181
 go_wp2
 go_ret
 exact ⟨rfl,rfl⟩
set_option maxRecDepth 100000 in
theorem X2w (c:Int) (b:Addr) (w:World):
  Calls Tryz.prog 181 #[.iface 105 (.agg #[.int .i64 c, .iface 257 (.pointer (some b))]), .iface 257 (.pointer (some b))] w fun e w'=>e= .returned (.bool true)∧Below w.heap.size w w':=by
 obtain ⟨i,hi,hcmp⟩:=Option.map_eq_some_iff.1 Xsp
 obtain ⟨j,hj,hjs⟩:=Option.map_eq_some_iff.1 Xsq
 have h8:= @run_callFunc_extern Tryz.prog 159 _ Extern.ReflectliteType.typeOf Tryz.func159 (by kernel_rfl) (by kernel_rfl) (by kernel_rfl) (by kernel_rfl)
 have h32 := @run_callFunc_extern Tryz.prog 257 _ (Extern.ReflectliteType.method fun t => do Extern.Rtype.noPackHeld "Comparable" t; pure (.bool (← typeInfo t).comparable)) Tryz.func257 (by kernel_rfl) (by kernel_rfl) (by kernel_rfl) (by kernel_rfl)
 have tT:=Xk8
 have cT:=Xep
 have mR:=Wn
 have nE:=Xnm
 have uE:=Xfb
 have vE:=Xeq
 have nW:=Xnn
 have uW:=Xer
 have mU:=Xcq
 have heq:=fun W=>run_eql_iface_ptr_same (P:=Tryz.prog) W b Tryz.underlying60 Tryz.underlying257 hi hcmp hj
 have hty:=fun W=>run_eql_iface_types (P:=Tryz.prog) 105 257 (.agg #[.int .i64 c, .iface 257 (.pointer (some b))]) (.pointer (some b)) Tryz.underlying60 (by decide) W
 go_enter Tryz.func181,Tryz.ntmps181
 go_wp2_with fail
 go_enter Tryz.func195,Tryz.ntmps195
 go_wp2_with fail
 refine wp_loop_rounds 2 ?_
 rw[rounds_succ]
 go_wp2_with (go_at_call 239;refine (Xil _ _ _ _).mono ?_;rintro e w1 ⟨rfl,hb⟩)
 rw[rounds_succ]
 go_wp2_with fail
 go_ret
 exact ⟨rfl,hb⟩
set_option maxRecDepth 100000 in
theorem Xzv (c:Int) (a b:Addr) (ca cb:Array Value) (ta tb:TypeId) (w:World) (hne:a≠b) (ha:w.heap[a.block]? =some (.cells ca ta (0,0))) (hb:w.heap[b.block]? =some (.cells cb tb (0,0))):
  Calls Tryz.prog 181 #[.iface 105 (.agg #[.int .i64 c, .iface 257 (.pointer (some a))]), .iface 257 (.pointer (some b))] w fun e w'=>e= .returned (.bool false)∧Below w.heap.size w w':=by
 obtain ⟨i,hi,hcmp⟩:=Option.map_eq_some_iff.1 Xsp
 obtain ⟨j,hj,hjs⟩:=Option.map_eq_some_iff.1 Xsq
 have h8:= @run_callFunc_extern Tryz.prog 159 _ Extern.ReflectliteType.typeOf Tryz.func159 (by kernel_rfl) (by kernel_rfl) (by kernel_rfl) (by kernel_rfl)
 have h32 := @run_callFunc_extern Tryz.prog 257 _ (Extern.ReflectliteType.method fun t => do Extern.Rtype.noPackHeld "Comparable" t; pure (.bool (← typeInfo t).comparable)) Tryz.func257 (by kernel_rfl) (by kernel_rfl) (by kernel_rfl) (by kernel_rfl)
 have tT:=Xk8
 have cT:=Xep
 have mR:=Wn
 have nE:=Xnm
 have uE:=Xfb
 have vE:=Xeq
 have nW:=Xnn
 have uW:=Xer
 have mU:=Xcq
 have HA:=Xa ha
 have HB:=Xa hb
 clear ha hb
 have hty:=fun W=>run_eql_iface_types (P:=Tryz.prog) 105 257 (.agg #[.int .i64 c, .iface 257 (.pointer (some a))]) (.pointer (some b)) Tryz.underlying60 (by decide) W
 go_enter Tryz.func181,Tryz.ntmps181
 go_wp2_with fail
 go_enter Tryz.func195,Tryz.ntmps195
 go_wp2_with fail
 refine wp_loop_rounds 2 ?_
 rw[rounds_succ]
 go_wp2_with (go_at_call 239;refine (Xil _ _ _ _).mono ?_;rintro e w1 ⟨rfl,hb1⟩)
 have heq:=run_eql_iface_ptr_other (P:=Tryz.prog) w1 Tryz.underlying60 Tryz.underlying257 hi hcmp hj (by rw[hjs];decide) hne ((hb1.block _ (Zo HA.out)).trans HA.out) ((hb1.block _ (Zo HB.out)).trans HB.out)
 have HB1:=Xa hb1
 clear hb1
 rw[rounds_succ]
 go_wp2_with fail
 go_ret
 exact ⟨rfl,HB1.out⟩
theorem Xzw {r:OcR} (h:r.c=2):Zq r=⟨0,[],r.fu⟩:=by unfold Zq;rw[if_pos h]
theorem Xsr {r:OcR} (h:r.c≠2):Zq r=r:=by unfold Zq;rw[if_neg h]
set_option maxRecDepth 100000 in
theorem Xim {B E:Nat} {fv:Value} {fs:List FN} {d:Nat} (ho:Qr B E fv fs d) (n:Nat) (v:Value) (ns:List VN) (fu:Nat) (w:World) (hn:n<fs.length) (he:EvB B E fv fs fu w) (hv:Rep w ns v) (hd:fu≤d):
  Calls Tryz.prog 150 #[.pointer (some ⟨E,0,none⟩), .int .i64 n,v] w (Xjd B E fv fs (Zq (Xf fs d n ns fu)) w):=by
 obtain ⟨r,hr⟩:∃r,Xf fs d n ns fu=r:=⟨_,rfl⟩
 have HC:=Xa (ho n v ns fu w hn he hv hd)
 obtain ⟨R,hR⟩:∃R,Zq r=R:=⟨_,rfl⟩
 rw[hr] at HC⊢
 rw[hR]
 have HR:=Xa hR
 obtain ⟨ty,y,rfl⟩:=hv.iface
 clear ho he hv hr hR
 go_enter Tryz.func150,Tryz.ntmps150
 go_wp2_with fail
 refine HC.out.mono ?_
 rintro e w1 ⟨it,ev,rfl,hans,hb,he⟩
 have HB:=Xa hb
 have HE:=Xa he
 obtain ⟨_,_,_,_,_,⟨k0,hk0,ck,tk,hkh⟩⟩:∃a b c d e,∃a0:Addr,w1.cell? ⟨3,0,none⟩=some (.iface 257 (.pointer (some a0)))∧∃cs t,w1.heap[a0.block]? =some (.cells cs t (0,0)):=⟨0,0,0,0,0,he.errs.now.two.errs.kind⟩
 have HKH:=Xa hkh
 clear hb he hkh
 rcases hans with ⟨h1,rfl,hit⟩|⟨h1,rfl,te,xe,rfl,hrs⟩
 ·have HIT:=Xa hit
  obtain ⟨_,a,c,rfl,_⟩:=hit
  have HQ:Hid (R=r):=by rw[Hid,←HR.out];exact Xsr (by omega)
  obtain ⟨M,hM⟩:∃M,r.l.length=M:=⟨_,rfl⟩
  have H1:=Xa h1
  clear h1
  rw[hM] at HIT⊢
  clear hM
  go_wp2_with fail
  refine (X2v k0 _).mono ?_
  rintro e w2 ⟨rfl,rfl⟩
  go_wp2_with fail
  go_ret2
  exact ⟨_,_,rfl, .inl ⟨by rw[HQ.out];exact H1.out,rfl,by rw[HQ.out];exact HIT.out⟩,HB.out,by rw[HQ.out];exact HE.out⟩
 ·have HRS:=Xa hrs
  obtain ⟨a1,a0,e1,e2,q1,q2,⟨c1,t1,q3⟩,_,_,_⟩:=hrs
  subst e1 e2
  obtain rfl:a0=k0:=by
   have:=q1.symm.trans hk0
   injection this with this
   injection this with _ this
   injection this with this
   injection this
  have HQ3:=Xa q3
  obtain ⟨C,hC⟩:∃C,r.c=C:=⟨_,rfl⟩
  have HC2:=Xa hC
  rw[hC] at h1 q2 HRS⊢
  clear hC q1 q3
  by_cases k2:C=2
  ·obtain rfl:a1=a0:=q2.1 k2
   have HQ:Hid (R=⟨0,[],r.fu⟩):=by rw[Hid,←HR.out];exact Xzw (by rw[HC2.out];exact k2)
   clear q2 k2 h1
   go_wp2_with fail
   refine (X2w C a1 _).mono ?_
   rintro e w2 ⟨rfl,hb2⟩
   have HB2:=Xa hb2
   clear hb2
   go_wp2_with fail
   go_ret2
   exact ⟨_,_,rfl, .inl ⟨by rw[HQ.out],rfl,by rw[HQ.out];exact ⟨by simp,none,0,rfl,fun h=>absurd h (by simp)⟩⟩,HB.out.trans (.of_below HB2.out),by rw[HQ.out];exact HE.out.below HB2.out⟩
  ·have hne:a1≠a0:=fun e=>k2 (q2.2 e)
   have HQ:Hid (R=r):=by rw[Hid,←HR.out];exact Xsr (by rw[HC2.out];exact k2)
   have H1:=Xa h1
   clear q2 k2 h1
   go_wp2_with fail
   refine (Xzv C a1 a0 _ _ _ _ _ hne HQ3.out HKH.out).mono ?_
   rintro e w2 ⟨rfl,hb2⟩
   have HB2:=Xa hb2
   clear hb2
   go_wp2_with fail
   go_ret2
   exact ⟨_,_,rfl, .inr ⟨by rw[HQ.out,HC2.out];exact H1.out,rfl,by rw[HQ.out,HC2.out];exact ⟨_,_,rfl,HRS.out.below HB2.out⟩⟩,HB.out.trans (.of_below HB2.out),by rw[HQ.out];exact HE.out.below HB2.out⟩

theorem Ga {lo B n:Nat} {w:World} {it:Value} {P:Nat→Value→Prop} (h:ItemsG lo B w it n P) (hB:B≤w.heap.size):∃V,ValsAt w it n V∧∀j,j<n→P j (V j):=by
 obtain ⟨a,cap,rfl,hc⟩:=h
 rcases Nat.eq_zero_or_pos n with e|e
 ·exact ⟨fun _=>undef,⟨a,cap,rfl,fun hp=>by omega,fun j hj=>by omega⟩,fun j hj=>by omega⟩
 ·obtain ⟨b,rfl,_,hb,hcc⟩:=hc e
  refine ⟨fun j=>(w.cell? ⟨b,j,none⟩).getD undef,⟨_,cap,rfl,fun _=>⟨b,rfl,by omega,fun j hj=> ?_⟩,fun j hj=> ?_⟩,fun j hj=> ?_⟩
  ·obtain ⟨t,x,h1,_⟩:=hcc j hj
   simp only[h1];rfl
  ·obtain ⟨t,x,h1,_⟩:=hcc j hj
   exact ⟨t,x,by simp only[h1];rfl⟩
  ·obtain ⟨t,x,h1,h2⟩:=hcc j hj
   simp only[h1];exact h2
theorem Xm3 (xb:Nat) (x y:Value) (us vs:List VN) (hu:FineU us) (hv:FineU vs) (lo B lo' B':Nat) (hlo:lo≤B) (hlo':lo'≤B') (f f' n k:Nat) (w:World) (hn:n<us.length) (hk:k<vs.length)
  (h1:ValG lo B w us f n x) (h2:ValG lo' B' w vs f' k y) (hB:B≤w.heap.size) (hB':B'≤w.heap.size) (hc:w.cell? ⟨xb,0,none⟩=some x):
  Calls Tryz.prog 202 #[y, .pointer (some ⟨xb,0,none⟩)] w fun e w'=>e= .returned (.bool (decide (ord us vs f n k=0)))∧Below w.heap.size w w':=by
 obtain ⟨tx,vx,rfl⟩:=h1.iface
 obtain ⟨ty,vy,rfl⟩:=h2.iface
 have HC:=Xa (Xfy us vs hu hv lo B lo' B' hlo hlo' f f' n k _ _ w hn hk h1 h2 hB hB')
 obtain ⟨r,hr⟩:∃r,ord us vs f n k=r:=⟨_,rfl⟩
 rw[hr] at HC⊢
 clear h1 h2 hr
 by_cases h0:r=0
 ·go_enter Tryz.func202,Tryz.ntmps202
  go_wp2_with fail
  refine HC.out.mono ?_
  rintro e w1 ⟨rfl,hb⟩
  go_wp2_with fail
  go_ret
  exact ⟨Xn (by simp[h0]),hb⟩
 ·have h0':(r==0)=false:=by simpa using h0
  go_enter Tryz.func202,Tryz.ntmps202
  go_wp2_with fail
  refine HC.out.mono ?_
  rintro e w1 ⟨rfl,hb⟩
  go_wp2_with fail
  go_ret
  exact ⟨Xn (by simp[h0]),hb⟩
theorem X2m {us vs:List VN} (h1:okB us=true) (h2:okB vs=true) {f:Nat} (hf:us.length=f+1) {i k:Nat} (hi:i<(Xe us).length) (hk:k<(Xe vs).length):
  decide (ord us vs f (Xm (Xe us) i).toNat (Xm (Xe vs) k).toNat=0)=Wy us vs i k:=by
 obtain ⟨q,hq,hql⟩:=Zj h1 hi
 obtain ⟨r,hr,hrl⟩:=Zj h2 hk
 unfold Wy
 have e1:PL us i=Yw us q:=by unfold PL;rw[hq];simp
 have e2:PL vs k=Yw vs r:=by unfold PL;rw[hr];simp
 rw[hq,hr,e1,e2]
 simp only[Int.toNat_natCast]
 have a:=Xxj h1 h2 (n:=q) (k:=r) (f:=f) (by omega) (by omega) (by omega)
 have b:=Xn1 (Xec h1 (show q<us.length by omega)) (Xec h2 (show r<vs.length by omega))
 rw[Bool.eq_iff_iff]
 simp only[decide_eq_true_eq]
 rw[a,b]
theorem Xvx {us vs:List VN} {lo B base:Nat} {w:World} {r:Value} {V:Nat→Value} {f:Nat} (hf:us.length=f+1) (h1:okB us=true) (hB:B≤w.heap.size) (hlo:lo≤B)
  (hV:∀j,j<(Xe us).length→ValG lo B w us f (Xm (Xe us) j).toNat (V j))
  (hr:w.ownsRow base 52 1 r (Ym us vs (Xe us).length).length ((Ym us vs (Xe us).length).map V)):
  TreeAt w.heap.size w (us.length+1) (.mk 5 0 ByteArray.empty [] (Zt us vs us.length)) (.iface 158 (.agg #[r])):=by
 obtain ⟨p1,p2,_,p4⟩:=Xp h1
 have hl:=V5 us vs (Xe us).length
 have h80:=(Zw h1).2
 have hlen:(Zt us vs us.length).length=(Ym us vs (Xe us).length).length:=by simp[Zt]
 refine Or.inr (Or.inr (Or.inr (Or.inr (Or.inl ⟨rfl,rfl,rfl,rfl,r,rfl, ?_⟩))))
 rw[hlen]
 obtain ⟨a,c,e⟩:=Xj hr
 subst e
 refine ⟨by omega,a,c,rfl,fun hp=> ?_⟩
 obtain ⟨g,cap,e,_,hlt⟩:=hr.form hp
 cases e
 refine ⟨g,rfl,hlt,fun j hj=> ?_⟩
 have hx:=hl.2 _ (List.getElem_mem hj)
 have hv:=hV _ hx
 obtain ⟨t,x,ex⟩:=hv.iface
 obtain ⟨q,hq,hql⟩:=Zj h1 hx
 rw[ex] at hv
 refine ⟨t,x, ?_, ?_⟩
 ·rw[hr.cellAt j (by omega),List.getElem?_map,List.getElem?_eq_getElem hj]
  simp only[Option.map_some,ex]
 ·have hkt:Yl (Zt us vs us.length) j=Xw us us.length q:=by
   unfold Zt Yl
   rw[List.getD_eq_getElem?_getD,List.getElem?_map,List.getElem?_eq_getElem hj]
   simp only[Option.map_some,Option.getD_some]
   rw[hq];simp
  show TreeAt w.heap.size w us.length (Yl (Zt us vs us.length) j) (.iface t x)
  rw[hkt]
  rw[hq] at hv
  simp only[Int.toNat_natCast] at hv
  exact TreeAt.keep (fun _ _=>rfl) hB (ValG.tree hlo p2 p4 p1.2 (by omega) (ValG.more (show f≤us.length by omega) hv))
theorem Xm4 (u v:Value):∀w,(callFunc 192 #[u,v]).run Tryz.prog w= .ok (.enter 192 #[u,v]) w:=fun w=>by kernel_rfl
theorem Xdm (x : Value) : ∀ w, (Go.method (Tryz.prog.types.size + Made.depth) 158 x "loop.example/g00345/impl.parts").run Tryz.prog w = .ok (249, x) w := fun w => by kernel_rfl
theorem Xdn (x:Value):∀w,(callFunc 249 #[x]).run Tryz.prog w= .ok (.enter 249 #[x]) w:=fun w=>by kernel_rfl
theorem Xgd {lo B:Nat} {w:World} {us:List VN} {f:Nat} {t:TypeId} {v:Value} (hf:us.length=f+1) (hk:(Xd us).kind=5) (h:ValG lo B w us us.length (us.length-1) (.iface t v)):
  t=158∧∃it,v= .agg #[it]∧ItemsG lo B w it (Xe us).length (fun j u=>ValG lo B w us f (Xm (Xe us) j).toNat u):=by
 rw[hf,show f+1-1=f by omega] at h
 have hr:Xb us f=Xd us:=by unfold Xd;rw[hf];rfl
 have hr2:Xe us=(Xd us).kids:=rfl
 unfold ValG at h
 rw[hr] at h
 rcases h with ⟨k,e⟩|⟨k,e⟩|⟨k,e⟩|⟨k,e⟩|⟨k,it,e,hi⟩|⟨k,ks,it,e,hs,hi⟩
 case inr.inr.inr.inr.inl=>cases e;exact ⟨rfl,it,rfl,by rw[hr2];exact hi⟩
 all_goals exact absurd k (by omega)
theorem Xm5 (us vs:List VN) (h1:okB us=true) (h2:okB vs=true) (lo B lo' B':Nat) (hlo:lo≤B) (hlo':lo'≤B') {f f':Nat} (hf:us.length=f+1) (hf':vs.length=f'+1) (it it':Value) (V V':Nat→Value) (w:World)
  (hv:ValsAt w it (Xe us).length V) (hv':ValsAt w it' (Xe vs).length V') (hV:∀j,j<(Xe us).length→ValG lo B w us f (Xm (Xe us) j).toNat (V j)) (hV':∀j,j<(Xe vs).length→ValG lo' B' w vs f' (Xm (Xe vs) j).toNat (V' j)) (hB:B≤w.heap.size) (hB':B'≤w.heap.size):
  Calls Tryz.prog 192 #[it,it'] w fun e w'=>∃r,e= .returned r∧(∃a c,r= .slice a (Ym us vs (Xe us).length).length c)∧TreeAt w'.heap.size w' (us.length+1) (.mk 5 0 ByteArray.empty [] (Zt us vs us.length)) (.iface 158 (.agg #[r]))∧Below w.heap.size w w':=by
 have fu:=Xgo h1
 have fv:=Xgo h2
 have k1:=(Zw h1).2
 have k2:=(Zw h2).2
 refine (Xri it it' (Xe us).length (Xe vs).length V V' (fun i k=>decide (ord us vs f (Xm (Xe us) i).toNat (Xm (Xe vs) k).toNat=0)) w hv hv' (by omega) (by omega) ?_).mono ?_
 ·intro w1 hb1 xb i hi hc hxb w2 hb2 k hk
  obtain ⟨q,hq,hql⟩:=Zj h1 hi
  obtain ⟨r,hr,hrl⟩:=Zj h2 hk
  have hb12:Below w.heap.size w w2:=hb1.trans (hb2.mono hb1.size)
  have a1:=ValG.keep (Qg (hb12.mono hB)) (Nat.le_refl _) hlo (hV i hi)
  have a2:=ValG.keep (Qg (hb12.mono hB')) (Nat.le_refl _) hlo' (hV' k hk)
  exact Xm3 xb (V i) (V' k) us vs fu fv lo B lo' B' hlo hlo' f f' _ _ w2 (by rw[hq];simp;omega) (by rw[hr];simp;omega) a1 a2 (Nat.le_trans hB hb12.size) (Nat.le_trans hB' hb12.size) ((Xc hb2 hxb).trans hc)
 ·rintro e w' ⟨r,rfl,hrow,hb⟩
  have e:Yx (fun i=>Zf (fun k=>decide (ord us vs f (Xm (Xe us) i).toNat (Xm (Xe vs) k).toNat=0)) (Xe vs).length) (Xe us).length=Ym us vs (Xe us).length:=by
   unfold Ym
   exact Xr5 _ (fun i hi=>Xvf _ (fun k hk=>X2m h1 h2 hf hi hk))
  rw[e] at hrow
  obtain ⟨a,c,ec⟩:=Xj hrow
  exact ⟨r,rfl,⟨a,c,ec⟩,Xvx hf h1 (Nat.le_trans hB hb.size) hlo (fun j hj=>ValG.keep (Qg (hb.mono hB)) (Nat.le_refl _) hlo (hV j hj)) hrow,hb⟩
set_option maxRecDepth 100000 in
theorem Xtn (us vs:List VN) (h1:okB us=true) (h2:okB vs=true) (lo B lo' B':Nat) (hlo:lo≤B) (hlo':lo'≤B') (x y:Value) (w:World) (hx:ValG lo B w us us.length (us.length-1) x) (hy:ValG lo' B' w vs vs.length (vs.length-1) y) (hB:B≤w.heap.size) (hB':B'≤w.heap.size) (hk5:(Xd us).kind=5) (hk5':(Xd vs).kind=5):
  Calls Tryz.prog 175 #[x,y] w fun e w'=>Jd (V6 us vs) (Kn us vs) e w'∧Below w.heap.size w w':=by
 obtain ⟨tx,vx,Fx,rfl,kx⟩:=Qk hx
 obtain ⟨ty,vy,Fy,rfl,ky⟩:=Qk hy
 have HM:=Xa (Xox h1 h2 ⟨hk5,hk5'⟩)
 have HKX:=Xa kx
 have HKY:=Xa ky
 have m1:=kx.meth
 have e1:=kx.enter
 have m2:=ky.meth
 have e2:=ky.enter
 have heq:((Xb us (us.length-1)).kind !=(Xb vs (vs.length-1)).kind)=false:=by
  have:(Xb us (us.length-1)).kind=(Xb vs (vs.length-1)).kind:=hk5.trans hk5'.symm
  simpa using this
 have tl1:=Vq
 have tl2:=Xb8
 obtain ⟨p1,_,_,_⟩:=Xp h1
 obtain ⟨p2,_,_,_⟩:=Xp h2
 obtain ⟨f,hf⟩:∃f,us.length=f+1:=⟨us.length-1,by omega⟩
 obtain ⟨f',hf'⟩:∃f',vs.length=f'+1:=⟨vs.length-1,by omega⟩
 obtain ⟨rfl,it,rfl,hi⟩:=Xgd hf hk5 hx
 obtain ⟨rfl,it',rfl,hi'⟩:=Xgd hf' hk5' hy
 obtain ⟨V,hv,hV⟩:=Ga hi hB
 obtain ⟨V',hv',hV'⟩:=Ga hi' hB'
 have HLL:=Xa (Xov h1 vs (Nat.le_refl us.length))
 have HWL:Hid (∀W,Below w.heap.size w W→Calls Tryz.prog 192 #[it,it'] W fun e w'=>∃r,e= .returned r∧(∃a c,r= .slice a (Ym us vs (Xe us).length).length c)∧TreeAt w'.heap.size w' (us.length+1) (.mk 5 0 ByteArray.empty [] (Zt us vs us.length)) (.iface 158 (.agg #[r]))∧Below W.heap.size W w'):=
  fun W hb=>Xm5 us vs h1 h2 lo B lo' B' hlo hlo' hf hf' it it' V V' W (hv.below hb) (hv'.below hb) (fun j hj=>ValG.keep (Qg (hb.mono hB)) (Nat.le_refl _) hlo (hV j hj)) (fun j hj=>ValG.keep (Qg (hb.mono hB')) (Nat.le_refl _) hlo' (hV' j hj)) (Nat.le_trans hB hb.size) (Nat.le_trans hB' hb.size)
 obtain ⟨a,cap,rfl,_⟩:=hi
 obtain ⟨a',cap',rfl,_⟩:=hi'
 obtain ⟨N,hN⟩:∃N,(Ym us vs (Xe us).length).length=N:=⟨_,rfl⟩
 rw[hN] at HWL
 obtain ⟨M,hM⟩:∃M,(Xe us).length=M:=⟨_,rfl⟩
 obtain ⟨M',hM'⟩:∃M',(Xe vs).length=M':=⟨_,rfl⟩
 rw[hM,hM'] at HWL
 rw[hM] at HKX m1 e1⊢
 rw[hM'] at HKY m2 e2⊢
 clear kx ky hx hy hv hv' hV hV' p1 p2 hf hf' hN hM hM'
 go_enter Tryz.func175,Tryz.ntmps175
 go_wp2_with fail
 refine (HKX.out.says _).mono ?_
 rintro e w1 ⟨rfl,hb1⟩
 have HB1:=Xa hb1
 clear hb1
 go_wp2_with fail
 refine (HKY.out.says _).mono ?_
 rintro e w2 ⟨rfl,hb2⟩
 have HB2:=Xa (HB1.out.trans (hb2.mono HB1.out.size))
 clear hb2
 go_wp2_with fail
 obtain ⟨W,hW⟩:∃W,w2.alloc (.cells #[.slice a M cap] 158)=W:=⟨_,rfl⟩
 have c0:W.cell? ⟨w2.heap.size,0,none⟩=some (.slice a M cap):=by rw[←hW];simp
 have hlt:w2.heap.size<W.heap.size:=by rw[←hW];simp
 have HBD:Hid (Below w.heap.size w W.drew):=by rw[Hid,←hW];exact (HB2.out.alloc HB2.out.size _).drew
 have c0d:W.drew.cell? ⟨w2.heap.size,0,none⟩=some (.slice a M cap):=c0
 have hltd:w2.heap.size<W.drew.heap.size:=by simpa using hlt
 rw[hW]
 clear hW
 go_region_law
  (first
   |(refine Xc2 (by rfl) _ _ (by rfl) 158 (.agg #[.slice a' M' cap']) (by rfl) 249 (Xdm _) (Xdn _) (Ki a' M' cap' _) ?_;rintro e w3 ⟨rfl,hb3⟩;have hS1:=(Xc hb3 hltd).trans c0d;refine ⟨_,rfl, ?_⟩)
   |(refine Qh (by rfl) 192 _ _ _ _ (by rfl) (.slice a M cap) (.slice a' M' cap') (by rfl) (by rfl) (Xm4 _ _) (HWL.out w3 (HBD.out.trans (hb3.mono HBD.out.size))) ?_;rintro e w4 ⟨r,rfl,⟨ar,cr,rfl⟩,htr,hb4⟩;refine ⟨_,rfl, ?_⟩))
 all_goals
  have HB3:=Xa (HBD.out.trans (hb3.mono HBD.out.size))
  have HB4:=Xa (HB3.out.trans (hb4.mono HB3.out.size))
  have HTR:=Xa htr
  clear hb3 hb4 htr
  go_wp2_with fail
  go_ret2
  exact ⟨Or.inl ⟨HM.out.1,_,_,_,_,rfl,HTR.out,by rw[HM.out.2];exact HLL.out⟩,HB4.out⟩

set_option maxRecDepth 100000 in
theorem Xvy (us vs:List VN) (h1:okB us=true) (h2:okB vs=true) (lo B lo' B':Nat) (hlo:lo≤B) (hlo':lo'≤B') (x y:Value) (w:World) (hx:ValG lo B w us us.length (us.length-1) x) (hy:ValG lo' B' w vs vs.length (vs.length-1) y) (hB:B≤w.heap.size) (hB':B'≤w.heap.size) (hE:Errs2 w):
  Calls Tryz.prog 175 #[x,y] w fun e w'=>Jd (V6 us vs) (Kn us vs) e w'∧Below w.heap.size w w':=by
 obtain ⟨tx,vx,Fx,rfl,kx⟩:=Qk hx
 obtain ⟨ty,vy,Fy,rfl,ky⟩:=Qk hy
 have HKX:=Xa kx
 have HKY:=Xa ky
 have HE:=Xa hE
 have m1:=kx.meth
 have e1:=kx.enter
 have m2:=ky.meth
 have e2:=ky.enter
 clear kx ky hE
 by_cases hk:(Xd us).kind=(Xd vs).kind
 case neg=>
  have HM:=Xa (Xfo h1 h2 (by omega) (by omega))
  have hne:((Xb us (us.length-1)).kind !=(Xb vs (vs.length-1)).kind)=true:=by
   have:¬(Xb us (us.length-1)).kind=(Xb vs (vs.length-1)).kind:=hk
   simpa using this
  go_enter Tryz.func175,Tryz.ntmps175
  go_wp2_with fail
  refine (HKX.out.says _).mono ?_
  rintro e w1 ⟨rfl,hb1⟩
  have HB1:=Xa hb1
  clear hb1
  go_wp2_with fail
  refine (HKY.out.says _).mono ?_
  rintro e w2 ⟨rfl,hb2⟩
  have HB2:=Xa (HB1.out.trans (hb2.mono HB1.out.size))
  have HE2:=Xa (HE.out.below HB2.out)
  clear hb2
  go_wp2_with fail
  refine (Zy _ HE2.out.errs).mono ?_
  rintro e w3 ⟨⟨v,rfl,te,xe,rfl,hrs⟩,rfl⟩
  go_wp2_with fail
  go_ret2
  exact ⟨Or.inr ⟨HM.out.2,_,rfl,by rw[HM.out.1];exact ⟨te,xe,rfl,hrs⟩⟩,HB2.out⟩
 case pos=>
 have heq:((Xb us (us.length-1)).kind !=(Xb vs (vs.length-1)).kind)=false:=by
  have:(Xb us (us.length-1)).kind=(Xb vs (vs.length-1)).kind:=hk
  simpa using this
 have ta1:=Xac
 have ta2:=Xpl
 have tb1:=Xg6
 have tb2:=Xfk
 have ti1:=Gd
 have tt1:=Xad
 have tt2:=Xoa
 have tl1:=Vq
 have tl2:=Xb8
 have tm1:=Uw
 have tm2:=Xg7
 have tbi:=Xjn
 have fli:=Xgf
 obtain ⟨p1,_,_,_⟩:=Xp h1
 obtain ⟨p2,_,_,_⟩:=Xp h2
 obtain ⟨f,hf⟩:∃f,us.length=f+1:=⟨us.length-1,by omega⟩
 obtain ⟨f',hf'⟩:∃f',vs.length=f'+1:=⟨vs.length-1,by omega⟩
 by_cases hk3:(Xd us).kind=3
 case pos=>
  exact Xum us vs h1 h2 lo B lo' B' hlo hlo' _ _ w hx hy hB hB' HE.out hk3 (by omega)
 case neg=>
 by_cases hk5:(Xd us).kind=5
 case pos=>
  exact Xtn us vs h1 h2 lo B lo' B' hlo hlo' _ _ w hx hy hB hB' hk5 (by omega)
 case neg=>
  have HM:=Xa (Xfo h1 h2 (by omega) (by omega))
  have hx2:=hx
  rw[hf,show f+1-1=f by omega] at hx2
  clear hx
  rcases hx2 with ⟨k,e⟩|⟨k,e⟩|⟨k,e⟩|⟨k,e⟩|⟨k,it,e,hi⟩|⟨k,ks,it,e,hs,hi⟩
  case inr.inr.inl=>exact absurd (show (Xd us).kind=3 by unfold Xd;rw[hf];exact k) hk3
  case inr.inr.inr.inr.inl=>exact absurd (show (Xd us).kind=5 by unfold Xd;rw[hf];exact k) hk5
  all_goals
   cases e
   clear k hf hf' p1 p2 hy hk3 hk5 hk
   have HE2':Hid (∀W,Below w.heap.size w W→Errs2 W):=fun W hb=>HE.out.below hb
   go_enter Tryz.func175,Tryz.ntmps175
   go_wp2_with fail
   refine (HKX.out.says _).mono ?_
   rintro e w1 ⟨rfl,hb1⟩
   have HB1:=Xa hb1
   clear hb1
   go_wp2_with fail
   refine (HKY.out.says _).mono ?_
   rintro e w2 ⟨rfl,hb2⟩
   have HB2:=Xa (HB1.out.trans (hb2.mono HB1.out.size))
   have HE2:=Xa (HE.out.below HB2.out)
   clear hb2
   go_wp2_with fail
   refine (Zy _ HE2.out.errs).mono ?_
   rintro e w3 ⟨⟨v,rfl,te,xe,rfl,hrs⟩,rfl⟩
   go_wp2_with fail
   go_ret2
   exact ⟨Or.inr ⟨HM.out.2,_,rfl,by rw[HM.out.1];exact ⟨te,xe,rfl,hrs⟩⟩,HB2.out⟩

theorem X1d {l:List (List VN)} {k:Nat} (hk:k<l.length):(l.take (k+1)).any Xx=((l.take k).any Xx||Xx (Xl l k)):=by
 have e:l.take (k+1)=l.take k++ [Xl l k]:=by
  rw[List.take_succ_eq_append_getElem hk]
  unfold Xl
  rw[List.getD_eq_getElem?_getD,List.getElem?_eq_getElem hk]
  rfl
 rw[e,List.any_append]
 simp
theorem X3i {l:List (List VN)} {k:Nat} (hk:k<l.length) (h:Xx (Xl l k)=true):l.any Xx=true:=by
 rw[List.any_eq_true]
 refine ⟨Xl l k, ?_,h⟩
 unfold Xl
 rw[List.getD_eq_getElem?_getD,List.getElem?_eq_getElem hk]
 exact List.getElem_mem hk
set_option maxRecDepth 100000 in
theorem Xi4 (it:Value) (l:List (List VN)) (w:World) (h:ItemsRep w it l) (hl:l.length≤1000):
  Calls Tryz.prog 182 #[it, .func (.func 146) #[] #[]] w fun e w'=>(∃r:Int,e= .returned (.int .i64 r)∧(decide (0≤r))=l.any Xx∧-1≤r∧r≤1000000)∧Below w.heap.size w w':=by
 have HI:=Xa h
 obtain ⟨_,a,cap,rfl,_⟩:=h
 obtain ⟨M,hM⟩:∃M,l.length=M:=⟨_,rfl⟩
 have HM:=Xa hM
 rw[hM] at hl⊢
 clear hM
 go_enter Tryz.func182,Tryz.ntmps182
 go_wp2_with fail
 go_loopw [5,8] (fun _ i wr=>∃k:Nat,k≤M∧i= .int .i64 k∧Hid ((l.take k).any Xx=false)∧Below w.heap.size w wr) (fun _ i _=>M-(intOf i).toNat)
 case atStart=>exact ⟨0,Nat.zero_le _,rfl,rfl,Below.refl _ _⟩
 case round=>
  obtain ⟨k,hk,rfl,HN,hbl⟩:=hrel
  by_cases hlt:k<M
  ·obtain ⟨b,c,t,x,e,hcl,hrep⟩:=Xck HI.out (j:=k) (by rw[HM.out];exact hlt)
   injection e with e1 _ e3
   subst e1 e3
   have hcell:=(Xc hbl (X8 hcl)).trans hcl
   have HC:=Xa (Wm (Xl l k) _ wr (hrep.below hbl))
   obtain ⟨tb,htb⟩:∃tb,Xx (Xl l k)=tb:=⟨_,rfl⟩
   have HTB:=Xa htb
   have HBL:=Xa hbl
   rw[htb] at HC
   clear hcl hrep htb hbl
   cases tb
   ·have HN2:Hid ((l.take (k+1)).any Xx=false):=by rw[Hid,X1d (by rw[HM.out];exact hlt),HN.out,HTB.out];rfl
    go_wp2_with fail
    refine HC.out.mono ?_
    rintro e w1 ⟨rfl,hb1⟩
    have HB1:=Xa (HBL.out.trans (hb1.mono HBL.out.size))
    clear hb1
    go_wp2_with fail
    go_roundw
    case rel=>exact ⟨k+1,by omega,by go_num,HN2,HB1.out⟩
    case measure=>simp[intOf];omega
   ·have HY:=Xa (X3i (by rw[HM.out];exact hlt) HTB.out)
    go_wp2_with fail
    refine HC.out.mono ?_
    rintro e w1 ⟨rfl,hb1⟩
    have HB1:=Xa (HBL.out.trans (hb1.mono HBL.out.size))
    clear hb1
    go_wp2_with fail
    go_ret
    exact ⟨⟨k,rfl,by rw[HY.out];simp,by omega,by omega⟩,HB1.out⟩
  ·obtain rfl:k=M:=by omega
   go_wp2_with fail
   go_ret
   exact ⟨⟨-1,rfl,by have:=HN.out;rw[←HM.out,List.take_length] at this;rw[this];rfl,by omega,by omega⟩,hbl⟩
theorem Xfz (it:Value) (l:List (List VN)) (w:World) (h:ItemsRep w it l) (hl:l.length≤1000):
  Calls Tryz.prog 151 #[it, .func (.func 146) #[] #[]] w fun e w'=>e= .returned (.bool (l.any Xx))∧Below w.heap.size w w':=by
 have HC:=Xa (Xi4 it l w h hl)
 obtain ⟨_,a,cap,rfl,_⟩:=h
 obtain ⟨M,hM⟩:∃M,l.length=M:=⟨_,rfl⟩
 rw[hM] at HC⊢
 clear hM
 go_enter Tryz.func151,Tryz.ntmps151
 go_wp2_with fail
 refine HC.out.mono ?_
 rintro e w1 ⟨⟨r,rfl,hr,h1,h2⟩,hb⟩
 have HR:=Xa hr
 clear hr
 go_wp2_with fail
 all_goals
  go_ret
  exact ⟨Xn (by rw[←HR.out];try simp[*]),hb⟩
end Go.Proofs.YtdjddneidbddpaaGreatDoor
