import Derived.Test.YtehihemfepbmfaaGreatDoorSgX
import Derived.Test.YtehihemfepbmfaaGreatDoorFSpc3
import Derived.Test.YtehihemfepbmfaaGreatDoorIFj
import Derived.Test.YtehihemfepbmfaaGreatDoorGupN
import Derived.Test.YtehihemfepbmfaaGreatDoorSLf
import Derived.Test.YtehihemfepbmfaaGreatDoorFtD
namespace Go.Proofs.YtehihemfepbmfaaGreatDoor
set_option linter.unusedSectionVars false
set_option maxHeartbeats 12800000
open Go.RowKit
set_option linter.unusedSimpArgs false
set_option linter.unusedVariables false
set_option maxRecDepth 100000 in
theorem Uu{rb mb base p:Nat}{Z:Nat→Prop}{s:ByteArray}{fs:List FN}{w:World}(h:FrAt w rb mb base Z s p fs)(hs:s.size≤4000):
  Calls Tryz.prog 173 #[.pointer(some⟨rb,0,none⟩)]w fun e w'=>e= .returned(.string(txt(X9 s.data.toList p)))∧FrAt w' rb mb base Z s(skF s.data.toList(nmJ s.data.toList p))fs∧ButF rb base w w':=by
 have H:=Xa h
 have HLN:=Xa(Xm s)
 have hp:=h.le
 obtain⟨c0,c1,f1,lt0⟩:=h.cells
 clear h
 go_enter Tryz.func173,Tryz.ntmps173
 go_wp2_with fail
 go_loopw [15,16](fun _ _ wr=>∃q,FrAt wr rb mb base Z s q fs∧Hid(nmJ s.data.toList q=nmJ s.data.toList p)∧ButF rb base w wr∧p≤q)(fun _ _ wr=>s.size-placeOf wr rb)
 case atStart=>exact⟨p,H.out,rfl,ButF.refl _ _ _,Nat.le_refl _⟩
 case round=>
  obtain⟨q,hsr,HK,hbt,hpq⟩:=hrel
  have HS:=Xa hsr
  have HBT:=Xa hbt
  have hqs:=hsr.le
  have HPK:=Xa(Wl hsr hs)
  have hc256:=Jt s.data.toList q
  obtain⟨c,hc⟩:∃c,Xh s.data.toList q=c:=⟨_,rfl⟩
  have HC:=Xa hc
  rw[hc]at HPK hc256
  clear c0 c1 f1 lt0
  obtain⟨c0,c1,f1,lt0⟩:=hsr.cells
  clear hsr hbt hc
  go_wp2_with fail
  refine HPK.out.mono ?_
  rintro e w1⟨rfl,hr1,hb1⟩
  have HR1:=Xa hr1
  have HB1:=Xa hb1
  clear c0 c1 f1 lt0
  obtain⟨c0,c1,f1,lt0⟩:=hr1.cells
  clear hr1 hb1
  go_wp2_with fail
  refine(Xe7 c w1 hc256).mono ?_
  rintro e w2⟨rfl,rfl⟩
  cases hn:nmC c
  ·have hn':(Yt c||Zk c)=false:=hn
   have HEND:Hid(nmJ s.data.toList q=q):=Q1(fun e=>by rw[HC.out,hn]at e;cases e.2)
   have HZ:Hid(nmJ s.data.toList p=q):=by rw[Hid,←HK.out];exact HEND.out
   have hcut:∀w,(Instr.slice 9(.string s)(some(.int .i64(p:Int)))(some(.int .i64(q:Int)))none).run Tryz.prog w= .ok(.string(txt(X9 s.data.toList p)))w:=fun w=>by
    have:=Gk(P:=Tryz.prog)(t:=9)s p q Tryz.underlying9 hpq hqs w
    rw[this];unfold X9;rw[HZ.out]
   rw[hn']
   clear hn hn'
   go_wp2_with fail
   go_quiet(fail)
   have HD:=Xa(Xq(w:=w2)nq)
   have HR2:=Xa(HR1.out.below HD.out)
   have HSK:=Xa(Vx HR2.out hs)
   generalize w2.drewN nq=W2 at HR2 HD HSK⊢
   clear nq c0 c1 f1
   go_wp2_with fail
   refine HSK.out.mono ?_
   rintro e w3⟨rfl,hr3,hb3⟩
   have HR3:=Xa hr3
   have HB3:=Xa(((HBT.out.trans HB1.out).trans(ButF.of_below HD.out)).trans hb3)
   clear hr3 hb3
   go_wp2_with fail
   go_ret
   exact⟨rfl,by rw[HZ.out];exact HR3.out,HB3.out⟩
  ·have hn':(Yt c||Zk c)=true:=hn
   have hq:q<s.size:=by
    rcases Nat.lt_or_ge q s.size with h|h
    ·exact h
    ·exfalso
     have:Xh s.data.toList q=0:=Q2(by rw[HLN.out];omega)
     rw[HC.out]at this
     subst this
     revert hn;decide
   have HNX:Hid(nmJ s.data.toList q=nmJ s.data.toList(q+1)):=Kb(by rw[HLN.out];exact hq)(by rw[HC.out];exact hn)
   rw[hn']
   clear hn hn'
   have e1:((q+1:Nat):Int)=(q:Int)+1:=by omega
   have HR2:=Xa(HR1.out.to(q:=q+1)hq)
   rw[e1]at HR2
   have HB2:=Xa((HBT.out.trans HB1.out).trans(ButF.of_set 1(.int .i64((q:Int)+1))))
   clear e1
   go_wp2_with fail
   go_roundw
   case rel=>exact⟨q+1,HR2.out,by rw[Hid,←HNX.out];exact HK.out,HB2.out,by omega⟩
   case measure=>rw[HS.out.place,HR2.out.place];omega
set_option maxRecDepth 100000 in
theorem Xau{rb mb base p:Nat}{Z:Nat→Prop}{s u:ByteArray}{fs:List FN}{w:World}(h:FrAt w rb mb base Z s p fs)(hs:s.size≤4000):
  Calls Tryz.prog 193 #[.pointer(some⟨rb,0,none⟩), .string u]w fun e w'=>ButF rb base w w'∧((X9 s.data.toList p=u.data.toList∧e= .returned(.tuple #[])∧FrAt w' rb mb base Z s(skF s.data.toList(nmJ s.data.toList p))fs)∨(X9 s.data.toList p≠u.data.toList∧e=gup)):=by
 have HN:=Xa(Uu h hs)
 obtain⟨t,ht⟩:∃t,txt(X9 s.data.toList p)=t:=⟨_,rfl⟩
 have HT:Hid(X9 s.data.toList p=t.data.toList):=by rw[Hid,←ht,Xz]
 rw[ht]at HN
 clear h ht
 by_cases he:t=u
 ·subst he
  have q1:(t.toList==t.toList)=true:=by simp
  have q2:(t.toList !=t.toList)=false:=by simp
  go_enter Tryz.func193,Tryz.ntmps193
  go_wp2_with fail
  refine HN.out.mono ?_
  rintro e w1⟨rfl,h1,h2⟩
  have H1:=Xa h1
  have H2:=Xa h2
  clear h1 h2
  go_wp2_with fail
  go_end0
  exact⟨H2.out, .inl⟨HT.out,rfl,H1.out⟩⟩
 ·have hne:t.data.toList≠u.data.toList:=fun e=>he(by rw[←Ql t,e,Ql])
  have HNE:Hid(X9 s.data.toList p≠u.data.toList):=by rw[Hid,HT.out];exact hne
  have q0:¬t.toList=u.toList:=fun e=>he(Xdn(by rw[e];simp))
  have q1:(t.toList==u.toList)=false:=by simpa using q0
  have q2:(t.toList !=u.toList)=true:=by simpa using q0
  clear he hne
  go_enter Tryz.func193,Tryz.ntmps193
  go_wp2_with fail
  refine HN.out.mono ?_
  rintro e w1⟨rfl,h1,h2⟩
  have H2:=Xa h2
  clear h1 h2
  go_wp2_with fail
  exact⟨rfl,H2.out, .inr⟨HNE.out,rfl⟩⟩

theorem Gq{R:Ending→World→Prop}{a:Act}{W:World}{b:Nat}{c0 c1 c2 c3 c4 v:Value}{T:TypeId}{z:Nat×Nat}(hh:W.heap[b]? =some(.cells #[c0,c1,c2,c3,c4]T z))(h2:a.tmps.getD 2 undef= .pointer(some⟨b,0,none⟩))(h3:a.tmps.getD 3 undef=v)(hd:a.defers= [])(hR:R(.returned(.tuple #[.agg #[c0,c1,c2,c3,c4],v]))W):bodyPost Tryz.prog Tryz.f111 R .ret a W:=by
 have x0:W.cell?⟨b,0,none⟩=some c0:=cellAt hh(i:=0)rfl
 have x1:W.cell?⟨b,1,none⟩=some c1:=cellAt hh(i:=1)rfl
 have x2:W.cell?⟨b,2,none⟩=some c2:=cellAt hh(i:=2)rfl
 have x3:W.cell?⟨b,3,none⟩=some c3:=cellAt hh(i:=3)rfl
 have x4:W.cell?⟨b,4,none⟩=some c4:=cellAt hh(i:=4)rfl
 have h2':a.tmps[2]?.getD undef= .pointer(some⟨b,0,none⟩):=by simpa using h2
 have h3':a.tmps[3]?.getD undef=v:=by simpa using h3
 refine bodyPost_ret ?_ hd hR
 simp[results,Tryz.results111,go_sem,h2',h3',x0,x1,x2,x3,x4]
theorem Xee(mb a b:Nat):∃k t l f r ok,(∀w:World,w.heap[mb]? =some(.map(Qr 10)10)→(Instr.lookup 62(.map(some mb))(.agg #[.int .u8(a:Int), .int .u8(b:Int)])true).run Tryz.prog w= .ok(.tuple #[.agg #[.int .i64 k, .string t, .int .i64 l, .int .i64 f, .int .i64 r], .bool ok])w)∧((ok=true∧Ga a b=some k∧t=txt(Zo k)∧l=Xp k∧f=Zw k∧r=Yv k)∨(ok=false∧Ga a b=none)):=by
 cases hk:Ga a b with
 |none=>exact⟨0,ByteArray.empty,0,0,0,false,fun w h=>by rw[Xii h,Xij,hk];rfl, .inr⟨rfl,rfl⟩⟩
 |some k=>exact⟨k,txt(Zo k),Xp k,Zw k,Yv k,true,fun w h=>by rw[Xii h,Xij,hk];rfl, .inl⟨rfl,rfl,rfl,rfl,rfl,rfl⟩⟩
theorem Xa9(mb a:Nat):∃k t l f r ok,(∀w:World,w.heap[mb]? =some(.map(Qr 10)10)→(Instr.lookup 62(.map(some mb))(.agg #[.int .u8(a:Int), .int .u8 0])true).run Tryz.prog w= .ok(.tuple #[.agg #[.int .i64 k, .string t, .int .i64 l, .int .i64 f, .int .i64 r], .bool ok])w)∧((ok=true∧Ga a 0=some k∧t=txt(Zo k)∧l=Xp k∧f=Zw k∧r=Yv k)∨(ok=false∧Ga a 0=none)):=Xee mb a 0
def jhV(o:Option(Int×Nat)):Value:=match o with
 |some(k,n)=> .tuple #[.agg #[.int .i64 k, .string(txt(Zo k)), .int .i64(Xp k), .int .i64(Zw k), .int .i64(Yv k)], .int .i64(n:Int)]
 |none=> .tuple #[.agg #[.int .i64 0, .string⟨#[]⟩, .int .i64 0, .int .i64 0, .int .i64 0], .int .i64 0]

set_option maxRecDepth 100000 in
theorem Xhu{rb mb base p:Nat}{Z:Nat→Prop}{s:ByteArray}{fs:List FN}{w:World}(h:FrAt w rb mb base Z s p fs)(hs:s.size≤4000)(hq:p+1<s.size):
  Calls Tryz.prog 111 #[.pointer(some⟨rb,0,none⟩)]w fun e w'=>e= .returned(jhV(X0 s.data.toList p))∧Below w.heap.size w w':=by
 obtain⟨W1,hW1⟩:∃W1,w.alloc(.cells #[.int .i64 0, .string⟨#[]⟩, .int .i64 0, .int .i64 0, .int .i64 0]91)=W1:=⟨_,rfl⟩
 have hb1:Below w.heap.size w W1:=by rw[←hW1];exact(Below.refl _ _).alloc(Nat.le_refl _)_
 have hx1:W1.heap[w.heap.size]? =some(.cells #[.int .i64 0, .string⟨#[]⟩, .int .i64 0, .int .i64 0, .int .i64 0]91(0,0)):=by rw[←hW1];exact heap_alloc_new w _
 have hz1:w.heap.size<W1.heap.size:=by rw[←hW1];simp
 have HLN:=Xa(Xm s)
 have hp:=h.le
 have HJ:Hid(X0 s.data.toList p=Uj(Xh s.data.toList p)(Xh s.data.toList(p+1))):=by rw[Hid,Xoy,Xu7]
 obtain⟨c,hc⟩:∃c,Xh s.data.toList p=c:=⟨_,rfl⟩
 obtain⟨d,hd⟩:∃d,Xh s.data.toList(p+1)=d:=⟨_,rfl⟩
 have hc256:c<256:=by rw[←hc];exact Jt _ _
 have hd256:d<256:=by rw[←hd];exact Jt _ _
 rw[hc,hd]at HJ
 have HD:=Xa hd
 have HX1:=Xa hx1
 have HB1:=Xa hb1
 have HF1:=Xa(h.below hb1)
 have HPK:=Xa(Xax(let⟨v,h1,_⟩:=HF1.out.ex;h1.br)(by omega))
 rw[hc]at HPK
 clear h hb1 hx1 hc hd
 go_enter Tryz.func111,Tryz.ntmps111
 go_wp2_with fail
 (try rw[hW1])
 refine HPK.out.mono ?_
 rintro e w1⟨rfl,hb2⟩
 have HB2:=Xa hb2
 have HF2:=Xa(HF1.out.below hb2)
 have hz2:w.heap.size<w1.heap.size:=Nat.lt_of_lt_of_le hz1 hb2.size
 have HX2:Hid(w1.heap[w.heap.size]? =_):=(hb2.block _ hz1).trans HX1.out
 obtain⟨W2,hW2⟩:∃W2,w1.alloc(.cells #[.int .u8(c:Int), .int .u8 0]110)=W2:=⟨_,rfl⟩
 have hb3:Below w1.heap.size w1 W2:=by rw[←hW2];exact(Below.refl _ _).alloc(Nat.le_refl _)_
 have HB3:=Xa hb3
 have HF3:=Xa(HF2.out.below hb3)
 have HX3:Hid(W2.heap[w.heap.size]? =_):=(hb3.block _ hz2).trans HX2.out
 have HY3:Hid(W2.heap[w1.heap.size]? =some(.cells #[.int .u8(c:Int), .int .u8 0]110(0,0))):=by rw[Hid,←hW2];exact heap_alloc_new w1 _
 have hz3:w1.heap.size<W2.heap.size:=by rw[←hW2];simp
 have HW2:=Xa hW2
 clear hb2 hb3 hW2
 go_wp2_with fail
 rw[HW2.out]
 obtain⟨c0,c1,f1,lt0⟩:=HF3.out.cells
 have y0:W2.cell?⟨w1.heap.size,0,none⟩=some(.int .u8(c:Int)):=cellAt HY3.out rfl
 have y1:W2.cell?⟨w1.heap.size,1,none⟩=some(.int .u8 0):=cellAt HY3.out rfl
 have g1:W2.frozen?⟨w1.heap.size,1,none⟩=false:=Lib.frozen_of_heap HY3.out 1
 have hq':(p:Int)+1<(s.size:Int):=by omega
 have hqd:decide((p:Int)+1<(s.size:Int))=true:=by simpa using hq'
 have hby:s[p+1].toNat=d:=by rw[byS hq];exact HD.out
 have hte:((p:Int)+1).toNat=p+1:=by omega
 go_quiet(fail)
 have HD4:=Xa(Xq(w:=W2)nq)
 obtain⟨W3,hW3⟩:∃W3,W2.drewN nq=W3:=⟨_,rfl⟩
 rw[hW3]at HD4⊢
 have HF4:=Xa(HF3.out.below HD4.out)
 have HX4:Hid(W3.heap[w.heap.size]? =_):=(HD4.out.block _(by omega)).trans HX3.out
 have hy4:W3.heap[w1.heap.size]? =some(.cells #[.int .u8(c:Int), .int .u8 0]110(0,0)):=(HD4.out.block _(by omega)).trans HY3.out
 have hz4:w1.heap.size<W3.heap.size:=Nat.lt_of_lt_of_le hz3 HD4.out.size
 clear c0 c1 f1 lt0 y0 y1 g1 hW3 nq
 obtain⟨c0,c1,f1,lt0⟩:=HF4.out.cells
 have y1:W3.cell?⟨w1.heap.size,1,none⟩=some(.int .u8 0):=cellAt hy4 rfl
 have g1:W3.frozen?⟨w1.heap.size,1,none⟩=false:=Lib.frozen_of_heap hy4 1
 have HY4:=Xa hy4
 clear hy4
 go_wp2_with fail
 go_region
 obtain⟨WA,hWA⟩:∃WA,(W3.setCell⟨w1.heap.size,1,none⟩(.int .u8(d:Int))).drew=WA:=⟨_,rfl⟩
 rw[hWA]
 have hbA:Below w1.heap.size W3 WA:=by rw[←hWA];exact((Below.refl _ _).setCell(p:=⟨w1.heap.size,1,none⟩)(Nat.le_refl _)_).drew
 have HYA:Hid(WA.heap[w1.heap.size]? =some(.cells #[.int .u8(c:Int), .int .u8(d:Int)]110(0,0))):=by rw[Hid,←hWA];exact setH HY4.out _
 have HXA:Hid(WA.heap[w.heap.size]? =_):=(hbA.block _(by omega)).trans HX4.out
 have hzA:w1.heap.size<WA.heap.size:=Nat.lt_of_lt_of_le hz4 hbA.size
 have HBA:Hid(Below w.heap.size w WA):=(((HB1.out.trans(HB2.out.mono(by omega))).trans(HB3.out.mono(by omega))).trans(HD4.out.mono(by omega))).trans(hbA.mono(by omega))
 have m3:WA.cell?⟨rb,3,none⟩=some(.map(some mb)):=by
  obtain⟨v,h1,_⟩:=HF4.out.ex
  rw[←hWA]
  simp only[World.cell?_drew]
  rw[World.cell?_setCell_other(h:=by have:=(HF2.out.cells).2.2.2;simp;try omega)]
  exact h1.bl 3(by decide)
 have mmp:WA.heap[mb]? =some(.map(Qr 10)10):=(hbA.block mb(by have:=HF2.out.box.mb_lt;have:=HF2.out.box.sz;omega)).trans HF4.out.box.mp
 clear hWA hbA c0 c1 f1 y1 g1 hq hq' hqd hby hte HD4 HF4 HX4 HY4 hz4
 all_goals
  obtain⟨k1,t1,l1,fl1,r1,ok1,hlk,hor1⟩:=Xee mb c d
  have hlk1:=hlk WA.drew mmp
  have hmb:mb<WA.heap.size:=Wy mmp
  have hlk2:=hlk((WA.alloc(.cells #[.int .i64 0, .string⟨#[]⟩, .int .i64 0, .int .i64 0, .int .i64 0]91)).drew)((heap_alloc_old WA _ hmb).trans mmp)
  have HOR1:=Xa hor1
  have HMP:=Xa mmp
  have hrl:rb<WA.heap.size:=by have:=HF2.out.cells.2.2.2;omega
  clear hor1 mmp hlk
  have y0:WA.cell?⟨w1.heap.size,0,none⟩=some(.int .u8(c:Int)):=cellAt HYA.out rfl
  have y1:WA.cell?⟨w1.heap.size,1,none⟩=some(.int .u8(d:Int)):=cellAt HYA.out rfl
  have HW2':=HW2
  clear HW2
  go_wp2_with fail
  go_region
 all_goals
  obtain⟨WB,hWB⟩:∃WB,(WA.alloc(.cells #[.int .i64 k1, .string t1, .int .i64 l1, .int .i64 fl1, .int .i64 r1]91)).drew=WB:=⟨_,rfl⟩
  rw[hWB]
  have hbB:Below WA.heap.size WA WB:=by rw[←hWB];exact((Below.refl _ _).alloc(Nat.le_refl _)_).drew
  have hjB:WB.heap[WA.heap.size]? =some(.cells #[.int .i64 k1, .string t1, .int .i64 l1, .int .i64 fl1, .int .i64 r1]91(0,0)):=by rw[←hWB];exact heap_alloc_new WA _
  have HXB:Hid(WB.heap[w.heap.size]? =_):=(hbB.block _(by omega)).trans HXA.out
  have HYB:Hid(WB.heap[w1.heap.size]? =_):=(hbB.block _(by omega)).trans HYA.out
  have HMPB:Hid(WB.heap[mb]? =_):=(hbB.block _ hmb).trans HMP.out
  have HBB:=Xa(HBA.out.trans(hbB.mono(by omega)))
  have hzB:WA.heap.size<WB.heap.size:=by rw[←hWB];simp
  have hmbB:mb<WB.heap.size:=by omega
  have m3':WB.cell?⟨rb,3,none⟩=some(.map(some mb)):=(Xcv(hbB.block rb hrl)).trans m3
  clear hWB hbB hlk1 hlk2 m3 y0 y1
  have m3:=m3'
  clear m3'
  have y0:WB.cell?⟨w1.heap.size,0,none⟩=some(.int .u8(c:Int)):=cellAt HYB.out rfl
  have y1:WB.cell?⟨w1.heap.size,1,none⟩=some(.int .u8(d:Int)):=cellAt HYB.out rfl
  have j0:=cellAt hjB(i:=0)rfl
  have j1:=cellAt hjB(i:=1)rfl
  have j2:=cellAt hjB(i:=2)rfl
  have j3:=cellAt hjB(i:=3)rfl
  have j4:=cellAt hjB(i:=4)rfl
  have u0:=cellAt HXB.out(i:=0)rfl
  have u1:=cellAt HXB.out(i:=1)rfl
  have u2:=cellAt HXB.out(i:=2)rfl
  have u3:=cellAt HXB.out(i:=3)rfl
  have u4:=cellAt HXB.out(i:=4)rfl
  have v0:WB.frozen?⟨w.heap.size,0,none⟩=false:=Lib.frozen_of_heap HXB.out 0
  have v1:WB.frozen?⟨w.heap.size,1,none⟩=false:=Lib.frozen_of_heap HXB.out 1
  have v2:WB.frozen?⟨w.heap.size,2,none⟩=false:=Lib.frozen_of_heap HXB.out 2
  have v3:WB.frozen?⟨w.heap.size,3,none⟩=false:=Lib.frozen_of_heap HXB.out 3
  have v4:WB.frozen?⟨w.heap.size,4,none⟩=false:=Lib.frozen_of_heap HXB.out 4
  have hne2:¬w.heap.size=WA.heap.size:=by omega
  have hne3:¬WA.heap.size=w.heap.size:=by omega
  have hrlB:rb<WB.heap.size:=by omega
  have hw1B:w1.heap.size<WB.heap.size:=by omega
  clear hjB HXA HYA HMP hrl hmb
  by_cases hA:ok1=true∧d≠0
  ·obtain⟨hok,hd0⟩:=hA
   subst hok
   have dne:((d:Int) !=0)=true:=by simp;omega
   have dne2:¬(d:Int)=0:=by omega
   have HR:Hid(jhV(X0 s.data.toList p)= .tuple #[.agg #[.int .i64 k1, .string t1, .int .i64 l1, .int .i64 fl1, .int .i64 r1], .int .i64 2]):=by
    rcases HOR1.out with⟨_,hk,e1,e2,e3,e4⟩|⟨e,_⟩
    ·rw[Hid,HJ.out];unfold Uj;rw[if_neg hd0,hk,e1,e2,e3,e4];rfl
    ·cases e
   clear HOR1
   go_wp2_with fail
   refine Gq(Xac HXB.out)rfl rfl rfl ?_
   exact⟨by rw[HR.out];rfl,((((HBB.out.setCell(p:=⟨w.heap.size,0,none⟩)(Nat.le_refl _)_).setCell(p:=⟨w.heap.size,1,none⟩)(Nat.le_refl _)_).setCell(p:=⟨w.heap.size,2,none⟩)(Nat.le_refl _)_).setCell(p:=⟨w.heap.size,3,none⟩)(Nat.le_refl _)_).setCell(p:=⟨w.heap.size,4,none⟩)(Nat.le_refl _)_⟩
  have HFST:Hid((if d=0 then none else Ga c d)=none):=by
   rw[Hid]
   split
   ·rfl
   ·rename_i hd0
    rcases HOR1.out with⟨e,_⟩|⟨_,hk⟩
    ·exact absurd⟨e,hd0⟩hA
    ·exact hk
  have hB:ok1=false∨(ok1=true∧(d:Int)=0):=by
   cases ok1
   ·exact .inl rfl
   ·refine .inr⟨rfl, ?_⟩
    by_cases h:d=0
    ·omega
    ·exact absurd⟨rfl,h⟩hA
  clear HOR1 hA
  rcases hB with hB|⟨hB,hd0⟩
  ·subst hB
   obtain⟨k2,t2,l2,fl2,r2,ok2,hlk,hor2⟩:=Xa9 mb c
   have hlk1:=hlk WB.drew HMPB.out
   have hlk2:=hlk((WB.alloc(.cells #[.int .i64 0, .string⟨#[]⟩, .int .i64 0, .int .i64 0, .int .i64 0]91)).drew)((heap_alloc_old WB _ hmbB).trans HMPB.out)
   clear hlk
   have HOR2:=Xa hor2
   clear hor2
   go_wp2_with fail
   go_region
   all_goals
    obtain⟨WC,hWC⟩:∃WC,(WB.alloc(.cells #[.int .i64 k2, .string t2, .int .i64 l2, .int .i64 fl2, .int .i64 r2]91)).drew=WC:=⟨_,rfl⟩
    rw[hWC]
    have hbC:Below WB.heap.size WB WC:=by rw[←hWC];exact((Below.refl _ _).alloc(Nat.le_refl _)_).drew
    have hjC:WC.heap[WB.heap.size]? =some(.cells #[.int .i64 k2, .string t2, .int .i64 l2, .int .i64 fl2, .int .i64 r2]91(0,0)):=by rw[←hWC];exact heap_alloc_new WB _
    have HXC:Hid(WC.heap[w.heap.size]? =_):=(hbC.block _(by omega)).trans HXB.out
    have HBC:=Xa(HBB.out.trans(hbC.mono(by omega)))
    have hzC:WB.heap.size<WC.heap.size:=by rw[←hWC];simp
    clear hWC hbC hlk1 hlk2 m3 y0 y1 u0 u1 u2 u3 u4 v0 v1 v2 v3 v4 j0 j1 j2 j3 j4
    have j0:=cellAt hjC(i:=0)rfl
    have j1:=cellAt hjC(i:=1)rfl
    have j2:=cellAt hjC(i:=2)rfl
    have j3:=cellAt hjC(i:=3)rfl
    have j4:=cellAt hjC(i:=4)rfl
    have u0:=cellAt HXC.out(i:=0)rfl
    have u1:=cellAt HXC.out(i:=1)rfl
    have u2:=cellAt HXC.out(i:=2)rfl
    have u3:=cellAt HXC.out(i:=3)rfl
    have u4:=cellAt HXC.out(i:=4)rfl
    have v0:WC.frozen?⟨w.heap.size,0,none⟩=false:=Lib.frozen_of_heap HXC.out 0
    have v1:WC.frozen?⟨w.heap.size,1,none⟩=false:=Lib.frozen_of_heap HXC.out 1
    have v2:WC.frozen?⟨w.heap.size,2,none⟩=false:=Lib.frozen_of_heap HXC.out 2
    have v3:WC.frozen?⟨w.heap.size,3,none⟩=false:=Lib.frozen_of_heap HXC.out 3
    have v4:WC.frozen?⟨w.heap.size,4,none⟩=false:=Lib.frozen_of_heap HXC.out 4
    have hne2:¬w.heap.size=WB.heap.size:=by omega
    have hne3:¬WB.heap.size=w.heap.size:=by omega
    clear hjC
    rcases HOR2.out with⟨e,hk,e1,e2,e3,e4⟩|⟨e,hk⟩
    ·subst e
     have HR:Hid(jhV(X0 s.data.toList p)= .tuple #[.agg #[.int .i64 k2, .string t2, .int .i64 l2, .int .i64 fl2, .int .i64 r2], .int .i64 1]):=by rw[Hid,HJ.out];unfold Uj;rw[HFST.out,hk,e1,e2,e3,e4];rfl
     clear hk e1 e2 e3 e4 HOR2
     go_wp2_with fail
     refine Gq(Xac HXC.out)rfl rfl rfl ?_
     exact⟨by rw[HR.out];rfl,((((HBC.out.setCell(p:=⟨w.heap.size,0,none⟩)(Nat.le_refl _)_).setCell(p:=⟨w.heap.size,1,none⟩)(Nat.le_refl _)_).setCell(p:=⟨w.heap.size,2,none⟩)(Nat.le_refl _)_).setCell(p:=⟨w.heap.size,3,none⟩)(Nat.le_refl _)_).setCell(p:=⟨w.heap.size,4,none⟩)(Nat.le_refl _)_⟩
    ·subst e
     have HR:Hid(jhV(X0 s.data.toList p)= .tuple #[.agg #[.int .i64 0, .string⟨#[]⟩, .int .i64 0, .int .i64 0, .int .i64 0], .int .i64 0]):=by rw[Hid,HJ.out];unfold Uj;rw[HFST.out,hk];rfl
     clear hk HOR2
     go_wp2_with fail
     refine Gq(Xac HXC.out)rfl rfl rfl ?_
     exact⟨by rw[HR.out];rfl,((((HBC.out.setCell(p:=⟨w.heap.size,0,none⟩)(Nat.le_refl _)_).setCell(p:=⟨w.heap.size,1,none⟩)(Nat.le_refl _)_).setCell(p:=⟨w.heap.size,2,none⟩)(Nat.le_refl _)_).setCell(p:=⟨w.heap.size,3,none⟩)(Nat.le_refl _)_).setCell(p:=⟨w.heap.size,4,none⟩)(Nat.le_refl _)_⟩
  ·subst hB
   rw[hd0]at y1
   clear hd0
   obtain⟨k2,t2,l2,fl2,r2,ok2,hlk,hor2⟩:=Xa9 mb c
   have hlk1:=hlk WB.drew HMPB.out
   have hlk2:=hlk((WB.alloc(.cells #[.int .i64 0, .string⟨#[]⟩, .int .i64 0, .int .i64 0, .int .i64 0]91)).drew)((heap_alloc_old WB _ hmbB).trans HMPB.out)
   clear hlk
   have HOR2:=Xa hor2
   clear hor2
   go_wp2_with fail
   go_region
   all_goals
    obtain⟨WC,hWC⟩:∃WC,(WB.alloc(.cells #[.int .i64 k2, .string t2, .int .i64 l2, .int .i64 fl2, .int .i64 r2]91)).drew=WC:=⟨_,rfl⟩
    rw[hWC]
    have hbC:Below WB.heap.size WB WC:=by rw[←hWC];exact((Below.refl _ _).alloc(Nat.le_refl _)_).drew
    have hjC:WC.heap[WB.heap.size]? =some(.cells #[.int .i64 k2, .string t2, .int .i64 l2, .int .i64 fl2, .int .i64 r2]91(0,0)):=by rw[←hWC];exact heap_alloc_new WB _
    have HXC:Hid(WC.heap[w.heap.size]? =_):=(hbC.block _(by omega)).trans HXB.out
    have HBC:=Xa(HBB.out.trans(hbC.mono(by omega)))
    have hzC:WB.heap.size<WC.heap.size:=by rw[←hWC];simp
    clear hWC hbC hlk1 hlk2 m3 y0 y1 u0 u1 u2 u3 u4 v0 v1 v2 v3 v4 j0 j1 j2 j3 j4
    have j0:=cellAt hjC(i:=0)rfl
    have j1:=cellAt hjC(i:=1)rfl
    have j2:=cellAt hjC(i:=2)rfl
    have j3:=cellAt hjC(i:=3)rfl
    have j4:=cellAt hjC(i:=4)rfl
    have u0:=cellAt HXC.out(i:=0)rfl
    have u1:=cellAt HXC.out(i:=1)rfl
    have u2:=cellAt HXC.out(i:=2)rfl
    have u3:=cellAt HXC.out(i:=3)rfl
    have u4:=cellAt HXC.out(i:=4)rfl
    have v0:WC.frozen?⟨w.heap.size,0,none⟩=false:=Lib.frozen_of_heap HXC.out 0
    have v1:WC.frozen?⟨w.heap.size,1,none⟩=false:=Lib.frozen_of_heap HXC.out 1
    have v2:WC.frozen?⟨w.heap.size,2,none⟩=false:=Lib.frozen_of_heap HXC.out 2
    have v3:WC.frozen?⟨w.heap.size,3,none⟩=false:=Lib.frozen_of_heap HXC.out 3
    have v4:WC.frozen?⟨w.heap.size,4,none⟩=false:=Lib.frozen_of_heap HXC.out 4
    have hne2:¬w.heap.size=WB.heap.size:=by omega
    have hne3:¬WB.heap.size=w.heap.size:=by omega
    clear hjC
    rcases HOR2.out with⟨e,hk,e1,e2,e3,e4⟩|⟨e,hk⟩
    ·subst e
     have HR:Hid(jhV(X0 s.data.toList p)= .tuple #[.agg #[.int .i64 k2, .string t2, .int .i64 l2, .int .i64 fl2, .int .i64 r2], .int .i64 1]):=by rw[Hid,HJ.out];unfold Uj;rw[HFST.out,hk,e1,e2,e3,e4];rfl
     clear hk e1 e2 e3 e4 HOR2
     go_wp2_with fail
     refine Gq(Xac HXC.out)rfl rfl rfl ?_
     exact⟨by rw[HR.out];rfl,((((HBC.out.setCell(p:=⟨w.heap.size,0,none⟩)(Nat.le_refl _)_).setCell(p:=⟨w.heap.size,1,none⟩)(Nat.le_refl _)_).setCell(p:=⟨w.heap.size,2,none⟩)(Nat.le_refl _)_).setCell(p:=⟨w.heap.size,3,none⟩)(Nat.le_refl _)_).setCell(p:=⟨w.heap.size,4,none⟩)(Nat.le_refl _)_⟩
    ·subst e
     have HR:Hid(jhV(X0 s.data.toList p)= .tuple #[.agg #[.int .i64 0, .string⟨#[]⟩, .int .i64 0, .int .i64 0, .int .i64 0], .int .i64 0]):=by rw[Hid,HJ.out];unfold Uj;rw[HFST.out,hk];rfl
     clear hk HOR2
     go_wp2_with fail
     refine Gq(Xac HXC.out)rfl rfl rfl ?_
     exact⟨by rw[HR.out];rfl,((((HBC.out.setCell(p:=⟨w.heap.size,0,none⟩)(Nat.le_refl _)_).setCell(p:=⟨w.heap.size,1,none⟩)(Nat.le_refl _)_).setCell(p:=⟨w.heap.size,2,none⟩)(Nat.le_refl _)_).setCell(p:=⟨w.heap.size,3,none⟩)(Nat.le_refl _)_).setCell(p:=⟨w.heap.size,4,none⟩)(Nat.le_refl _)_⟩

def LfOr(r:RF)(rb base:Nat)(Z:Nat→Prop)(s:ByteArray)(p0:Nat)(w:World)(e:Ending)(w':World):Prop:=
 LB rb base Z w w'∧∃(n:Int)(fs':List FN)(p':Nat),e= .returned(.int .i64 n)∧p0≤p'∧((r=some(n,fs',skF s.data.toList p')∧LfAt w' rb base Z s p' false fs'∧fs'.length≤40)∨(r=none∧fs'.length+p0≤42+p'∧LfAt w' rb base Z s p' true fs'))
theorem LfOr.of{r r':RF}{rb base p0:Nat}{Z:Nat→Prop}{s:ByteArray}{w w':World}{e:Ending}(hr:r=r')(h:LfOr r' rb base Z s p0 w e w'):LfOr r rb base Z s p0 w e w':=by rw[hr];exact h
theorem LfOr.after{r:RF}{rb base p0 p1:Nat}{Z:Nat→Prop}{s:ByteArray}{w w1 w':World}{e:Ending}(hb:LB rb base Z w w1)(hp:p0≤p1)(h:LfOr r rb base Z s p1 w1 e w'):LfOr r rb base Z s p0 w e w':=by
 obtain⟨h1,n,fs',p',he,hq,hc⟩:=h
 refine⟨hb.trans h1,n,fs',p',he,by omega, ?_⟩
 rcases hc with hc|⟨a,b,c⟩
 ·exact .inl hc
 ·exact .inr⟨a,by omega,c⟩
theorem LfOr.add{x:FN}{fs:List FN}{rb base p0 p':Nat}{Z:Nat→Prop}{s:ByteArray}{w w':World}(h:LfAt w' rb base Z s p'(false||decide(40<fs.length+1))(fs++ [x]))(hfs:fs.length≤40)(hp:p0≤p')(hb:LB rb base Z w w'):LfOr(Xu WSp x fs(skF s.data.toList p'))rb base Z s p0 w(.returned(.int .i64(fs.length:Int)))w':=by
 refine⟨hb,_,fs++ [x],p',rfl,hp, ?_⟩
 by_cases hk:40<fs.length+1
 ·right
  refine⟨by unfold Xu;rw[if_pos⟨rfl,hk⟩],by simp;omega, ?_⟩
  have e:(false||decide(40<fs.length+1))=true:=by simp[hk]
  rw[e]at h;exact h
 ·left
  refine⟨by unfold Xu;rw[if_neg(fun e=>hk e.2)], ?_,by simp;omega⟩
  have e:(false||decide(40<fs.length+1))=false:=by simp[hk]
  rw[e]at h;exact h
theorem LfOr.addB{r:RF}{x:FN}{fs:List FN}{rb base p0 p':Nat}{Z:Nat→Prop}{s:ByteArray}{w w':World}(hr:r=none)(h:LfAt w' rb base Z s p'(true||decide(40<fs.length+1))(fs++ [x]))(hfs:fs.length+1+p0≤42+p')(hp:p0≤p')(hb:LB rb base Z w w'):LfOr r rb base Z s p0 w(.returned(.int .i64(fs.length:Int)))w':=by
 refine⟨hb,_,fs++ [x],p',rfl,hp, .inr⟨hr,by simp;omega, ?_⟩⟩
 rw[Bool.true_or]at h;exact h
theorem LfOr.no{r:RF}{fs:List FN}{n:Int}{rb base p0 p':Nat}{Z:Nat→Prop}{s:ByteArray}{w w':World}(hr:r=none)(h:LfAt w' rb base Z s p' true fs)(hfs:fs.length+p0≤42+p')(hp:p0≤p')(hb:LB rb base Z w w'):LfOr r rb base Z s p0 w(.returned(.int .i64 n))w':=⟨hb,n,fs,p',rfl,hp, .inr⟨hr,hfs,h⟩⟩
theorem Qn{rb base p:Nat}{Z:Nat→Prop}{s:ByteArray}{bad:Bool}{fs:List FN}{w:World}(h:LfAt w rb base Z s p bad fs)(hl:fs.length≤4000)(k:Int)(nm:ByteArray)(pl:Int):
  Calls Tryz.prog 80 #[.pointer(some⟨rb,0,none⟩), .agg #[.int .i64 k, .string nm, .int .i64 pl, .slice none 0 0, .slice none 0 0, .slice none 0 0]]w fun e w'=>e= .returned(.int .i64(fs.length:Int))∧LfAt w' rb base Z s p(bad||decide(40<fs.length+1))(fs++ [⟨k,nm,pl,[],[],[]⟩])∧LB rb base Z w w':=
 Xbg(x:=⟨k,nm,pl,[],[],[]⟩)h(U2 _ _)(World.ownsRow_nil _ _ _ _)(World.ownsRow_nil _ _ _ _)(fun y hy=>by rcases hy with e|e|e<;>cases e)(fun y hy=>⟨hy,fun e=>by rcases e with e|e|e<;>cases e⟩)hl
theorem Xo5(w:World)(base:Nat)(ks:List Int)(hb:base≤w.heap.size)(hn:ks.length≤1000):(w.alloc(.cells(ks.map(Value.int .i64)).toArray 2)).ownsRow base 2 1(.slice(some⟨w.heap.size,0,none⟩)ks.length ks.length)ks.length(ks.map(.int .i64)):=by
 have:=World.ownsRow_lit(base:=base)(e:=2)(size:=1)w(ks.map(Value.int .i64)).toArray ks.length hb(by unfold maxLen;omega)(by simp)
 simpa using this
theorem Xad{rb base p:Nat}{Z:Nat→Prop}{s:ByteArray}{bad:Bool}{fs:List FN}{w:World}(h:LfAt w rb base Z s p bad fs)(hZ:∀x,Z x→x<w.heap.size)(hl:fs.length≤4000)(k:Int)(ks:List Int)(hn:ks.length≤1000):
  Calls Tryz.prog 80 #[.pointer(some⟨rb,0,none⟩), .agg #[.int .i64 k, .string ByteArray.empty, .int .i64 0, .slice none 0 0, .slice none 0 0, .slice(some⟨w.heap.size,0,none⟩)ks.length ks.length]](w.alloc(.cells(ks.map(Value.int .i64)).toArray 2))fun e w'=>e= .returned(.int .i64(fs.length:Int))∧LfAt w' rb base Z s p(bad||decide(40<fs.length+1))(fs++ [Yw k ks])∧LB rb base Z w w':=by
 have hb:Below w.heap.size w(w.alloc(.cells(ks.map(Value.int .i64)).toArray 2)):=(Below.refl _ _).alloc(Nat.le_refl _)_
 refine(Xbg(Z:=fun x=>Z x∨x=w.heap.size)(Z':=Z)(x:=Yw k ks)(h.fresh hb(fun x hx=>by rcases hx with hx|hx;exact .inl hx;exact .inr(by omega))(fun x hx=>by have:=hb.size;rw[show(w.alloc(.cells(ks.map(Value.int .i64)).toArray 2)).heap.size=w.heap.size+1 by simp];rcases hx with hx|hx;have:=hZ x hx;omega;omega))(U2 _ _)(World.ownsRow_nil _ _ _ _)(Xo5 w base ks h.sz hn)(fun y hy=> ?_)(fun y hy=>⟨.inl hy,fun e=> ?_⟩)hl).mono ?_
 ·rcases hy with e|e|e
  ·cases e
  ·cases e
  ·simp[Value.ownBlock]at e;exact .inr e.symm
 ·rcases e with e|e|e
  ·cases e
  ·cases e
  ·simp[Value.ownBlock]at e;have:=hZ y hy;omega
 ·rintro e w'⟨rfl,h1,h2⟩
  exact⟨rfl,h1,(LB.of_below hb).trans(h2.mono fun x hx=> .inl hx)⟩
set_option maxRecDepth 100000 in
theorem Xkm{rb base p:Nat}{Z Z':Nat→Prop}{s:ByteArray}{bad:Bool}{fs:List FN}{w:World}{v:VN}{kc:Value}(h:LfAt w rb base Z s p bad fs)(hc:Nest base w kc [v]Qt Qt)(hfr:∀y,kc.ownBlock=some y→Z y)(hz:∀y,Z' y→Z y∧¬kc.ownBlock=some y)(hl:fs.length≤4000):
  Calls Tryz.prog 117 #[.pointer(some⟨rb,0,none⟩),kc]w fun e w'=>e= .returned(.int .i64(fs.length:Int))∧LfAt w' rb base Z' s p(bad||decide(40<fs.length+1))(fs++ [Zt v])∧LB rb base Z w w':=by
 have HA:=Xa(Xbg(Z':=Z')(x:=Zt v)(kc:=kc)(kn:= .slice none 0 0)(ki:= .slice none 0 0)h hc(World.ownsRow_nil _ _ _ _)(World.ownsRow_nil _ _ _ _)(fun y hy=>by rcases hy with e|e|e;exact hfr y e;cases e;cases e)(fun y hy=>⟨(hz y hy).1,fun e=>by rcases e with e|e|e;exact(hz y hy).2 e;cases e;cases e⟩)hl)
 obtain⟨ac,cc,ekc⟩:=Ki hc.row
 clear h hc hfr hz
 subst ekc
 go_enter Tryz.func117,Tryz.ntmps117
 go_wp2_with fail
 refine HA.out.mono ?_
 rintro e w1⟨rfl,h1,b1⟩
 have HF1:=Xa h1
 have HB1:=Xa b1
 clear h1 b1
 go_wp2_with fail
 go_ret
 exact⟨rfl,HF1.out,HB1.out⟩

theorem Xp5{L:List UInt8}{q:Nat}{c:UInt8}{u:List UInt8}(hc:Yt c.toNat=true)(hne:¬(L.drop q).take(wdJ L q-q)=c::u):X9 L q≠c::u:=by
 intro h
 unfold wdJ at hne
 by_cases hl:Yu L q=true
 ·rw[if_pos hl]at hne;exact hne h
 ·unfold X9 at h
  have hq:q<L.length:=by
   by_cases hq:q<L.length
   ·exact hq
   ·rw[List.drop_eq_nil_of_le(by omega)]at h;simp at h
  have hm:0<nmJ L q-q:=by
   by_cases hm:0<nmJ L q-q
   ·exact hm
   ·rw[show nmJ L q-q=0 by omega]at h;simp at h
  have hb:Xh((L.drop q).take(nmJ L q-q))0=Xh L(q+0):=V2 hm
  rw[h]at hb
  have:Xh L q=c.toNat:=hb.symm
  exact hl(by unfold Yu;rw[this,hc];simp[hq])
theorem Xhv{L:List UInt8}{q:Nat}{c:UInt8}{u:List UInt8}(he:(L.drop q).take(wdJ L q-q)=c::u):X9 L q=c::u∧wdJ L q=nmJ L q:=by
 by_cases hl:Yu L q=true
 ·have:wdJ L q=nmJ L q:=by unfold wdJ;rw[if_pos hl]
  rw[this]at he
  exact⟨he,this⟩
 ·unfold wdJ at he;rw[if_neg hl]at he;simp at he
set_option maxRecDepth 100000 in
theorem Xfh{rb base p:Nat}{Z:Nat→Prop}{s u:ByteArray}{bad:Bool}{fs:List FN}{w:World}(h:LfAt w rb base Z s p bad fs)(hs:s.size≤4000)(hu:∃c l,u.data.toList=c::l∧Yt c.toNat=true):
  Calls Tryz.prog 156 #[.pointer(some⟨rb,0,none⟩), .string u]w fun e w'=>e= .returned(.tuple #[])∧LB rb base Z w w'∧((bad=false∧X9 s.data.toList(skF s.data.toList p)=u.data.toList∧LfAt w' rb base Z s(nmJ s.data.toList(skF s.data.toList p))false fs)∨((bad=true∨X9 s.data.toList(skF s.data.toList p)≠u.data.toList)∧∃p',p≤p'∧LfAt w' rb base Z s p' true fs)):=by
 have HW:=Xa(Uv h hs)
 have hsk:=Xw s.data.toList p
 obtain⟨q,hq⟩:∃q,skF s.data.toList p=q:=⟨_,rfl⟩
 rw[hq]at HW hsk⊢
 obtain⟨c,l,hul,hcl⟩:=hu
 have hwq:q≤wdJ s.data.toList q:=by
  unfold wdJ;split
  ·exact Zh _ _ _
  ·exact Nat.le_refl _
 clear h hq
 obtain⟨T,hT⟩:∃T,(if bad=true then(⟨#[]⟩:ByteArray)else txt((s.data.toList.drop q).take(wdJ s.data.toList q-q)))=T:=⟨_,rfl⟩
 obtain⟨P,hP⟩:∃P,(if bad=true then q else wdJ s.data.toList q)=P:=⟨_,rfl⟩
 rw[hT,hP]at HW
 have hpP:p≤P:=by rw[←hP];split<;>omega
 by_cases he:T=u
 ·subst he
  have HYES:Hid(bad=false∧X9 s.data.toList q=T.data.toList∧P=nmJ s.data.toList q):=by
   rw[Hid]
   cases hb:bad
   ·rw[hb,if_neg(by decide)]at hT hP
    have e1:(s.data.toList.drop q).take(wdJ s.data.toList q-q)=c::l:=by rw[←hul,←hT,Xz]
    have e2:=Xhv e1
    exact⟨rfl,by rw[hul];exact e2.1,by rw[←hP];exact e2.2⟩
   ·rw[hb,if_pos rfl]at hT
    rw[←hT]at hul;simp at hul
  clear hT hP hul hcl hwq hsk
  have q1:(T.toList==T.toList)=true:=by simp
  have q2:(T.toList !=T.toList)=false:=by simp
  go_enter Tryz.func156,Tryz.ntmps156
  go_wp2_with fail
  refine HW.out.mono ?_
  rintro e w1⟨b1,rfl,h1⟩
  have HF1:=Xa h1
  have HB1:=Xa b1
  clear h1 b1
  go_wp2_with fail
  go_end0
  refine⟨rfl,HB1.out, .inl⟨HYES.out.1,HYES.out.2.1, ?_⟩⟩
  have:=HF1.out
  rw[HYES.out.1,HYES.out.2.2]at this
  exact this
 ·have HNO:Hid(bad=true∨X9 s.data.toList q≠u.data.toList):=by
   rw[Hid]
   cases hb:bad
   ·right
    rw[hb,if_neg(by decide)]at hT
    rw[hul]
    refine Xp5 hcl(fun e=>he ?_)
    rw[←hT,e,←hul,Ql]
   ·left;rfl
  have q0:¬T.toList=u.toList:=fun e=>he(Xdn(by rw[e];simp))
  have q1:(T.toList==u.toList)=false:=by simpa using q0
  have q2:(T.toList !=u.toList)=true:=by simpa using q0
  clear he hT hP hul hcl hwq hsk
  go_enter Tryz.func156,Tryz.ntmps156
  go_wp2_with fail
  refine HW.out.mono ?_
  rintro e w1⟨b1,rfl,h1⟩
  have HF1:=Xa(h1.setB true)
  have HB1:=Xa(b1.trans(LB.of_set 2(.bool true)))
  obtain⟨c0,c1,c2⟩:=h1.cells
  have f2:=h1.free 2
  clear h1 b1
  go_wp2_with fail
  go_end0
  exact⟨rfl,HB1.out, .inr⟨HNO.out,P,hpP,HF1.out⟩⟩

set_option maxRecDepth 100000 in
theorem Xox{rb base p:Nat}{Z:Nat→Prop}{s:ByteArray}{fs:List FN}{w:World}(h:LfAt w rb base Z s p false fs)(hs:s.size≤4000)(hl:fs.length≤40)(h1:Xe s.data.toList p 91=false)(h2:Yu s.data.toList p=false):
  Calls Tryz.prog 113 #[.pointer(some⟨rb,0,none⟩)]w(LfOr(Ym WSp s.data.toList fs p)rb base Z s p w):=by
 have HE:Hid(Ym WSp s.data.toList fs p=Xu WSp(Qw 1)fs(skF s.data.toList p)):=by rw[Hid];unfold Ym;rw[if_neg(by rw[h2];simp),if_neg(by rw[h1];simp)]
 have HLN:=Xa(Xm s)
 obtain⟨c0,c1,c2⟩:=h.cells
 have f1:=h.free 1
 have hple:=h.le
 have HF0:=Xa h
 have HB0:Hid(LB rb base Z w w):=LB.refl _ _ _ _
 clear h
 by_cases hlt:p<s.size
 focus
  have hlt':(p:Int)<(s.size:Int):=by omega
  have HB:=Xa(byS hlt)
  obtain⟨c,hc⟩:∃c,s[p].toNat=c:=⟨_,rfl⟩
  have hc256:c<256:=by rw[←hc];exact s[p].toNat_lt
  have HC:Hid(Xh s.data.toList p=c):=by rw[Hid,←HB.out];exact hc
  have hn:c≠91:=fun e=>by rw[Xl.2⟨by rw[HLN.out];exact hlt,by rw[HC.out];exact e⟩]at h1;cases h1
  have hlc:Yt c=false:=by
   unfold Yu at h2
   rw[HC.out,HLN.out]at h2
   simpa [hlt]using h2
  have n1:((c:Int)==91)=false:=by simp;omega
  have n2:¬(c:Int)=91:=by omega
  have HLL:=Xa(Kz c)
  rw[hlc]at HLL
  clear h1 h2 hn hlc
  go_enter Tryz.func113,Tryz.ntmps113
  go_wp2_with fail
  go_quiet(fail)
  have HD1:=Xa(Xq(w:=w)nq)
  have HF1:=Xa(HF0.out.below HD1.out)
  have HB1:=Xa(HB0.out.trans(LB.of_below HD1.out))
  clear c0 c1 c2 f1
  obtain⟨c0,c1,c2⟩:=HF1.out.cells
  have f1:=HF1.out.free 1
  generalize w.drewN nq=W1 at HD1 HF1 HB1 c0 c1 c2 f1⊢
  clear nq
  go_wp2_with fail
  go_quiet((go_at_call 103;exact Calls.quiet_of_same(HLL.out _ hc256)))
  have HD2:=Xa(Xq(w:=W1)nq)
  have HF2:=Xa(HF1.out.below HD2.out)
  have HB2:=Xa(HB1.out.trans(LB.of_below HD2.out))
  clear c0 c1 c2 f1
  obtain⟨c0,c1,c2⟩:=HF2.out.cells
  have f1:=HF2.out.free 1
  generalize W1.drewN nq=W2 at HD2 HF2 HB2 c0 c1 c2 f1⊢
  clear nq
  have HA:=Xa(Qn HF2.out(by omega)1 ByteArray.empty 0)
  go_wp2_with fail
  refine HA.out.mono ?_
  rintro e w9⟨rfl,h3,b3⟩
  have HF9:=Xa h3
  have HB9:=Xa(HB2.out.trans b3)
  clear h3 b3
  go_wp2_with fail
  go_ret
  exact LfOr.of HE.out(LfOr.add HF9.out hl(Nat.le_refl _)HB9.out)
 focus
  have hlt':¬(p:Int)<(s.size:Int):=by omega
  clear h1 h2
  go_enter Tryz.func113,Tryz.ntmps113
  go_wp2_with fail
  go_quiet(fail)
  have HD1:=Xa(Xq(w:=w)nq)
  have HF1:=Xa(HF0.out.below HD1.out)
  have HB1:=Xa(HB0.out.trans(LB.of_below HD1.out))
  clear c0 c1 c2 f1
  obtain⟨c0,c1,c2⟩:=HF1.out.cells
  have f1:=HF1.out.free 1
  generalize w.drewN nq=W1 at HD1 HF1 HB1 c0 c1 c2 f1⊢
  clear nq
  go_wp2_with fail
  go_quiet(fail)
  have HD2:=Xa(Xq(w:=W1)nq)
  have HF2:=Xa(HF1.out.below HD2.out)
  have HB2:=Xa(HB1.out.trans(LB.of_below HD2.out))
  clear c0 c1 c2 f1
  obtain⟨c0,c1,c2⟩:=HF2.out.cells
  have f1:=HF2.out.free 1
  generalize W1.drewN nq=W2 at HD2 HF2 HB2 c0 c1 c2 f1⊢
  clear nq
  have HA:=Xa(Qn HF2.out(by omega)1 ByteArray.empty 0)
  go_wp2_with fail
  refine HA.out.mono ?_
  rintro e w9⟨rfl,h3,b3⟩
  have HF9:=Xa h3
  have HB9:=Xa(HB2.out.trans b3)
  clear h3 b3
  go_wp2_with fail
  go_ret
  exact LfOr.of HE.out(LfOr.add HF9.out hl(Nat.le_refl _)HB9.out)
set_option maxRecDepth 100000 in
theorem Xr4{rb base p:Nat}{Z:Nat→Prop}{s:ByteArray}{fs:List FN}{w:World}(h:LfAt w rb base Z s p false fs)(hs:s.size≤4000)(hl:fs.length≤40)(h2:Yu s.data.toList p=true):
  Calls Tryz.prog 113 #[.pointer(some⟨rb,0,none⟩)]w(LfOr(Ym WSp s.data.toList fs p)rb base Z s p w):=by
 have HE:Hid(Ym WSp s.data.toList fs p=Xu WSp⟨2,txt(X9 s.data.toList p),0,[],[],[]⟩fs(skF s.data.toList(nmJ s.data.toList p))):=by rw[Hid];unfold Ym;rw[if_pos h2]
 have HLN:=Xa(Xm s)
 obtain⟨c0,c1,c2⟩:=h.cells
 have f1:=h.free 1
 have hple:=h.le
 have HF0:=Xa h
 have HB0:Hid(LB rb base Z w w):=LB.refl _ _ _ _
 clear h
 have hlt:p<s.size:=by rw[←HLN.out];exact(Xdf h2).2
 have hlt':(p:Int)<(s.size:Int):=by omega
 have HB:=Xa(byS hlt)
 obtain⟨c,hc⟩:∃c,s[p].toNat=c:=⟨_,rfl⟩
 have hc256:c<256:=by rw[←hc];exact s[p].toNat_lt
 have HC:Hid(Xh s.data.toList p=c):=by rw[Hid,←HB.out];exact hc
 have hlc:Yt c=true:=by
  unfold Yu at h2
  rw[HC.out]at h2
  simp at h2
  exact h2.2
 have hn:c≠91:=fun e=>by rw[e]at hlc;revert hlc;decide
 have n1:((c:Int)==91)=false:=by simp;omega
 have n2:¬(c:Int)=91:=by omega
 have HSK:Hid(skF s.data.toList p=p):=by
  rw[Hid]
  refine Q1(fun e=> ?_)
  have:=e.2
  rw[HC.out]at this
  unfold Xb4 at this
  simp at this
  rcases this with e|e<;>rw[e]at hlc<;>revert hlc<;>decide
 have HNL:Hid(p≤nmJ s.data.toList p):=Zh _ _ _
 have HWJ:Hid(wdJ s.data.toList p=nmJ s.data.toList p):=by rw[Hid];unfold wdJ;rw[if_pos h2]
 have HLL:=Xa(Kz c)
 rw[hlc]at HLL
 clear h2 hn hlc
 go_enter Tryz.func113,Tryz.ntmps113
 go_wp2_with fail
 go_quiet(fail)
 have HD1:=Xa(Xq(w:=w)nq)
 have HF1:=Xa(HF0.out.below HD1.out)
 have HB1:=Xa(HB0.out.trans(LB.of_below HD1.out))
 clear c0 c1 c2 f1
 obtain⟨c0,c1,c2⟩:=HF1.out.cells
 have f1:=HF1.out.free 1
 generalize w.drewN nq=W1 at HD1 HF1 HB1 c0 c1 c2 f1⊢
 clear nq
 go_wp2_with fail
 go_quiet((go_at_call 103;exact Calls.quiet_of_same(HLL.out _ hc256)))
 have HD2:=Xa(Xq(w:=W1)nq)
 have HF2:=Xa(HF1.out.below HD2.out)
 have HB2:=Xa(HB1.out.trans(LB.of_below HD2.out))
 clear c0 c1 c2 f1
 obtain⟨c0,c1,c2⟩:=HF2.out.cells
 have f1:=HF2.out.free 1
 generalize W1.drewN nq=W2 at HD2 HF2 HB2 c0 c1 c2 f1⊢
 clear nq
 have HW:=Xa(Uv HF2.out hs)
 rw[if_neg(by decide),if_neg(by decide),HSK.out,HWJ.out]at HW
 obtain⟨T,hT⟩:∃T,txt(X9 s.data.toList p)=T:=⟨_,rfl⟩
 obtain⟨M,hM⟩:∃M,nmJ s.data.toList p=M:=⟨_,rfl⟩
 rw[show(s.data.toList.drop p).take(nmJ s.data.toList p-p)=X9 s.data.toList p from rfl,hT,hM]at HW
 rw[hT,hM]at HE
 rw[hM]at HNL
 clear hT hM c0 c1 c2
 go_wp2_with fail
 refine HW.out.mono ?_
 rintro e w8⟨b8,rfl,h8⟩
 have HF8:=Xa h8
 have HB8:=Xa(HB2.out.trans b8)
 clear h8 b8
 have HA:=Xa(Qn HF8.out(by omega)2 T 0)
 go_wp2_with fail
 refine HA.out.mono ?_
 rintro e w9⟨rfl,h3,b3⟩
 have HF9:=Xa h3
 have HB9:=Xa(HB8.out.trans b3)
 clear h3 b3
 go_wp2_with fail
 go_ret
 exact LfOr.of HE.out(LfOr.add HF9.out hl HNL.out HB9.out)

set_option maxRecDepth 100000 in
theorem Xtz{rb base p:Nat}{Z:Nat→Prop}{s:ByteArray}{fs:List FN}{w:World}(h:LfAt w rb base Z s p false fs)(hs:s.size≤4000)(hl:fs.length≤40)(h1:Xe s.data.toList p 91=true):
  Calls Tryz.prog 113 #[.pointer(some⟨rb,0,none⟩)]w(LfOr(Ym WSp s.data.toList fs p)rb base Z s p w):=by
 have HLN:=Xa(Xm s)
 have hlt:p<s.size:=by rw[←HLN.out];exact(Xl.1 h1).1
 have HE:Hid(Ym WSp s.data.toList fs p=Qo WSp s.data.toList fs(skF s.data.toList(p+1))):=by
  rw[Hid];unfold Ym
  rw[if_neg(fun e=>by unfold Yu at e;rw[(Xl.1 h1).2]at e;revert e;simp;intro _;decide),if_pos h1]
 obtain⟨c0,c1,c2⟩:=h.cells
 have f1:=h.free 1
 have hple:=h.le
 have HF0:=Xa h
 have HB0:Hid(LB rb base Z w w):=LB.refl _ _ _ _
 clear h
 have hlt':(p:Int)<(s.size:Int):=by omega
 have HB:=Xa(byS hlt)
 obtain⟨c,hc⟩:∃c,s[p].toNat=c:=⟨_,rfl⟩
 have HC:Hid(Xh s.data.toList p=c):=by rw[Hid,←HB.out];exact hc
 have n0:c=91:=by rw[←HC.out];exact(Xl.1 h1).2
 have n1:((c:Int)==91)=true:=by rw[n0];rfl
 have n2:(c:Int)=91:=by omega
 clear n0 h1
 go_enter Tryz.func113,Tryz.ntmps113
 go_wp2_with fail
 go_quiet(fail)
 have HD1:=Xa(Xq(w:=w)nq)
 have HF1:=Xa(HF0.out.below HD1.out)
 have HB1:=Xa(HB0.out.trans(LB.of_below HD1.out))
 clear c0 c1 c2 f1
 obtain⟨c0,c1,c2⟩:=HF1.out.cells
 have f1:=HF1.out.free 1
 have lt1:=HF1.out.lt
 generalize w.drewN nq=W1 at HD1 HF1 HB1 c0 c1 c2 f1 lt1⊢
 clear nq
 have e1:((p+1:Nat):Int)=(p:Int)+1:=by omega
 have hset:=HF1.out.setP(q:=p+1)(by omega)
 have hbs:LB rb base Z w(W1.setCell⟨rb,1,none⟩(.int .i64((p:Int)+1))):=HB1.out.trans(LB.of_set 1 _)
 rw[e1]at hset
 have HI:=Xa(Zu 93 hset hs)
 have HB2:=Xa hbs
 have hsk:=Xw s.data.toList(p+1)
 obtain⟨q,hq⟩:∃q,skF s.data.toList(p+1)=q:=⟨_,rfl⟩
 have HQI:Hid(skF s.data.toList q=q):=by rw[Hid,←hq];exact Yh _ _
 rw[hq]at HI HE hsk
 rw[show(93:UInt8).toNat=93 from rfl]at HI
 have hpq:p≤q:=by omega
 clear hset hbs e1 hq hsk
 cases hi:Xe s.data.toList q 93
 ·rw [hi] at HI
  have HE2:Hid(Qo WSp s.data.toList fs q=Qx WSp s.data.toList q fun n q=>Yj s.data.toList q 93 fun q=>Xu WSp⟨3,ByteArray.empty,n,[],[],[]⟩fs q):=by rw[Hid];unfold Qo;rw[if_neg(by rw[hi];simp)]
  clear hi
  go_wp2_with fail
  refine HI.out.mono ?_
  rintro e w2⟨rfl,h2,b2⟩
  have h2':LfAt w2 rb base Z s q false fs:=h2
  have HB3:=Xa(HB2.out.trans b2)
  have HN:=Xa(Xhj h2' hs)
  rw[HQI.out]at HN
  clear h2 h2' b2 c0 c1 c2 f1
  go_wp2_with fail
  refine HN.out.mono ?_
  rintro e w3⟨b3,n,rfl,⟨hd,h3⟩|⟨hd,rfl,h3⟩⟩
  ·have HB4:=Xa(HB3.out.trans b3)
   obtain⟨D,hD⟩:∃D,dgJ s.data.toList(Yc s.data.toList q)=D:=⟨_,rfl⟩
   have hqD:q≤D:=by rw[←hD];exact Nat.le_trans(Wb _ _)(Zh _ _ _)
   have HR:Hid(Qo WSp s.data.toList fs q=Yj s.data.toList(skF s.data.toList D)93 fun q=>Xu WSp⟨3,ByteArray.empty,n,[],[],[]⟩fs q):=by
    rw[Hid,HE2.out];unfold Qx;rw[show WSp.dec=Q6 from rfl,hd,hD]
   rw[hD]at h3
   have HWA:=Xa(Gi 93 h3 hs)
   have hsk:=Xw s.data.toList D
   obtain⟨Q,hQ⟩:∃Q,skF s.data.toList D=Q:=⟨_,rfl⟩
   rw[hQ]at HWA HR hsk
   rw[show(93:UInt8).toNat=93 from rfl]at HWA
   have hpQ:p≤Q:=by omega
   clear h3 b3 hd hD hqD hsk hQ
   go_wp2_with fail
   refine HWA.out.mono ?_
   rintro e w4⟨rfl,b4,⟨_,hy,h4⟩|⟨hn,h4⟩⟩
   ·have HB5:=Xa(HB4.out.trans b4)
    have HY:Hid(Ym WSp s.data.toList fs p=Xu WSp⟨3,ByteArray.empty,n,[],[],[]⟩fs(skF s.data.toList(Q+1))):=by rw[Hid,HE.out,HR.out];unfold Yj;rw[if_pos hy]
    have HA:=Xa(Qn h4(by omega)3 ByteArray.empty n)
    clear h4 b4 hy
    go_wp2_with fail
    refine HA.out.mono ?_
    rintro e w9⟨rfl,h9,b9⟩
    have HF9:=Xa h9
    have HB9:=Xa(HB5.out.trans b9)
    clear h9 b9
    go_wp2_with fail
    go_ret
    exact LfOr.of HY.out(LfOr.add HF9.out hl(by omega)HB9.out)
   ·have HB5:=Xa(HB4.out.trans b4)
    have HY:Hid(Ym WSp s.data.toList fs p=none):=by
     rw[Hid,HE.out,HR.out];unfold Yj
     rcases hn with hn|hn
     ·cases hn
     ·rw[if_neg(by rw[hn];simp)]
    have HA:=Xa(Qn h4(by omega)3 ByteArray.empty n)
    clear h4 b4 hn
    go_wp2_with fail
    refine HA.out.mono ?_
    rintro e w9⟨rfl,h9,b9⟩
    have HF9:=Xa h9
    have HB9:=Xa(HB5.out.trans b9)
    clear h9 b9
    go_wp2_with fail
    go_ret
    exact LfOr.addB HY.out HF9.out(by omega)(by omega)HB9.out
  ·have HB4:=Xa(HB3.out.trans b3)
   have HY:Hid(Ym WSp s.data.toList fs p=none):=by
    rw[Hid,HE.out,HE2.out];unfold Qx;rw[show WSp.dec=Q6 from rfl,hd]
   have HWA:=Xa(Gi 93 h3 hs)
   rw[HQI.out]at HWA
   clear h3 b3 hd
   go_wp2_with fail
   refine HWA.out.mono ?_
   rintro e w4⟨rfl,b4,⟨hx,_,_⟩|⟨hn,h4⟩⟩
   ·cases hx
   ·have HB5:=Xa(HB4.out.trans b4)
    have HA:=Xa(Qn h4(by omega)3 ByteArray.empty 0)
    clear h4 b4 hn
    go_wp2_with fail
    refine HA.out.mono ?_
    rintro e w9⟨rfl,h9,b9⟩
    have HF9:=Xa h9
    have HB9:=Xa(HB5.out.trans b9)
    clear h9 b9
    go_wp2_with fail
    go_ret
    exact LfOr.addB HY.out HF9.out(by omega)(by omega)HB9.out
 ·rw[hi]at HI
  have HY:Hid(Ym WSp s.data.toList fs p=Xu WSp(Qw 4)fs(skF s.data.toList(q+1))):=by rw[Hid,HE.out];unfold Qo;rw[if_pos hi]
  clear hi
  go_wp2_with fail
  refine HI.out.mono ?_
  rintro e w2⟨rfl,h2,b2⟩
  have h2':LfAt w2 rb base Z s(q+1)false fs:=h2
  have HB3:=Xa(HB2.out.trans b2)
  have HA:=Xa(Qn h2'(by omega)4 ByteArray.empty 0)
  clear h2 h2' b2 c0 c1 c2 f1
  go_wp2_with fail
  refine HA.out.mono ?_
  rintro e w9⟨rfl,h9,b9⟩
  have HF9:=Xa h9
  have HB9:=Xa(HB3.out.trans b9)
  clear h9 b9
  go_wp2_with fail
  go_ret
  exact LfOr.of HY.out(LfOr.add HF9.out hl(by omega)HB9.out)
theorem Xqy{rb base p:Nat}{Z:Nat→Prop}{s:ByteArray}{fs:List FN}{w:World}(h:LfAt w rb base Z s p false fs)(hs:s.size≤4000)(hl:fs.length≤40):
  Calls Tryz.prog 113 #[.pointer(some⟨rb,0,none⟩)]w(LfOr(Ym WSp s.data.toList fs p)rb base Z s p w):=by
 cases h1:Xe s.data.toList p 91
 ·cases h2:Yu s.data.toList p
  ·exact Xox h hs hl h1 h2
  ·exact Xr4 h hs hl h2
 ·exact Xtz h hs hl h1

set_option maxRecDepth 100000 in
theorem Xko{rb base p:Nat}{Z:Nat→Prop}{s:ByteArray}{fs:List FN}{w:World}(h:LfAt w rb base Z s p true fs)(l:Int):
  Calls Tryz.prog 43 #[.pointer(some⟨rb,0,none⟩), .int .i64 l]w fun e w'=>e= .returned(.int .i64 0)∧LfAt w' rb base Z s p true fs∧LB rb base Z w w':=by
 obtain⟨c0,c1,c2⟩:=h.cells
 have HF0:=Xa h
 have HB0:Hid(LB rb base Z w w):=LB.refl _ _ _ _
 clear h
 go_enter Tryz.func43,Tryz.ntmps43
 go_wp2_with fail
 go_ret
 exact⟨rfl,HF0.out,HB0.out⟩

abbrev CF:=Option(List FN×Nat)
def LfSt(r:CF)(rb base:Nat)(Z:Nat→Prop)(s:ByteArray)(p0:Nat)(w:World):Prop:=
 ∃(fs:List FN)(p:Nat),p0≤p∧((r=some(fs,skF s.data.toList p)∧LfAt w rb base Z s p false fs∧fs.length≤40)∨(r=none∧fs.length+p0≤42+p∧LfAt w rb base Z s p true fs))
theorem LfSt.good{fs:List FN}{rb base p p0:Nat}{Z:Nat→Prop}{s:ByteArray}{w:World}(h:LfAt w rb base Z s p false fs)(hl:fs.length≤40)(hp:p0≤p):LfSt(some(fs,skF s.data.toList p))rb base Z s p0 w:=⟨fs,p,hp, .inl⟨rfl,h,hl⟩⟩
theorem LfSt.bad{fs:List FN}{rb base p p0:Nat}{Z:Nat→Prop}{s:ByteArray}{w:World}(h:LfAt w rb base Z s p true fs)(hl:fs.length+p0≤42+p)(hp:p0≤p):LfSt none rb base Z s p0 w:=⟨fs,p,hp, .inr⟨rfl,hl,h⟩⟩
theorem LfSt.of{r r':CF}{rb base p0:Nat}{Z:Nat→Prop}{s:ByteArray}{w:World}(e:r=r')(h:LfSt r rb base Z s p0 w):LfSt r' rb base Z s p0 w:=e▸h
theorem LfSt.less{r:CF}{rb base p0 p1:Nat}{Z:Nat→Prop}{s:ByteArray}{w:World}(h:LfSt r rb base Z s p0 w)(hp:p1≤p0):LfSt r rb base Z s p1 w:=by
 obtain⟨fs,p,h1,h2|⟨h2,h3,h4⟩⟩:=h
 ·exact⟨fs,p,by omega, .inl h2⟩
 ·exact⟨fs,p,by omega, .inr⟨h2,by omega,h4⟩⟩
theorem LfSt.fresh{r:CF}{rb base p0:Nat}{Z Z':Nat→Prop}{s:ByteArray}{w w':World}(h:LfSt r rb base Z s p0 w)(hb:Below w.heap.size w w')(hz:∀x,Z' x→Z x∨w.heap.size≤x)(hz2:∀x,Z' x→x<w'.heap.size):LfSt r rb base Z' s p0 w':=by
 obtain⟨fs,p,h1,⟨h2,h3,h4⟩|⟨h2,h3,h4⟩⟩:=h
 ·exact⟨fs,p,h1, .inl⟨h2,h3.fresh hb hz hz2,h4⟩⟩
 ·exact⟨fs,p,h1, .inr⟨h2,h3,h4.fresh hb hz hz2⟩⟩
theorem LfSt.zb{r:CF}{rb base p0:Nat}{Z:Nat→Prop}{s:ByteArray}{w:World}(h:LfSt r rb base Z s p0 w):∀x,Z x→x<w.heap.size:=by
 obtain⟨fs,p,h1,⟨h2,h3,h4⟩|⟨h2,h3,h4⟩⟩:=h
 ·exact h3.zb
 ·exact h4.zb
theorem LfSt.below{r:CF}{rb base p0:Nat}{Z:Nat→Prop}{s:ByteArray}{w w':World}(h:LfSt r rb base Z s p0 w)(hb:Below w.heap.size w w'):LfSt r rb base Z s p0 w':=h.fresh hb(fun x hx=> .inl hx)(fun x hx=>Nat.lt_of_lt_of_le(h.zb x hx)hb.size)
theorem LfSt.at{r:CF}{rb base p0:Nat}{Z:Nat→Prop}{s:ByteArray}{w:World}(h:LfSt r rb base Z s p0 w):∃b fs p,LfAt w rb base Z s p b fs∧p0≤p∧fs.length+p0≤42+p∧(b=true→r=none)∧(b=false→r=some(fs,skF s.data.toList p)∧fs.length≤40):=by
 obtain⟨fs,p,h1,⟨h2,h3,h4⟩|⟨h2,h3,h4⟩⟩:=h
 ·exact⟨false,fs,p,h3,h1,by omega,fun e=>(by cases e),fun _=>⟨h2,h4⟩⟩
 ·exact⟨true,fs,p,h4,h1,h3,fun _=>h2,fun e=>by cases e⟩
theorem LfOr.st{r:RF}{rb base p0:Nat}{Z:Nat→Prop}{s:ByteArray}{w w':World}{e:Ending}(h:LfOr r rb base Z s p0 w e w'):∃n,e= .returned(.int .i64 n)∧LB rb base Z w w'∧LfSt(r.map(·.2))rb base Z s p0 w'∧∀y,r=some y→y.1=n:=by
 obtain⟨hb,n,fs,p,he,hp,⟨h1,h2,h3⟩|⟨h1,h2,h3⟩⟩:=h
 ·exact⟨n,he,hb,⟨fs,p,hp, .inl⟨by rw[h1];rfl,h2,h3⟩⟩,fun y hy=>by rw[h1]at hy;cases hy;rfl⟩
 ·exact⟨n,he,hb,⟨fs,p,hp, .inr⟨by rw[h1];rfl,h2,h3⟩⟩,fun y hy=>by rw[h1]at hy;cases hy⟩
theorem LfSt.or{r:CF}{r':RF}{n:Int}{rb base p0 p1:Nat}{Z:Nat→Prop}{s:ByteArray}{w w':World}(h:LfSt r rb base Z s p1 w')(hp:p0≤p1)(hb:LB rb base Z w w')(hr:r'=r.map fun x=>(n,x)):LfOr r' rb base Z s p0 w(.returned(.int .i64 n))w':=by
 obtain⟨fs,p,h1,⟨h2,h3,h4⟩|⟨h2,h3,h4⟩⟩:=h
 ·exact⟨hb,n,fs,p,rfl,by omega, .inl⟨by rw[hr,h2];rfl,h3,h4⟩⟩
 ·exact⟨hb,n,fs,p,rfl,by omega, .inr⟨by rw[hr,h2];rfl,by omega,h4⟩⟩
def Xgj(R:RD)(f rb base:Nat)(s:ByteArray):Prop:=∀(l:Int)(Z:Nat→Prop)(fs:List FN)(p:Nat)(w:World),1≤l→l≤6→(∀x,Z x→x<w.heap.size)→LfAt w rb base Z s p false fs→fs.length≤40→s.size<p+f→Calls Tryz.prog 43 #[.pointer(some⟨rb,0,none⟩), .int .i64 l]w(LfOr(R l fs(skF s.data.toList p))rb base Z s p w)
theorem Xcb{R:RD}{f rb base p0:Nat}{s:ByteArray}{r:CF}{Z:Nat→Prop}{w:World}(HR:Xgj R f rb base s)(l:Int)(h1:1≤l)(h6:l≤6)(hZ:∀x,Z x→x<w.heap.size)(hf:s.size<p0+f)(h:LfSt r rb base Z s p0 w):
  Calls Tryz.prog 43 #[.pointer(some⟨rb,0,none⟩), .int .i64 l]w fun e w'=>∃n,e= .returned(.int .i64 n)∧LB rb base Z w w'∧LfSt(r.bind fun x=>(R l x.1 x.2).map(·.2))rb base Z s p0 w'∧∀fs q y,r=some(fs,q)→R l fs q=some y→y.1=n:=by
 obtain⟨fs,p,hp,⟨hr,ha,hl⟩|⟨hr,hl,ha⟩⟩:=h
 ·subst hr
  refine(HR l Z fs p w h1 h6 hZ ha hl(by omega)).mono ?_
  intro e w' h
  obtain⟨n,he,hb,hs,hy⟩:=h.st
  exact⟨n,he,hb,hs.less hp,fun fs' q y e1 e2=>by cases e1;exact hy y e2⟩
 ·subst hr
  refine(Xko ha l).mono ?_
  rintro e w'⟨he,ha',hb⟩
  exact⟨0,he,hb,LfSt.bad ha' hl hp,fun fs' q y e1=>by cases e1⟩
theorem Xbs{rb base p0:Nat}{s:ByteArray}{r:CF}{Z:Nat→Prop}{w:World}(c:UInt8)(hs:s.size≤4000)(h:LfSt r rb base Z s p0 w):
  Calls Tryz.prog 114 #[.pointer(some⟨rb,0,none⟩), .string⟨#[c]⟩]w fun e w'=>e= .returned(.tuple #[])∧LB rb base Z w w'∧LfSt(r.bind fun x=>if Xe s.data.toList x.2 c.toNat=true then some(x.1,skF s.data.toList(x.2+1))else none)rb base Z s p0 w':=by
 obtain⟨fs,p,hp,⟨hr,ha,hl⟩|⟨hr,hl,ha⟩⟩:=h
 ·have hsk:=Xw s.data.toList p
  subst hr
  refine(Gi c ha hs).mono ?_
  rintro e w'⟨he,hb,⟨_,hy,h'⟩|⟨hn,h'⟩⟩
  ·refine⟨he,hb,LfSt.of ?_(LfSt.good h' hl(by omega))⟩
   show _=if Xe s.data.toList(skF s.data.toList p)c.toNat=true then _ else _
   rw[if_pos hy]
  ·refine⟨he,hb,LfSt.of ?_(LfSt.bad h'(by omega)(by omega))⟩
   show _=if Xe s.data.toList(skF s.data.toList p)c.toNat=true then _ else _
   rcases hn with hn|hn
   ·cases hn
   ·rw[if_neg(by rw[hn];simp)]
 ·have hsk:=Xw s.data.toList p
  subst hr
  refine(Gi c ha hs).mono ?_
  rintro e w'⟨he,hb,⟨hx,_,h'⟩|⟨hn,h'⟩⟩
  ·cases hx
  ·exact⟨he,hb,LfSt.bad h'(by omega)(by omega)⟩
theorem X0l{rb base p0:Nat}{s:ByteArray}{r:CF}{Z:Nat→Prop}{w:World}(c:UInt8)(hs:s.size≤4000)(h:LfSt r rb base Z s p0 w):
  Calls Tryz.prog 79 #[.pointer(some⟨rb,0,none⟩), .string⟨#[c]⟩]w fun e w'=>LB rb base Z w w'∧((e= .returned(.bool true)∧∃fs q,r=some(fs,q)∧Xe s.data.toList q c.toNat=true∧LfSt(some(fs,skF s.data.toList(q+1)))rb base Z s(p0+1)w')∨(e= .returned(.bool false)∧(∀fs q,r=some(fs,q)→Xe s.data.toList q c.toNat=false)∧LfSt r rb base Z s p0 w')):=by
 obtain⟨fs,p,hp,⟨hr,ha,hl⟩|⟨hr,hl,ha⟩⟩:=h
 ·have hsk:=Xw s.data.toList p
  have hid:=Yh s.data.toList p
  subst hr
  refine(Zu c ha hs).mono ?_
  rintro e w'⟨he,h',hb⟩
  cases hi:Xe s.data.toList(skF s.data.toList p)c.toNat
  ·rw[hi]at he h'
   have h2:LfAt w' rb base Z s(skF s.data.toList p)false fs:=h'
   refine⟨hb, .inr⟨he,fun fs' q e1=>(by cases e1;exact hi), ?_⟩⟩
   have:=LfSt.good(p0:=p0)h2 hl(by omega)
   rw[hid]at this
   exact this
  ·rw[hi]at he h'
   have h2:LfAt w' rb base Z s(skF s.data.toList p+1)false fs:=h'
   exact⟨hb, .inl⟨he,fs,_,rfl,hi,LfSt.good h2 hl(by omega)⟩⟩
 ·have hsk:=Xw s.data.toList p
  subst hr
  refine(Zu c ha hs).mono ?_
  rintro e w'⟨he,h',hb⟩
  have h2:LfAt w' rb base Z s(skF s.data.toList p)true fs:=h'
  exact⟨hb, .inr⟨he,fun fs' q e1=>(by cases e1),LfSt.bad h2(by omega)(by omega)⟩⟩
theorem Xgk{rb base p0:Nat}{s u:ByteArray}{r:CF}{Z:Nat→Prop}{w:World}(hs:s.size≤4000)(hu:∃c l,u.data.toList=c::l∧Yt c.toNat=true)(h:LfSt r rb base Z s p0 w):
  Calls Tryz.prog 156 #[.pointer(some⟨rb,0,none⟩), .string u]w fun e w'=>e= .returned(.tuple #[])∧LB rb base Z w w'∧LfSt(r.bind fun x=>if X9 s.data.toList x.2=u.data.toList then some(x.1,skF s.data.toList(nmJ s.data.toList x.2))else none)rb base Z s p0 w':=by
 obtain⟨fs,p,hp,⟨hr,ha,hl⟩|⟨hr,hl,ha⟩⟩:=h
 ·have hsk:=Xw s.data.toList p
  subst hr
  refine(Xfh ha hs hu).mono ?_
  rintro e w'⟨he,hb,⟨_,hy,h'⟩|⟨hn,p',hp',h'⟩⟩
  ·refine⟨he,hb,LfSt.of ?_(LfSt.good h' hl(Nat.le_trans(show p0≤skF s.data.toList p by omega)(Zh _ _ _)))⟩
   show _=if X9 s.data.toList(skF s.data.toList p)=u.data.toList then _ else _
   rw[if_pos hy]
  ·refine⟨he,hb,LfSt.of ?_(LfSt.bad h'(by omega)(by omega))⟩
   show _=if X9 s.data.toList(skF s.data.toList p)=u.data.toList then _ else _
   rcases hn with hn|hn
   ·cases hn
   ·rw[if_neg hn]
 ·subst hr
  refine(Xfh ha hs hu).mono ?_
  rintro e w'⟨he,hb,⟨hx,_,h'⟩|⟨hn,p',hp',h'⟩⟩
  ·cases hx
  ·exact⟨he,hb,LfSt.bad h'(by omega)(by omega)⟩
theorem Xw0{rb base p0:Nat}{s:ByteArray}{r:CF}{Z:Nat→Prop}{w:World}(hs:s.size≤4000)(h:LfSt r rb base Z s p0 w):
  Calls Tryz.prog 119 #[.pointer(some⟨rb,0,none⟩)]w fun e w'=>∃T,e= .returned(.string T)∧LB rb base Z w w'∧LfSt(r.bind fun x=>some(x.1,skF s.data.toList(wdJ s.data.toList x.2)))rb base Z s p0 w'∧∀fs q,r=some(fs,q)→T=txt((s.data.toList.drop q).take(wdJ s.data.toList q-q)):=by
 have hwd:∀q,q≤wdJ s.data.toList q:=fun q=>by
  unfold wdJ;split
  ·exact Zh _ _ _
  ·exact Nat.le_refl _
 obtain⟨fs,p,hp,⟨hr,ha,hl⟩|⟨hr,hl,ha⟩⟩:=h
 ·have hsk:=Xw s.data.toList p
  have hw2:=hwd(skF s.data.toList p)
  subst hr
  refine(Uv ha hs).mono ?_
  rintro e w'⟨hb,he,h'⟩
  rw[if_neg(by decide)]at he h'
  exact⟨_,he,hb,LfSt.good h' hl(show p0≤wdJ s.data.toList(skF s.data.toList p)by omega),fun fs' q e1=>by cases e1;rfl⟩
 ·have hsk:=Xw s.data.toList p
  subst hr
  refine(Uv ha hs).mono ?_
  rintro e w'⟨hb,he,h'⟩
  rw[if_pos rfl]at he h'
  exact⟨_,he,hb,LfSt.bad h'(by omega)(by omega),fun fs' q e1=>by cases e1⟩
theorem Xgl{rb base p0 p1:Nat}{s:ByteArray}{r:CF}{Z:Nat→Prop}{w:World}(h:LfSt r rb base Z s p1 w)(hs:s.size≤1000)(hp:p0+1≤p1)(hZ:∀x,Z x→x<w.heap.size)(k:Int)(ks:List Int)(hn:ks.length≤1000):
  Calls Tryz.prog 80 #[.pointer(some⟨rb,0,none⟩), .agg #[.int .i64 k, .string ByteArray.empty, .int .i64 0, .slice none 0 0, .slice none 0 0, .slice(some⟨w.heap.size,0,none⟩)ks.length ks.length]](w.alloc(.cells(ks.map(Value.int .i64)).toArray 2))(LfOr(r.bind fun x=>Xu WSp(Yw k ks)x.1 x.2)rb base Z s p0 w):=by
 obtain⟨fs,p,hp1,⟨hr,ha,hl⟩|⟨hr,hl,ha⟩⟩:=h
 ·subst hr
  refine(Xad ha hZ(by omega)k ks hn).mono ?_
  rintro e w'⟨rfl,h',hb⟩
  exact LfOr.add h' hl(by omega)hb
 ·subst hr
  have:=ha.le
  refine(Xad ha hZ(by omega)k ks hn).mono ?_
  rintro e w'⟨rfl,h',hb⟩
  exact LfOr.addB rfl h'(by omega)(by omega)hb

theorem Va{rb base p:Nat}{Z:Nat→Prop}{s:ByteArray}{bad:Bool}{fs:List FN}{w w1:World}{k n:Int}{t:ByteArray}(h:LfAt w rb base Z s p bad fs)(hZ:∀x,Z x→x<w.heap.size)(hl:fs.length≤4000)(hb:Below w.heap.size w w1)(hn:Nest w.heap.size w1(.slice(some⟨w.heap.size,0,none⟩)1 1)(U1 k n t)(fun _=> .slice none 0 0)(fun _=> .slice none 0 0)):
  Calls Tryz.prog 117 #[.pointer(some⟨rb,0,none⟩), .slice(some⟨w.heap.size,0,none⟩)1 1]w1 fun e w'=>e= .returned(.int .i64(fs.length:Int))∧LfAt w' rb base Z s p(bad||decide(40<fs.length+1))(fs++ [Zt⟨k,n,t,[],[]⟩])∧LB rb base Z w w':=by
 refine(Xkm(Z:=fun x=>Z x∨x=w.heap.size)(Z':=Z)(v:=⟨k,n,t,[],[]⟩)(h.fresh hb(fun x hx=>by rcases hx with hx|hx;exact .inl hx;exact .inr(by omega))(fun x hx=>by rcases hx with hx|hx;have:=hZ x hx;have:=hb.size;omega;exact hx▸(hn.row.lt _ rfl).2))(Xu8 hn h.sz)(fun y hy=> ?_)(fun y hy=>⟨.inl hy,fun e=> ?_⟩)hl).mono ?_
 ·simp[Value.ownBlock]at hy;exact .inr hy.symm
 ·simp[Value.ownBlock]at e;have:=hZ y hy;omega
 ·rintro e w'⟨rfl,h1,h2⟩
  exact⟨rfl,h1,(LB.of_below hb).trans(h2.mono fun x hx=> .inl hx)⟩

theorem Xk2{R:RD}{L:List UInt8}{w:List UInt8}{fs:List FN}{p:Nat}(h_null:w≠ [110,117,108,108])(h_true:w≠ [116,114,117,101])(h_false:w≠ [102,97,108,115,101])(h_length:w≠ [108,101,110,103,116,104])(h_keys:w≠ [107,101,121,115])(h_not:w≠ [110,111,116])(h_empty:w≠ [101,109,112,116,121])(h_select:w≠ [115,101,108,101,99,116])(h_if:w≠ [105,102]):X4 WSp R L w fs p=none:=by
 unfold X4
 rw[if_neg(show w≠Xic from h_null),if_neg(show w≠Xid from h_true),if_neg(show w≠Xfl from h_false),if_neg h_select,if_neg h_if,if_neg h_length,if_neg h_keys,if_neg h_not,if_neg h_empty]
theorem Xi6{L:List UInt8}{w:List UInt8}{q:Nat}{k:Nat→RF}(h:X9 L q=w):Jn L w q k=k(skF L(nmJ L q)):=by unfold Jn;rw[if_pos h]
theorem Xi7{L:List UInt8}{w:List UInt8}{q:Nat}{k:Nat→RF}(h:X9 L q≠w):Jn L w q k=none:=by unfold Jn;rw[if_neg h]
theorem Xyy{R:RD}{L:List UInt8}{fs:List FN}{p:Nat}{a b c:Int}{ra rb' rc:CF}{sa sb se:CF}
  (ha:ra=(R 1 fs p).map(·.2))(hn:∀y,R 1 fs p=some y→y.1=a)(hsa:sa=ra.bind fun x=>if X9 L x.2= [116,104,101,110]then some(x.1,skF L(nmJ L x.2))else none)
  (hb:rb'=sa.bind fun x=>(R 1 x.1 x.2).map(·.2))(hnb:∀fs q y,sa=some(fs,q)→R 1 fs q=some y→y.1=b)(hsb:sb=rb'.bind fun x=>if X9 L x.2= [101,108,115,101]then some(x.1,skF L(nmJ L x.2))else none)
  (hc:rc=sb.bind fun x=>(R 1 x.1 x.2).map(·.2))(hnc:∀fs q y,sb=some(fs,q)→R 1 fs q=some y→y.1=c)(hse:se=rc.bind fun x=>if X9 L x.2= [101,110,100]then some(x.1,skF L(nmJ L x.2))else none):
  ifF WSp R L fs p=se.bind fun x=>Xu WSp(Yw 22 [a,b,c])x.1 x.2:=by
 unfold ifF
 cases h1:R 1 fs p with
 |none=>rw[h1]at ha;subst ha;subst hsa;subst hb;subst hsb;subst hc;subst hse;rfl
 | some y =>
  obtain⟨a',f1,q1⟩:=y
  obtain rfl:a'=a:=hn _ h1
  rw[h1]at ha
  subst ha
  rw[X2]
  by_cases e1:X9 L q1= [116,104,101,110]
  ·rw [Xi6 e1]
   obtain rfl:sa=some(f1,skF L(nmJ L q1)):=by rw[hsa];show(if _ then _ else _)=_;rw[if_pos e1]
   clear hsa
   cases h2:R 1 f1(skF L(nmJ L q1))with
   | none =>
    have:rb'=none:=by rw[hb];show(R 1 f1(skF L(nmJ L q1))).map(·.2)=none;rw[h2];rfl
    subst this;subst hsb;subst hc;subst hse;rw[Jm];rfl
   | some y =>
    obtain⟨b',f2,q2⟩:=y
    obtain rfl:b'=b:=hnb _ _ _ rfl h2
    obtain rfl:rb'=some(f2,q2):=by rw[hb];show(R 1 f1(skF L(nmJ L q1))).map(·.2)=_;rw[h2];rfl
    clear hb
    rw[X2]
    by_cases e2:X9 L q2= [101,108,115,101]
    ·rw[Xi6 e2]
     obtain rfl:sb=some(f2,skF L(nmJ L q2)):=by rw[hsb];show(if _ then _ else _)=_;rw[if_pos e2]
     clear hsb
     cases h3:R 1 f2(skF L(nmJ L q2))with
     | none =>
      have:rc=none:=by rw[hc];show(R 1 f2(skF L(nmJ L q2))).map(·.2)=none;rw[h3];rfl
      subst this;subst hse;rfl
     | some y =>
      obtain⟨c',f3,q3⟩:=y
      obtain rfl:c'=c:=hnc _ _ _ rfl h3
      obtain rfl:rc=some(f3,q3):=by rw[hc];show(R 1 f2(skF L(nmJ L q2))).map(·.2)=_;rw[h3];rfl
      clear hc
      rw[X2]
      by_cases e3:X9 L q3= [101,110,100]
      ·rw[Xi6 e3]
       obtain rfl:se=some(f3,skF L(nmJ L q3)):=by rw[hse];show(if _ then _ else _)=_;rw[if_pos e3]
       rfl
      ·rw[Xi7 e3]
       have:se=none:=by rw[hse];show(if _ then _ else _)=_;rw[if_neg e3]
       rw[this];rfl
    ·rw[Xi7 e2]
     have:sb=none:=by rw[hsb];show(if _ then _ else _)=_;rw[if_neg e2]
     subst this;subst hc;subst hse;rfl
  ·rw[Xi7 e1]
   have:sa=none:=by rw[hsa];show(if _ then _ else _)=_;rw[if_neg e1]
   subst this;subst hb;subst hsb;subst hc;subst hse;rfl
theorem Xb9{R:RD}{L:List UInt8}{c:Nat}{fs:List FN}{p:Nat}{a:Int}{ra se:CF}
  (ha:ra=(R 1 fs p).map(·.2))(hn:∀y,R 1 fs p=some y→y.1=a)(hse:se=ra.bind fun x=>if Xe L x.2 c=true then some(x.1,skF L(x.2+1))else none):
  Zl R L c fs p=se.map fun x=>(a,x):=by
 unfold Zl
 cases h1:R 1 fs p with
 |none=>rw[h1]at ha;subst ha;subst hse;rfl
 | some y =>
  obtain⟨a',f1,q1⟩:=y
  obtain rfl:a'=a:=hn _ h1
  rw[h1]at ha
  subst ha
  rw[X2]
  unfold Yj
  by_cases e1:Xe L q1 c=true
  ·rw[if_pos e1]
   have:se=some(f1,skF L(q1+1)):=by rw[hse];show(if _ then _ else _)=_;rw[if_pos e1]
   rw[this];rfl
  ·rw[if_neg e1]
   have:se=none:=by rw[hse];show(if _ then _ else _)=_;rw[if_neg e1]
   rw[this];rfl
theorem Xhf{a:CF}{n:Int}{k:Int→List FN→Nat→RF}:Xy(a.map fun x=>(n,x))k=a.bind fun x=>k n x.1 x.2:=by
 cases a with
 |none=>rfl
 |some x=>rfl
theorem Xi8{L:List UInt8}{q c:Nat}{k:Nat→RF}(h:Xe L q c=true):Yj L q c k=k(skF L(q+1)):=by unfold Yj;rw[if_pos h]
theorem Xi9{L:List UInt8}{q c:Nat}{k:Nat→RF}(h:¬Xe L q c=true):Yj L q c k=none:=by unfold Yj;rw[if_neg h]
theorem Xwy{R:RD}{L:List UInt8}{fs:List FN}{p:Nat}{n:Int}{c1 c2 c3:CF}(h1:c1=if Xe L p 40=true then some(fs,skF L(p+1))else none)(h2:c2=c1.bind fun x=>(R 1 x.1 x.2).map(·.2))
  (hn:∀fs q y,c1=some(fs,q)→R 1 fs q=some y→y.1=n)(h3:c3=c2.bind fun x=>if Xe L x.2 41=true then some(x.1,skF L(x.2+1))else none):
  Vy WSp R L fs p=c3.bind fun x=>Xu WSp(Yw 10 [n])x.1 x.2:=by
 unfold Vy
 by_cases e:Xe L p 40=true
 ·rw[if_pos e]at h1
  have ha:=Xb9(c:=41)(ra:=c2)(se:=c3)(a:=n)(by rw[h2,h1];rfl)(fun y hy=>hn _ _ y h1 hy)h3
  rw[Xi8 e,ha,Xhf]
 ·rw[if_neg e]at h1
  subst h1;subst h2;subst h3
  rw[Xi9 e];rfl
section
variable{R:RD}{f rb base:Nat}{s:ByteArray}(HR:Xgj R f rb base s)
include HR
set_option maxRecDepth 100000 in
theorem Xja{p:Nat}{Z:Nat→Prop}{fs:List FN}{w:World}{T:ByteArray}(h:LfAt w rb base Z s p false fs)(hZ:∀x,Z x→x<w.heap.size)(hs:s.size≤1000)(hl:fs.length≤40)(hf:s.size<p+f)(hp:1≤p)(HTW:T.data.toList= [110,117,108,108]):
  Calls Tryz.prog 120 #[.pointer(some⟨rb,0,none⟩), .string T]w(LfOr(X4 WSp R s.data.toList T.data.toList fs(skF s.data.toList p))rb base Z s(p-1)w):=by
 have HT:Hid(T.toList=T.data.toList):=by rw[Hid,ByteArray.toList_eq]
 have HF0:=Xa h
 have HZ:Hid(∀x,Z x→x<w.heap.size):=hZ
 have HHR:=Xa HR
 have HE:Hid(X4 WSp R s.data.toList T.data.toList fs(skF s.data.toList p)=Xu WSp(Zt⟨1,0,ByteArray.empty,[],[]⟩)fs(skF s.data.toList p)):=by rw[Hid,HTW];rfl
 have q_null:(T.toList== [110,117,108,108])=true:=by rw[HT.out,HTW];rfl
 clear h hZ HR HTW
 go_enter Tryz.func120,Tryz.ntmps120
 go_wp2_with fail
 refine(Xr3 w).mono ?_
 rintro e w1⟨rfl,hn,b1⟩
 have HC:=Xa(Va HF0.out HZ.out(by omega)b1 hn)
 clear hn b1
 go_wp2_with fail
 refine HC.out.mono ?_
 rintro e w9⟨rfl,h9,b9⟩
 have HF9:=Xa h9
 have HB9:=Xa b9
 clear h9 b9
 go_wp2_with fail
 go_ret
 exact LfOr.of HE.out(LfOr.add HF9.out hl(by omega)HB9.out)
set_option maxRecDepth 100000 in
theorem Xjb{p:Nat}{Z:Nat→Prop}{fs:List FN}{w:World}{T:ByteArray}(h:LfAt w rb base Z s p false fs)(hZ:∀x,Z x→x<w.heap.size)(hs:s.size≤1000)(hl:fs.length≤40)(hf:s.size<p+f)(hp:1≤p)(HTW:T.data.toList= [116,114,117,101]):
  Calls Tryz.prog 120 #[.pointer(some⟨rb,0,none⟩), .string T]w(LfOr(X4 WSp R s.data.toList T.data.toList fs(skF s.data.toList p))rb base Z s(p-1)w):=by
 have HT:Hid(T.toList=T.data.toList):=by rw[Hid,ByteArray.toList_eq]
 have HF0:=Xa h
 have HZ:Hid(∀x,Z x→x<w.heap.size):=hZ
 have HHR:=Xa HR
 have HE:Hid(X4 WSp R s.data.toList T.data.toList fs(skF s.data.toList p)=Xu WSp(Zt⟨2,1,ByteArray.empty,[],[]⟩)fs(skF s.data.toList p)):=by rw[Hid,HTW];rfl
 have q_null:(T.toList== [110,117,108,108])=false:=by rw[HT.out,HTW];rfl
 have q_true:(T.toList== [116,114,117,101])=true:=by rw[HT.out,HTW];rfl
 clear h hZ HR HTW
 go_enter Tryz.func120,Tryz.ntmps120
 go_wp2_with fail
 refine(Xhr true w).mono ?_
 rintro e w1⟨rfl,hn,b1⟩
 have HC:=Xa(Va HF0.out HZ.out(by omega)b1 hn)
 clear hn b1
 go_wp2_with fail
 refine HC.out.mono ?_
 rintro e w9⟨rfl,h9,b9⟩
 have HF9:=Xa h9
 have HB9:=Xa b9
 clear h9 b9
 go_wp2_with fail
 go_ret
 exact LfOr.of HE.out(LfOr.add HF9.out hl(by omega)HB9.out)
set_option maxRecDepth 100000 in
theorem Xhx{p:Nat}{Z:Nat→Prop}{fs:List FN}{w:World}{T:ByteArray}(h:LfAt w rb base Z s p false fs)(hZ:∀x,Z x→x<w.heap.size)(hs:s.size≤1000)(hl:fs.length≤40)(hf:s.size<p+f)(hp:1≤p)(HTW:T.data.toList= [102,97,108,115,101]):
  Calls Tryz.prog 120 #[.pointer(some⟨rb,0,none⟩), .string T]w(LfOr(X4 WSp R s.data.toList T.data.toList fs(skF s.data.toList p))rb base Z s(p-1)w):=by
 have HT:Hid(T.toList=T.data.toList):=by rw[Hid,ByteArray.toList_eq]
 have HF0:=Xa h
 have HZ:Hid(∀x,Z x→x<w.heap.size):=hZ
 have HHR:=Xa HR
 have HE:Hid(X4 WSp R s.data.toList T.data.toList fs(skF s.data.toList p)=Xu WSp(Zt⟨2,0,ByteArray.empty,[],[]⟩)fs(skF s.data.toList p)):=by rw[Hid,HTW];rfl
 have q_null:(T.toList== [110,117,108,108])=false:=by rw[HT.out,HTW];rfl
 have q_true:(T.toList== [116,114,117,101])=false:=by rw[HT.out,HTW];rfl
 have q_false:(T.toList== [102,97,108,115,101])=true:=by rw[HT.out,HTW];rfl
 clear h hZ HR HTW
 go_enter Tryz.func120,Tryz.ntmps120
 go_wp2_with fail
 refine(Xhr false w).mono ?_
 rintro e w1⟨rfl,hn,b1⟩
 have HC:=Xa(Va HF0.out HZ.out(by omega)b1 hn)
 clear hn b1
 go_wp2_with fail
 refine HC.out.mono ?_
 rintro e w9⟨rfl,h9,b9⟩
 have HF9:=Xa h9
 have HB9:=Xa b9
 clear h9 b9
 go_wp2_with fail
 go_ret
 exact LfOr.of HE.out(LfOr.add HF9.out hl(by omega)HB9.out)
set_option maxRecDepth 100000 in
theorem Xgg{p:Nat}{Z:Nat→Prop}{fs:List FN}{w:World}{T:ByteArray}(h:LfAt w rb base Z s p false fs)(hZ:∀x,Z x→x<w.heap.size)(hs:s.size≤1000)(hl:fs.length≤40)(hf:s.size<p+f)(hp:1≤p)(HTW:T.data.toList= [108,101,110,103,116,104]):
  Calls Tryz.prog 120 #[.pointer(some⟨rb,0,none⟩), .string T]w(LfOr(X4 WSp R s.data.toList T.data.toList fs(skF s.data.toList p))rb base Z s(p-1)w):=by
 have HT:Hid(T.toList=T.data.toList):=by rw[Hid,ByteArray.toList_eq]
 have HF0:=Xa h
 have HZ:Hid(∀x,Z x→x<w.heap.size):=hZ
 have HHR:=Xa HR
 have HE:Hid(X4 WSp R s.data.toList T.data.toList fs(skF s.data.toList p)=Xu WSp(Qw 11)fs(skF s.data.toList p)):=by rw[Hid,HTW];rfl
 have q_null:(T.toList== [110,117,108,108])=false:=by rw[HT.out,HTW];rfl
 have q_true:(T.toList== [116,114,117,101])=false:=by rw[HT.out,HTW];rfl
 have q_false:(T.toList== [102,97,108,115,101])=false:=by rw[HT.out,HTW];rfl
 have q_length:(T.toList== [108,101,110,103,116,104])=true:=by rw[HT.out,HTW];rfl
 clear h hZ HR HTW
 go_enter Tryz.func120,Tryz.ntmps120
 have HA:=Xa(Qn HF0.out(by omega)11 ByteArray.empty 0)
 go_wp2_with fail
 refine HA.out.mono ?_
 rintro e w9⟨rfl,h9,b9⟩
 have HF9:=Xa h9
 have HB9:=Xa b9
 clear h9 b9
 go_wp2_with fail
 go_ret
 exact LfOr.of HE.out(LfOr.add HF9.out hl(by omega)HB9.out)
set_option maxRecDepth 100000 in
theorem Xjc{p:Nat}{Z:Nat→Prop}{fs:List FN}{w:World}{T:ByteArray}(h:LfAt w rb base Z s p false fs)(hZ:∀x,Z x→x<w.heap.size)(hs:s.size≤1000)(hl:fs.length≤40)(hf:s.size<p+f)(hp:1≤p)(HTW:T.data.toList= [107,101,121,115]):
  Calls Tryz.prog 120 #[.pointer(some⟨rb,0,none⟩), .string T]w(LfOr(X4 WSp R s.data.toList T.data.toList fs(skF s.data.toList p))rb base Z s(p-1)w):=by
 have HT:Hid(T.toList=T.data.toList):=by rw[Hid,ByteArray.toList_eq]
 have HF0:=Xa h
 have HZ:Hid(∀x,Z x→x<w.heap.size):=hZ
 have HHR:=Xa HR
 have HE:Hid(X4 WSp R s.data.toList T.data.toList fs(skF s.data.toList p)=Xu WSp(Qw 12)fs(skF s.data.toList p)):=by rw[Hid,HTW];rfl
 have q_null:(T.toList== [110,117,108,108])=false:=by rw[HT.out,HTW];rfl
 have q_true:(T.toList== [116,114,117,101])=false:=by rw[HT.out,HTW];rfl
 have q_false:(T.toList== [102,97,108,115,101])=false:=by rw[HT.out,HTW];rfl
 have q_length:(T.toList== [108,101,110,103,116,104])=false:=by rw[HT.out,HTW];rfl
 have q_keys:(T.toList== [107,101,121,115])=true:=by rw[HT.out,HTW];rfl
 clear h hZ HR HTW
 go_enter Tryz.func120,Tryz.ntmps120
 have HA:=Xa(Qn HF0.out(by omega)12 ByteArray.empty 0)
 go_wp2_with fail
 refine HA.out.mono ?_
 rintro e w9⟨rfl,h9,b9⟩
 have HF9:=Xa h9
 have HB9:=Xa b9
 clear h9 b9
 go_wp2_with fail
 go_ret
 exact LfOr.of HE.out(LfOr.add HF9.out hl(by omega)HB9.out)
set_option maxRecDepth 100000 in
theorem Xk3{p:Nat}{Z:Nat→Prop}{fs:List FN}{w:World}{T:ByteArray}(h:LfAt w rb base Z s p false fs)(hZ:∀x,Z x→x<w.heap.size)(hs:s.size≤1000)(hl:fs.length≤40)(hf:s.size<p+f)(hp:1≤p)(HTW:T.data.toList= [110,111,116]):
  Calls Tryz.prog 120 #[.pointer(some⟨rb,0,none⟩), .string T]w(LfOr(X4 WSp R s.data.toList T.data.toList fs(skF s.data.toList p))rb base Z s(p-1)w):=by
 have HT:Hid(T.toList=T.data.toList):=by rw[Hid,ByteArray.toList_eq]
 have HF0:=Xa h
 have HZ:Hid(∀x,Z x→x<w.heap.size):=hZ
 have HHR:=Xa HR
 have HE:Hid(X4 WSp R s.data.toList T.data.toList fs(skF s.data.toList p)=Xu WSp(Qw 13)fs(skF s.data.toList p)):=by rw[Hid,HTW];rfl
 have q_null:(T.toList== [110,117,108,108])=false:=by rw[HT.out,HTW];rfl
 have q_true:(T.toList== [116,114,117,101])=false:=by rw[HT.out,HTW];rfl
 have q_false:(T.toList== [102,97,108,115,101])=false:=by rw[HT.out,HTW];rfl
 have q_length:(T.toList== [108,101,110,103,116,104])=false:=by rw[HT.out,HTW];rfl
 have q_keys:(T.toList== [107,101,121,115])=false:=by rw[HT.out,HTW];rfl
 have q_not:(T.toList== [110,111,116])=true:=by rw[HT.out,HTW];rfl
 clear h hZ HR HTW
 go_enter Tryz.func120,Tryz.ntmps120
 have HA:=Xa(Qn HF0.out(by omega)13 ByteArray.empty 0)
 go_wp2_with fail
 refine HA.out.mono ?_
 rintro e w9⟨rfl,h9,b9⟩
 have HF9:=Xa h9
 have HB9:=Xa b9
 clear h9 b9
 go_wp2_with fail
 go_ret
 exact LfOr.of HE.out(LfOr.add HF9.out hl(by omega)HB9.out)
set_option maxRecDepth 100000 in
theorem Xhy{p:Nat}{Z:Nat→Prop}{fs:List FN}{w:World}{T:ByteArray}(h:LfAt w rb base Z s p false fs)(hZ:∀x,Z x→x<w.heap.size)(hs:s.size≤1000)(hl:fs.length≤40)(hf:s.size<p+f)(hp:1≤p)(HTW:T.data.toList= [101,109,112,116,121]):
  Calls Tryz.prog 120 #[.pointer(some⟨rb,0,none⟩), .string T]w(LfOr(X4 WSp R s.data.toList T.data.toList fs(skF s.data.toList p))rb base Z s(p-1)w):=by
 have HT:Hid(T.toList=T.data.toList):=by rw[Hid,ByteArray.toList_eq]
 have HF0:=Xa h
 have HZ:Hid(∀x,Z x→x<w.heap.size):=hZ
 have HHR:=Xa HR
 have HE:Hid(X4 WSp R s.data.toList T.data.toList fs(skF s.data.toList p)=Xu WSp(Qw 14)fs(skF s.data.toList p)):=by rw[Hid,HTW];rfl
 have q_null:(T.toList== [110,117,108,108])=false:=by rw[HT.out,HTW];rfl
 have q_true:(T.toList== [116,114,117,101])=false:=by rw[HT.out,HTW];rfl
 have q_false:(T.toList== [102,97,108,115,101])=false:=by rw[HT.out,HTW];rfl
 have q_length:(T.toList== [108,101,110,103,116,104])=false:=by rw[HT.out,HTW];rfl
 have q_keys:(T.toList== [107,101,121,115])=false:=by rw[HT.out,HTW];rfl
 have q_not:(T.toList== [110,111,116])=false:=by rw[HT.out,HTW];rfl
 have q_empty:(T.toList== [101,109,112,116,121])=true:=by rw[HT.out,HTW];rfl
 clear h hZ HR HTW
 go_enter Tryz.func120,Tryz.ntmps120
 have HA:=Xa(Qn HF0.out(by omega)14 ByteArray.empty 0)
 go_wp2_with fail
 refine HA.out.mono ?_
 rintro e w9⟨rfl,h9,b9⟩
 have HF9:=Xa h9
 have HB9:=Xa b9
 clear h9 b9
 go_wp2_with fail
 go_ret
 exact LfOr.of HE.out(LfOr.add HF9.out hl(by omega)HB9.out)
set_option maxRecDepth 100000 in
theorem Xgh{p:Nat}{Z:Nat→Prop}{fs:List FN}{w:World}{T:ByteArray}(h:LfAt w rb base Z s p false fs)(hZ:∀x,Z x→x<w.heap.size)(hs:s.size≤1000)(hl:fs.length≤40)(hf:s.size<p+f)(hp:1≤p)(HTW:T.data.toList= [115,101,108,101,99,116]):
  Calls Tryz.prog 120 #[.pointer(some⟨rb,0,none⟩), .string T]w(LfOr(X4 WSp R s.data.toList T.data.toList fs(skF s.data.toList p))rb base Z s(p-1)w):=by
 have HT:Hid(T.toList=T.data.toList):=by rw[Hid,ByteArray.toList_eq]
 have HF0:=Xa h
 have HZ:Hid(∀x,Z x→x<w.heap.size):=hZ
 have HHR:=Xa HR
 have HE:Hid(X4 WSp R s.data.toList T.data.toList fs(skF s.data.toList p)=Vy WSp R s.data.toList fs(skF s.data.toList p)):=by rw[Hid,HTW];rfl
 have q_null:(T.toList== [110,117,108,108])=false:=by rw[HT.out,HTW];rfl
 have q_true:(T.toList== [116,114,117,101])=false:=by rw[HT.out,HTW];rfl
 have q_false:(T.toList== [102,97,108,115,101])=false:=by rw[HT.out,HTW];rfl
 have q_length:(T.toList== [108,101,110,103,116,104])=false:=by rw[HT.out,HTW];rfl
 have q_keys:(T.toList== [107,101,121,115])=false:=by rw[HT.out,HTW];rfl
 have q_not:(T.toList== [110,111,116])=false:=by rw[HT.out,HTW];rfl
 have q_empty:(T.toList== [101,109,112,116,121])=false:=by rw[HT.out,HTW];rfl
 have q_select:(T.toList== [115,101,108,101,99,116])=true:=by rw[HT.out,HTW];rfl
 clear h hZ HR HTW
 go_enter Tryz.func120,Tryz.ntmps120
 have HS0:=Xa(LfSt.good(p0:=p)HF0.out hl(Nat.le_refl _))
 have HW:=Xa(Xbs 40(by omega)HS0.out)
 go_wp2_with fail
 refine HW.out.mono ?_
 rintro e w1⟨rfl,b1,s1⟩
 have HB1:=Xa b1
 have HZ1:Hid(∀x,Z x→x<w1.heap.size):=fun x hx=>Nat.lt_of_lt_of_le(HZ.out x hx)b1.size
 obtain⟨c1,hc1⟩:∃c1:CF,((some(fs,skF s.data.toList p):CF).bind fun x=>if Xe s.data.toList x.2(40:UInt8).toNat=true then some(x.1,skF s.data.toList(x.2+1))else none)=c1:=⟨_,rfl⟩
 rw[hc1]at s1
 have HC1:=Xa hc1
 have HL:=Xa(Xcb HHR.out 1(by decide)(by decide)HZ1.out hf s1)
 clear b1 s1 hc1
 go_wp2_with fail
 refine HL.out.mono ?_
 rintro e w2⟨n,rfl,b2,s2,hn⟩
 have HB2:=Xa(HB1.out.trans b2)
 have HZ2:Hid(∀x,Z x→x<w2.heap.size):=fun x hx=>Nat.lt_of_lt_of_le(HZ1.out x hx)b2.size
 have HN:=Xa hn
 obtain⟨c2,hc2⟩:∃c2:CF,(c1.bind fun x=>(R 1 x.1 x.2).map(·.2))=c2:=⟨_,rfl⟩
 rw[hc2]at s2
 have HC2:=Xa hc2
 have HW2:=Xa(Xbs 41(by omega)s2)
 clear b2 s2 hn hc2
 go_wp2_with fail
 refine HW2.out.mono ?_
 rintro e w3⟨rfl,b3,s3⟩
 have HB3:=Xa(HB2.out.trans b3)
 have HZ3:Hid(∀x,Z x→x<w3.heap.size):=fun x hx=>Nat.lt_of_lt_of_le(HZ2.out x hx)b3.size
 obtain⟨c3,hc3⟩:∃c3:CF,(c2.bind fun x=>if Xe s.data.toList x.2(41:UInt8).toNat=true then some(x.1,skF s.data.toList(x.2+1))else none)=c3:=⟨_,rfl⟩
 rw[hc3]at s3
 have HC3:=Xa hc3
 have HA:=Xa(Xgl(p0:=p-1)s3(by omega)(by omega)HZ3.out 10 [n](by simp))
 clear b3 s3 hc3
 go_wp2_with fail
 refine HA.out.mono ?_
 intro e w9 h9
 obtain⟨n9,rfl,b9,s9,hn9⟩:=h9.st
 have HO9:=Xa h9
 clear h9 b9 s9 hn9
 go_wp2_with fail
 go_ret
 exact LfOr.of(HE.out.trans(Xwy HC1.out.symm HC2.out.symm HN.out HC3.out.symm))(LfOr.after HB3.out(Nat.le_refl _)HO9.out)
set_option maxRecDepth 100000 in
theorem Xno{p:Nat}{Z:Nat→Prop}{fs:List FN}{w:World}{T:ByteArray}(h:LfAt w rb base Z s p false fs)(hZ:∀x,Z x→x<w.heap.size)(hs:s.size≤1000)(hl:fs.length≤40)(hf:s.size<p+f)(hp:1≤p)(HTW:T.data.toList= [105,102]):
  Calls Tryz.prog 120 #[.pointer(some⟨rb,0,none⟩), .string T]w(LfOr(X4 WSp R s.data.toList T.data.toList fs(skF s.data.toList p))rb base Z s(p-1)w):=by
 have HT:Hid(T.toList=T.data.toList):=by rw[Hid,ByteArray.toList_eq]
 have HF0:=Xa h
 have HZ:Hid(∀x,Z x→x<w.heap.size):=hZ
 have HHR:=Xa HR
 have HE:Hid(X4 WSp R s.data.toList T.data.toList fs(skF s.data.toList p)=ifF WSp R s.data.toList fs(skF s.data.toList p)):=by rw[Hid,HTW];rfl
 have q_null:(T.toList== [110,117,108,108])=false:=by rw[HT.out,HTW];rfl
 have q_true:(T.toList== [116,114,117,101])=false:=by rw[HT.out,HTW];rfl
 have q_false:(T.toList== [102,97,108,115,101])=false:=by rw[HT.out,HTW];rfl
 have q_length:(T.toList== [108,101,110,103,116,104])=false:=by rw[HT.out,HTW];rfl
 have q_keys:(T.toList== [107,101,121,115])=false:=by rw[HT.out,HTW];rfl
 have q_not:(T.toList== [110,111,116])=false:=by rw[HT.out,HTW];rfl
 have q_empty:(T.toList== [101,109,112,116,121])=false:=by rw[HT.out,HTW];rfl
 have q_select:(T.toList== [115,101,108,101,99,116])=false:=by rw[HT.out,HTW];rfl
 have q_if:(T.toList== [105,102])=true:=by rw[HT.out,HTW];rfl
 clear h hZ HR HTW
 go_enter Tryz.func120,Tryz.ntmps120
 have HL:=Xa(HHR.out 1 Z fs p w(by decide)(by decide)HZ.out HF0.out hl hf)
 go_wp2_with fail
 refine HL.out.mono ?_
 intro e w1 h1
 obtain⟨a,rfl,b1,s1,hn⟩:=h1.st
 have HB1:=Xa b1
 have HZ1:Hid(∀x,Z x→x<w1.heap.size):=fun x hx=>Nat.lt_of_lt_of_le(HZ.out x hx)b1.size
 have HNA:=Xa hn
 obtain⟨ca,hca⟩:∃ca:CF,(R 1 fs(skF s.data.toList p)).map(·.2)=ca:=⟨_,rfl⟩
 rw[hca]at s1
 have HCA:=Xa hca
 have HT1:=Xa(Xgk(u:=⟨#[116,104,101,110]⟩)(by omega)⟨116,[104,101,110],rfl,by decide⟩s1)
 clear h1 b1 s1 hn hca
 go_wp2_with fail
 refine HT1.out.mono ?_
 rintro e w2⟨rfl,b2,s2⟩
 have HB2:=Xa(HB1.out.trans b2)
 have HZ2:Hid(∀x,Z x→x<w2.heap.size):=fun x hx=>Nat.lt_of_lt_of_le(HZ1.out x hx)b2.size
 obtain⟨sa,hsa⟩:∃sa:CF,(ca.bind fun x=>if X9 s.data.toList x.2=(⟨#[116,104,101,110]⟩:ByteArray).data.toList then some(x.1,skF s.data.toList(nmJ s.data.toList x.2))else none)=sa:=⟨_,rfl⟩
 rw[hsa]at s2
 have HSA:=Xa hsa
 have HL2:=Xa(Xcb HHR.out 1(by decide)(by decide)HZ2.out hf s2)
 clear b2 s2 hsa
 go_wp2_with fail
 refine HL2.out.mono ?_
 rintro e w3⟨b,rfl,b3,s3,hn⟩
 have HB3:=Xa(HB2.out.trans b3)
 have HZ3:Hid(∀x,Z x→x<w3.heap.size):=fun x hx=>Nat.lt_of_lt_of_le(HZ2.out x hx)b3.size
 have HNB:=Xa hn
 obtain⟨cb,hcb⟩:∃cb:CF,(sa.bind fun x=>(R 1 x.1 x.2).map(·.2))=cb:=⟨_,rfl⟩
 rw[hcb]at s3
 have HCB:=Xa hcb
 have HT2:=Xa(Xgk(u:=⟨#[101,108,115,101]⟩)(by omega)⟨101,[108,115,101],rfl,by decide⟩s3)
 clear b3 s3 hn hcb
 go_wp2_with fail
 refine HT2.out.mono ?_
 rintro e w4⟨rfl,b4,s4⟩
 have HB4:=Xa(HB3.out.trans b4)
 have HZ4:Hid(∀x,Z x→x<w4.heap.size):=fun x hx=>Nat.lt_of_lt_of_le(HZ3.out x hx)b4.size
 obtain⟨sb,hsb⟩:∃sb:CF,(cb.bind fun x=>if X9 s.data.toList x.2=(⟨#[101,108,115,101]⟩:ByteArray).data.toList then some(x.1,skF s.data.toList(nmJ s.data.toList x.2))else none)=sb:=⟨_,rfl⟩
 rw[hsb]at s4
 have HSB:=Xa hsb
 have HL3:=Xa(Xcb HHR.out 1(by decide)(by decide)HZ4.out hf s4)
 clear b4 s4 hsb
 go_wp2_with fail
 refine HL3.out.mono ?_
 rintro e w5⟨c,rfl,b5,s5,hn⟩
 have HB5:=Xa(HB4.out.trans b5)
 have HZ5:Hid(∀x,Z x→x<w5.heap.size):=fun x hx=>Nat.lt_of_lt_of_le(HZ4.out x hx)b5.size
 have HNC:=Xa hn
 obtain⟨cc,hcc⟩:∃cc:CF,(sb.bind fun x=>(R 1 x.1 x.2).map(·.2))=cc:=⟨_,rfl⟩
 rw[hcc]at s5
 have HCC:=Xa hcc
 have HT3:=Xa(Xgk(u:=⟨#[101,110,100]⟩)(by omega)⟨101,[110,100],rfl,by decide⟩s5)
 clear b5 s5 hn hcc
 go_wp2_with fail
 refine HT3.out.mono ?_
 rintro e w6⟨rfl,b6,s6⟩
 have HB6:=Xa(HB5.out.trans b6)
 have HZ6:Hid(∀x,Z x→x<w6.heap.size):=fun x hx=>Nat.lt_of_lt_of_le(HZ5.out x hx)b6.size
 obtain⟨se,hse⟩:∃se:CF,(cc.bind fun x=>if X9 s.data.toList x.2=(⟨#[101,110,100]⟩:ByteArray).data.toList then some(x.1,skF s.data.toList(nmJ s.data.toList x.2))else none)=se:=⟨_,rfl⟩
 rw[hse]at s6
 have HSE:=Xa hse
 have HA:=Xa(Xgl(p0:=p-1)s6(by omega)(by omega)HZ6.out 22 [a,b,c](by simp))
 clear b6 s6 hse
 go_wp2_with fail
 refine HA.out.mono ?_
 intro e w9 h9
 obtain⟨n9,rfl,b9,s9,hn9⟩:=h9.st
 have HO9:=Xa h9
 clear h9 b9 s9 hn9
 go_wp2_with fail
 go_ret
 exact LfOr.of(HE.out.trans(Xyy HCA.out.symm HNA.out HSA.out.symm HCB.out.symm HNB.out HSB.out.symm HCC.out.symm HNC.out HSE.out.symm))(LfOr.after HB6.out(Nat.le_refl _)HO9.out)
set_option maxRecDepth 100000 in
theorem Xjd{p:Nat}{Z:Nat→Prop}{fs:List FN}{w:World}{T:ByteArray}(h:LfAt w rb base Z s p false fs)(hZ:∀x,Z x→x<w.heap.size)(hs:s.size≤1000)(hl:fs.length≤40)(hf:s.size<p+f)(hp:1≤p)(n_null:T.data.toList≠ [110,117,108,108])(n_true:T.data.toList≠ [116,114,117,101])(n_false:T.data.toList≠ [102,97,108,115,101])(n_length:T.data.toList≠ [108,101,110,103,116,104])(n_keys:T.data.toList≠ [107,101,121,115])(n_not:T.data.toList≠ [110,111,116])(n_empty:T.data.toList≠ [101,109,112,116,121])(n_select:T.data.toList≠ [115,101,108,101,99,116])(n_if:T.data.toList≠ [105,102]):
  Calls Tryz.prog 120 #[.pointer(some⟨rb,0,none⟩), .string T]w(LfOr(X4 WSp R s.data.toList T.data.toList fs(skF s.data.toList p))rb base Z s(p-1)w):=by
 have HT:Hid(T.toList=T.data.toList):=by rw[Hid,ByteArray.toList_eq]
 have HF0:=Xa h
 have HZ:Hid(∀x,Z x→x<w.heap.size):=hZ
 have HHR:=Xa HR
 have HE:Hid(X4 WSp R s.data.toList T.data.toList fs(skF s.data.toList p)=none):=Xk2 n_null n_true n_false n_length n_keys n_not n_empty n_select n_if
 have q_null:(T.toList== [110,117,108,108])=false:=by rw[HT.out];exact beq_false_of_ne n_null
 have q_true:(T.toList== [116,114,117,101])=false:=by rw[HT.out];exact beq_false_of_ne n_true
 have q_false:(T.toList== [102,97,108,115,101])=false:=by rw[HT.out];exact beq_false_of_ne n_false
 have q_length:(T.toList== [108,101,110,103,116,104])=false:=by rw[HT.out];exact beq_false_of_ne n_length
 have q_keys:(T.toList== [107,101,121,115])=false:=by rw[HT.out];exact beq_false_of_ne n_keys
 have q_not:(T.toList== [110,111,116])=false:=by rw[HT.out];exact beq_false_of_ne n_not
 have q_empty:(T.toList== [101,109,112,116,121])=false:=by rw[HT.out];exact beq_false_of_ne n_empty
 have q_select:(T.toList== [115,101,108,101,99,116])=false:=by rw[HT.out];exact beq_false_of_ne n_select
 have q_if:(T.toList== [105,102])=false:=by rw[HT.out];exact beq_false_of_ne n_if
 clear h hZ HR n_null n_true n_false n_length n_keys n_not n_empty n_select n_if
 have HFB:=Xa(HF0.out.setB true)
 have HBB:Hid(LB rb base Z w(w.setCell⟨rb,2,none⟩(.bool true))):=LB.of_set 2 _
 obtain⟨c0,c1,c2⟩:=HF0.out.cells
 have f2:=HF0.out.free 2
 go_enter Tryz.func120,Tryz.ntmps120
 go_wp2_with fail
 go_ret
 exact LfOr.of HE.out(LfOr.no rfl HFB.out(by omega)(by omega)HBB.out)
theorem Xk4{p:Nat}{Z:Nat→Prop}{fs:List FN}{w:World}{T:ByteArray}(h:LfAt w rb base Z s p false fs)(hZ:∀x,Z x→x<w.heap.size)(hs:s.size≤1000)(hl:fs.length≤40)(hf:s.size<p+f)(hp:1≤p):
  Calls Tryz.prog 120 #[.pointer(some⟨rb,0,none⟩), .string T]w(LfOr(X4 WSp R s.data.toList T.data.toList fs(skF s.data.toList p))rb base Z s(p-1)w):=by
 by_cases n_null:T.data.toList= [110,117,108,108]
 ·exact Xja HR h hZ hs hl hf hp n_null
 by_cases n_true:T.data.toList= [116,114,117,101]
 ·exact Xjb HR h hZ hs hl hf hp n_true
 by_cases n_false:T.data.toList= [102,97,108,115,101]
 ·exact Xhx HR h hZ hs hl hf hp n_false
 by_cases n_length:T.data.toList= [108,101,110,103,116,104]
 ·exact Xgg HR h hZ hs hl hf hp n_length
 by_cases n_keys:T.data.toList= [107,101,121,115]
 ·exact Xjc HR h hZ hs hl hf hp n_keys
 by_cases n_not:T.data.toList= [110,111,116]
 ·exact Xk3 HR h hZ hs hl hf hp n_not
 by_cases n_empty:T.data.toList= [101,109,112,116,121]
 ·exact Xhy HR h hZ hs hl hf hp n_empty
 by_cases n_select:T.data.toList= [115,101,108,101,99,116]
 ·exact Xgh HR h hZ hs hl hf hp n_select
 by_cases n_if:T.data.toList= [105,102]
 ·exact Xno HR h hZ hs hl hf hp n_if
 exact Xjd HR h hZ hs hl hf hp n_null n_true n_false n_length n_keys n_not n_empty n_select n_if
end

end Go.Proofs.YtehihemfepbmfaaGreatDoor
