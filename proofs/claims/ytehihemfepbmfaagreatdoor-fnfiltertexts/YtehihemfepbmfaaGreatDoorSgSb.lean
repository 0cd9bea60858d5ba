import Derived.Test.YtehihemfepbmfaaGreatDoorMkG
import Derived.Test.YtehihemfepbmfaaGreatDoorUneP
import Derived.Deep.RegionLaw
import Derived.Deep.AppendLies
import Derived.Test.YtehihemfepbmfaaGreatDoorSgQ
import Derived.Test.YtehihemfepbmfaaGreatDoorFtH
namespace Go.Proofs.YtehihemfepbmfaaGreatDoor
set_option linter.unusedSectionVars false
set_option maxHeartbeats 12800000
open Go.RowKit
set_option linter.unusedSimpArgs false
set_option linter.unusedVariables false
set_option maxRecDepth 100000 in
theorem Xht{rb mb base p:Nat}{Z:Nat→Prop}{s:ByteArray}{fs:List FN}{w:World}(h:FrAt w rb mb base Z s p fs)(hs:s.size≤4000)(hq:¬p+1<s.size):
  Calls Tryz.prog 111 #[.pointer(some⟨rb,0,none⟩)]w fun e w'=>e= .returned(jhV(X0 s.data.toList p))∧Below w.heap.size w w':=by
 obtain⟨W1,hW1⟩:∃W1,w.alloc(.cells #[.int .i64 0, .string⟨#[]⟩, .int .i64 0, .int .i64 0, .int .i64 0]91)=W1:=⟨_,rfl⟩
 have hb1:Below w.heap.size w W1:=by rw[←hW1];exact(Below.refl _ _).alloc(Nat.le_refl _)_
 have hx1:W1.heap[w.heap.size]? =some(.cells #[.int .i64 0, .string⟨#[]⟩, .int .i64 0, .int .i64 0, .int .i64 0]91(0,0)):=by rw[←hW1];exact heap_alloc_new w _
 have hz1:w.heap.size<W1.heap.size:=by rw[←hW1];simp
 have HLN:=Xa(Xm s)
 have hp:=h.le
 have HJ:Hid(X0 s.data.toList p=Uj(Xh s.data.toList p)(Xh s.data.toList(p+1))):=by rw[Hid,Xoy,Xu7]
 obtain⟨c,hc⟩:∃c,Xh s.data.toList p=c:=⟨_,rfl⟩
 obtain⟨d,hd⟩:∃d,Xh s.data.toList(p+1)=d:=⟨_,rfl⟩
 have hc256:c<256:=by rw[←hc];exact Jt _ _
 have hd256:d<256:=by rw[←hd];exact Jt _ _
 rw[hc,hd]at HJ
 have HD:=Xa hd
 have HX1:=Xa hx1
 have HB1:=Xa hb1
 have HF1:=Xa(h.below hb1)
 have HPK:=Xa(Xax(let⟨v,h1,_⟩:=HF1.out.ex;h1.br)(by omega))
 rw[hc]at HPK
 clear h hb1 hx1 hc hd
 go_enter Tryz.func111,Tryz.ntmps111
 go_wp2_with fail
 (try rw[hW1])
 refine HPK.out.mono ?_
 rintro e w1⟨rfl,hb2⟩
 have HB2:=Xa hb2
 have HF2:=Xa(HF1.out.below hb2)
 have hz2:w.heap.size<w1.heap.size:=Nat.lt_of_lt_of_le hz1 hb2.size
 have HX2:Hid(w1.heap[w.heap.size]? =_):=(hb2.block _ hz1).trans HX1.out
 obtain⟨W2,hW2⟩:∃W2,w1.alloc(.cells #[.int .u8(c:Int), .int .u8 0]110)=W2:=⟨_,rfl⟩
 have hb3:Below w1.heap.size w1 W2:=by rw[←hW2];exact(Below.refl _ _).alloc(Nat.le_refl _)_
 have HB3:=Xa hb3
 have HF3:=Xa(HF2.out.below hb3)
 have HX3:Hid(W2.heap[w.heap.size]? =_):=(hb3.block _ hz2).trans HX2.out
 have HY3:Hid(W2.heap[w1.heap.size]? =some(.cells #[.int .u8(c:Int), .int .u8 0]110(0,0))):=by rw[Hid,←hW2];exact heap_alloc_new w1 _
 have hz3:w1.heap.size<W2.heap.size:=by rw[←hW2];simp
 have HW2:=Xa hW2
 clear hb2 hb3 hW2
 go_wp2_with fail
 rw[HW2.out]
 obtain⟨c0,c1,f1,lt0⟩:=HF3.out.cells
 have y0:W2.cell?⟨w1.heap.size,0,none⟩=some(.int .u8(c:Int)):=cellAt HY3.out rfl
 have y1:W2.cell?⟨w1.heap.size,1,none⟩=some(.int .u8 0):=cellAt HY3.out rfl
 have g1:W2.frozen?⟨w1.heap.size,1,none⟩=false:=Lib.frozen_of_heap HY3.out 1
 have hd0:(d:Int)=0:=by
  have:=Q2(L:=s.data.toList)(p:=p+1)(by rw[HLN.out];omega)
  rw[HD.out]at this;omega
 have hq':¬(p:Int)+1<(s.size:Int):=by omega
 have hqd:decide((p:Int)+1<(s.size:Int))=false:=by simpa using hq'
 have HD0:=Xa hd0
 clear hd0
 go_quiet(fail)
 have HD4:=Xa(Xq(w:=W2)nq)
 obtain⟨WA,hWA⟩:∃WA,W2.drewN nq=WA:=⟨_,rfl⟩
 rw[hWA]at HD4⊢
 have HFA:=Xa(HF3.out.below HD4.out)
 have HXA:Hid(WA.heap[w.heap.size]? =_):=(HD4.out.block _(by omega)).trans HX3.out
 have HYA:Hid(WA.heap[w1.heap.size]? =some(.cells #[.int .u8(c:Int), .int .u8(d:Int)]110(0,0))):=by rw[Hid,HD0.out];exact(HD4.out.block _(by omega)).trans HY3.out
 have hzA:w1.heap.size<WA.heap.size:=Nat.lt_of_lt_of_le hz3 HD4.out.size
 have HBA:Hid(Below w.heap.size w WA):=((HB1.out.trans(HB2.out.mono(by omega))).trans(HB3.out.mono(by omega))).trans(HD4.out.mono(by omega))
 have m3:WA.cell?⟨rb,3,none⟩=some(.map(some mb)):=by
  obtain⟨v,h1,_⟩:=HFA.out.ex
  exact h1.bl 3(by decide)
 have mmp:WA.heap[mb]? =some(.map(Qr 10)10):=HFA.out.box.mp
 clear hWA c0 c1 f1 y0 y1 g1 hq hq' hqd HD4 HFA nq
 all_goals
  obtain⟨k1,t1,l1,fl1,r1,ok1,hlk,hor1⟩:=Xee mb c d
  have hlk1:=hlk WA.drew mmp
  have hmb:mb<WA.heap.size:=Wy mmp
  have hlk2:=hlk((WA.alloc(.cells #[.int .i64 0, .string⟨#[]⟩, .int .i64 0, .int .i64 0, .int .i64 0]91)).drew)((heap_alloc_old WA _ hmb).trans mmp)
  have HOR1:=Xa hor1
  have HMP:=Xa mmp
  have hrl:rb<WA.heap.size:=by have:=HF2.out.cells.2.2.2;omega
  clear hor1 mmp hlk
  have y0:WA.cell?⟨w1.heap.size,0,none⟩=some(.int .u8(c:Int)):=cellAt HYA.out rfl
  have y1:WA.cell?⟨w1.heap.size,1,none⟩=some(.int .u8(d:Int)):=cellAt HYA.out rfl
  have HW2':=HW2
  clear HW2
  go_wp2_with fail
  go_region
 all_goals
  obtain⟨WB,hWB⟩:∃WB,(WA.alloc(.cells #[.int .i64 k1, .string t1, .int .i64 l1, .int .i64 fl1, .int .i64 r1]91)).drew=WB:=⟨_,rfl⟩
  rw[hWB]
  have hbB:Below WA.heap.size WA WB:=by rw[←hWB];exact((Below.refl _ _).alloc(Nat.le_refl _)_).drew
  have hjB:WB.heap[WA.heap.size]? =some(.cells #[.int .i64 k1, .string t1, .int .i64 l1, .int .i64 fl1, .int .i64 r1]91(0,0)):=by rw[←hWB];exact heap_alloc_new WA _
  have HXB:Hid(WB.heap[w.heap.size]? =_):=(hbB.block _(by omega)).trans HXA.out
  have HYB:Hid(WB.heap[w1.heap.size]? =_):=(hbB.block _(by omega)).trans HYA.out
  have HMPB:Hid(WB.heap[mb]? =_):=(hbB.block _ hmb).trans HMP.out
  have HBB:=Xa(HBA.out.trans(hbB.mono(by omega)))
  have hzB:WA.heap.size<WB.heap.size:=by rw[←hWB];simp
  have hmbB:mb<WB.heap.size:=by omega
  have m3':WB.cell?⟨rb,3,none⟩=some(.map(some mb)):=(Xcv(hbB.block rb hrl)).trans m3
  clear hWB hbB hlk1 hlk2 m3 y0 y1
  have m3:=m3'
  clear m3'
  have y0:WB.cell?⟨w1.heap.size,0,none⟩=some(.int .u8(c:Int)):=cellAt HYB.out rfl
  have y1:WB.cell?⟨w1.heap.size,1,none⟩=some(.int .u8(d:Int)):=cellAt HYB.out rfl
  have j0:=cellAt hjB(i:=0)rfl
  have j1:=cellAt hjB(i:=1)rfl
  have j2:=cellAt hjB(i:=2)rfl
  have j3:=cellAt hjB(i:=3)rfl
  have j4:=cellAt hjB(i:=4)rfl
  have u0:=cellAt HXB.out(i:=0)rfl
  have u1:=cellAt HXB.out(i:=1)rfl
  have u2:=cellAt HXB.out(i:=2)rfl
  have u3:=cellAt HXB.out(i:=3)rfl
  have u4:=cellAt HXB.out(i:=4)rfl
  have v0:WB.frozen?⟨w.heap.size,0,none⟩=false:=Lib.frozen_of_heap HXB.out 0
  have v1:WB.frozen?⟨w.heap.size,1,none⟩=false:=Lib.frozen_of_heap HXB.out 1
  have v2:WB.frozen?⟨w.heap.size,2,none⟩=false:=Lib.frozen_of_heap HXB.out 2
  have v3:WB.frozen?⟨w.heap.size,3,none⟩=false:=Lib.frozen_of_heap HXB.out 3
  have v4:WB.frozen?⟨w.heap.size,4,none⟩=false:=Lib.frozen_of_heap HXB.out 4
  have hne2:¬w.heap.size=WA.heap.size:=by omega
  have hne3:¬WA.heap.size=w.heap.size:=by omega
  have hrlB:rb<WB.heap.size:=by omega
  have hw1B:w1.heap.size<WB.heap.size:=by omega
  clear hjB HXA HYA HMP hrl hmb
  by_cases hA:ok1=true∧d≠0
  ·obtain⟨hok,hd0⟩:=hA
   subst hok
   have dne:((d:Int) !=0)=true:=by simp;omega
   have dne2:¬(d:Int)=0:=by omega
   have HR:Hid(jhV(X0 s.data.toList p)= .tuple #[.agg #[.int .i64 k1, .string t1, .int .i64 l1, .int .i64 fl1, .int .i64 r1], .int .i64 2]):=by
    rcases HOR1.out with⟨_,hk,e1,e2,e3,e4⟩|⟨e,_⟩
    ·rw[Hid,HJ.out];unfold Uj;rw[if_neg hd0,hk,e1,e2,e3,e4];rfl
    ·cases e
   clear HOR1
   go_wp2_with fail
   refine Gq(Xac HXB.out)rfl rfl rfl ?_
   exact⟨by rw[HR.out];rfl,((((HBB.out.setCell(p:=⟨w.heap.size,0,none⟩)(Nat.le_refl _)_).setCell(p:=⟨w.heap.size,1,none⟩)(Nat.le_refl _)_).setCell(p:=⟨w.heap.size,2,none⟩)(Nat.le_refl _)_).setCell(p:=⟨w.heap.size,3,none⟩)(Nat.le_refl _)_).setCell(p:=⟨w.heap.size,4,none⟩)(Nat.le_refl _)_⟩
  have HFST:Hid((if d=0 then none else Ga c d)=none):=by
   rw[Hid]
   split
   ·rfl
   ·rename_i hd0
    rcases HOR1.out with⟨e,_⟩|⟨_,hk⟩
    ·exact absurd⟨e,hd0⟩hA
    ·exact hk
  have hB:ok1=false∨(ok1=true∧(d:Int)=0):=by
   cases ok1
   ·exact .inl rfl
   ·refine .inr⟨rfl, ?_⟩
    by_cases h:d=0
    ·omega
    ·exact absurd⟨rfl,h⟩hA
  clear HOR1 hA
  rcases hB with hB|⟨hB,hd0⟩
  ·subst hB
   obtain⟨k2,t2,l2,fl2,r2,ok2,hlk,hor2⟩:=Xa9 mb c
   have hlk1:=hlk WB.drew HMPB.out
   have hlk2:=hlk((WB.alloc(.cells #[.int .i64 0, .string⟨#[]⟩, .int .i64 0, .int .i64 0, .int .i64 0]91)).drew)((heap_alloc_old WB _ hmbB).trans HMPB.out)
   clear hlk
   have HOR2:=Xa hor2
   clear hor2
   go_wp2_with fail
   go_region
   all_goals
    obtain⟨WC,hWC⟩:∃WC,(WB.alloc(.cells #[.int .i64 k2, .string t2, .int .i64 l2, .int .i64 fl2, .int .i64 r2]91)).drew=WC:=⟨_,rfl⟩
    rw[hWC]
    have hbC:Below WB.heap.size WB WC:=by rw[←hWC];exact((Below.refl _ _).alloc(Nat.le_refl _)_).drew
    have hjC:WC.heap[WB.heap.size]? =some(.cells #[.int .i64 k2, .string t2, .int .i64 l2, .int .i64 fl2, .int .i64 r2]91(0,0)):=by rw[←hWC];exact heap_alloc_new WB _
    have HXC:Hid(WC.heap[w.heap.size]? =_):=(hbC.block _(by omega)).trans HXB.out
    have HBC:=Xa(HBB.out.trans(hbC.mono(by omega)))
    have hzC:WB.heap.size<WC.heap.size:=by rw[←hWC];simp
    clear hWC hbC hlk1 hlk2 m3 y0 y1 u0 u1 u2 u3 u4 v0 v1 v2 v3 v4 j0 j1 j2 j3 j4
    have j0:=cellAt hjC(i:=0)rfl
    have j1:=cellAt hjC(i:=1)rfl
    have j2:=cellAt hjC(i:=2)rfl
    have j3:=cellAt hjC(i:=3)rfl
    have j4:=cellAt hjC(i:=4)rfl
    have u0:=cellAt HXC.out(i:=0)rfl
    have u1:=cellAt HXC.out(i:=1)rfl
    have u2:=cellAt HXC.out(i:=2)rfl
    have u3:=cellAt HXC.out(i:=3)rfl
    have u4:=cellAt HXC.out(i:=4)rfl
    have v0:WC.frozen?⟨w.heap.size,0,none⟩=false:=Lib.frozen_of_heap HXC.out 0
    have v1:WC.frozen?⟨w.heap.size,1,none⟩=false:=Lib.frozen_of_heap HXC.out 1
    have v2:WC.frozen?⟨w.heap.size,2,none⟩=false:=Lib.frozen_of_heap HXC.out 2
    have v3:WC.frozen?⟨w.heap.size,3,none⟩=false:=Lib.frozen_of_heap HXC.out 3
    have v4:WC.frozen?⟨w.heap.size,4,none⟩=false:=Lib.frozen_of_heap HXC.out 4
    have hne2:¬w.heap.size=WB.heap.size:=by omega
    have hne3:¬WB.heap.size=w.heap.size:=by omega
    clear hjC
    rcases HOR2.out with⟨e,hk,e1,e2,e3,e4⟩|⟨e,hk⟩
    ·subst e
     have HR:Hid(jhV(X0 s.data.toList p)= .tuple #[.agg #[.int .i64 k2, .string t2, .int .i64 l2, .int .i64 fl2, .int .i64 r2], .int .i64 1]):=by rw[Hid,HJ.out];unfold Uj;rw[HFST.out,hk,e1,e2,e3,e4];rfl
     clear hk e1 e2 e3 e4 HOR2
     go_wp2_with fail
     refine Gq(Xac HXC.out)rfl rfl rfl ?_
     exact⟨by rw[HR.out];rfl,((((HBC.out.setCell(p:=⟨w.heap.size,0,none⟩)(Nat.le_refl _)_).setCell(p:=⟨w.heap.size,1,none⟩)(Nat.le_refl _)_).setCell(p:=⟨w.heap.size,2,none⟩)(Nat.le_refl _)_).setCell(p:=⟨w.heap.size,3,none⟩)(Nat.le_refl _)_).setCell(p:=⟨w.heap.size,4,none⟩)(Nat.le_refl _)_⟩
    ·subst e
     have HR:Hid(jhV(X0 s.data.toList p)= .tuple #[.agg #[.int .i64 0, .string⟨#[]⟩, .int .i64 0, .int .i64 0, .int .i64 0], .int .i64 0]):=by rw[Hid,HJ.out];unfold Uj;rw[HFST.out,hk];rfl
     clear hk HOR2
     go_wp2_with fail
     refine Gq(Xac HXC.out)rfl rfl rfl ?_
     exact⟨by rw[HR.out];rfl,((((HBC.out.setCell(p:=⟨w.heap.size,0,none⟩)(Nat.le_refl _)_).setCell(p:=⟨w.heap.size,1,none⟩)(Nat.le_refl _)_).setCell(p:=⟨w.heap.size,2,none⟩)(Nat.le_refl _)_).setCell(p:=⟨w.heap.size,3,none⟩)(Nat.le_refl _)_).setCell(p:=⟨w.heap.size,4,none⟩)(Nat.le_refl _)_⟩
  ·subst hB
   rw[hd0]at y1
   clear hd0
   obtain⟨k2,t2,l2,fl2,r2,ok2,hlk,hor2⟩:=Xa9 mb c
   have hlk1:=hlk WB.drew HMPB.out
   have hlk2:=hlk((WB.alloc(.cells #[.int .i64 0, .string⟨#[]⟩, .int .i64 0, .int .i64 0, .int .i64 0]91)).drew)((heap_alloc_old WB _ hmbB).trans HMPB.out)
   clear hlk
   have HOR2:=Xa hor2
   clear hor2
   go_wp2_with fail
   go_region
   all_goals
    obtain⟨WC,hWC⟩:∃WC,(WB.alloc(.cells #[.int .i64 k2, .string t2, .int .i64 l2, .int .i64 fl2, .int .i64 r2]91)).drew=WC:=⟨_,rfl⟩
    rw[hWC]
    have hbC:Below WB.heap.size WB WC:=by rw[←hWC];exact((Below.refl _ _).alloc(Nat.le_refl _)_).drew
    have hjC:WC.heap[WB.heap.size]? =some(.cells #[.int .i64 k2, .string t2, .int .i64 l2, .int .i64 fl2, .int .i64 r2]91(0,0)):=by rw[←hWC];exact heap_alloc_new WB _
    have HXC:Hid(WC.heap[w.heap.size]? =_):=(hbC.block _(by omega)).trans HXB.out
    have HBC:=Xa(HBB.out.trans(hbC.mono(by omega)))
    have hzC:WB.heap.size<WC.heap.size:=by rw[←hWC];simp
    clear hWC hbC hlk1 hlk2 m3 y0 y1 u0 u1 u2 u3 u4 v0 v1 v2 v3 v4 j0 j1 j2 j3 j4
    have j0:=cellAt hjC(i:=0)rfl
    have j1:=cellAt hjC(i:=1)rfl
    have j2:=cellAt hjC(i:=2)rfl
    have j3:=cellAt hjC(i:=3)rfl
    have j4:=cellAt hjC(i:=4)rfl
    have u0:=cellAt HXC.out(i:=0)rfl
    have u1:=cellAt HXC.out(i:=1)rfl
    have u2:=cellAt HXC.out(i:=2)rfl
    have u3:=cellAt HXC.out(i:=3)rfl
    have u4:=cellAt HXC.out(i:=4)rfl
    have v0:WC.frozen?⟨w.heap.size,0,none⟩=false:=Lib.frozen_of_heap HXC.out 0
    have v1:WC.frozen?⟨w.heap.size,1,none⟩=false:=Lib.frozen_of_heap HXC.out 1
    have v2:WC.frozen?⟨w.heap.size,2,none⟩=false:=Lib.frozen_of_heap HXC.out 2
    have v3:WC.frozen?⟨w.heap.size,3,none⟩=false:=Lib.frozen_of_heap HXC.out 3
    have v4:WC.frozen?⟨w.heap.size,4,none⟩=false:=Lib.frozen_of_heap HXC.out 4
    have hne2:¬w.heap.size=WB.heap.size:=by omega
    have hne3:¬WB.heap.size=w.heap.size:=by omega
    clear hjC
    rcases HOR2.out with⟨e,hk,e1,e2,e3,e4⟩|⟨e,hk⟩
    ·subst e
     have HR:Hid(jhV(X0 s.data.toList p)= .tuple #[.agg #[.int .i64 k2, .string t2, .int .i64 l2, .int .i64 fl2, .int .i64 r2], .int .i64 1]):=by rw[Hid,HJ.out];unfold Uj;rw[HFST.out,hk,e1,e2,e3,e4];rfl
     clear hk e1 e2 e3 e4 HOR2
     go_wp2_with fail
     refine Gq(Xac HXC.out)rfl rfl rfl ?_
     exact⟨by rw[HR.out];rfl,((((HBC.out.setCell(p:=⟨w.heap.size,0,none⟩)(Nat.le_refl _)_).setCell(p:=⟨w.heap.size,1,none⟩)(Nat.le_refl _)_).setCell(p:=⟨w.heap.size,2,none⟩)(Nat.le_refl _)_).setCell(p:=⟨w.heap.size,3,none⟩)(Nat.le_refl _)_).setCell(p:=⟨w.heap.size,4,none⟩)(Nat.le_refl _)_⟩
    ·subst e
     have HR:Hid(jhV(X0 s.data.toList p)= .tuple #[.agg #[.int .i64 0, .string⟨#[]⟩, .int .i64 0, .int .i64 0, .int .i64 0], .int .i64 0]):=by rw[Hid,HJ.out];unfold Uj;rw[HFST.out,hk];rfl
     clear hk HOR2
     go_wp2_with fail
     refine Gq(Xac HXC.out)rfl rfl rfl ?_
     exact⟨by rw[HR.out];rfl,((((HBC.out.setCell(p:=⟨w.heap.size,0,none⟩)(Nat.le_refl _)_).setCell(p:=⟨w.heap.size,1,none⟩)(Nat.le_refl _)_).setCell(p:=⟨w.heap.size,2,none⟩)(Nat.le_refl _)_).setCell(p:=⟨w.heap.size,3,none⟩)(Nat.le_refl _)_).setCell(p:=⟨w.heap.size,4,none⟩)(Nat.le_refl _)_⟩

theorem Xya:(Tryz.prog.info? 9).map(fun i=>(i.zero,i.size,i.bytes))=some(some(.string ByteArray.empty),1,16):=by kernel_rfl
theorem Xyb:(Tryz.prog.info? 2).map(fun i=>(i.zero,i.size,i.bytes))=some(some(.int .i64 0),1,8):=by kernel_rfl
def Xvb(w:World)(rb:Nat):Bool:=match w.cell?⟨rb,2,none⟩with|some(.bool b)=>b|_=>false
def Ye(w:World)(rb n:Nat):Nat:=if Xvb w rb=true then 0 else n+1-placeOf w rb
theorem LfAt.meas{w:World}{rb base:Nat}{Z:Nat→Prop}{s:ByteArray}{p n:Nat}{bad:Bool}{fs:List FN}(h:LfAt w rb base Z s p bad fs):Ye w rb n=if bad=true then 0 else n+1-p:=by
 unfold Ye Xvb;rw[h.cells.2.2,h.placeOf]
theorem LfAt.grown{a b:World}{rb base b0 e0 s0 n0:Nat}{Z Z':Nat→Prop}{s:ByteArray}{p:Nat}{bad:Bool}{fs:List FN}{v:Value}{xs:List Value}(h:LfAt a rb base Z s p bad fs)(hv:a.ownsRow b0 e0 s0 v n0 xs)(he:51≠e0)(hb:base≤b0)(hZ:∀x,v.ownBlock=some x→Z x)(hg:a.grownBy b v.ownBlock)
  (hz:∀x,Z' x→Z x∨a.heap.size≤x)(hz2:∀x,Z' x→x<b.heap.size):LfAt b rb base Z' s p bad fs:=by
 obtain⟨u,h1,⟨C,N,I,hN,hS⟩,h3⟩:=h.blk
 have hne:∀x,v.ownBlock=some x→base≤x:=fun x hx=>Nat.le_trans hb(hv.lt x hx).1
 refine⟨⟨u,(hg.block rb h.lt(fun e=>by have:=hne rb e.symm;have:=h.rb_lt;omega)).trans h1,⟨C,N,I,hN.keep(fun x hx=>hg.block x(hN.row.lt x hx).2(fun e=> ?_))(fun x hx=>hg.block x(hN.sub hx).2(fun e=>hS x hx(hZ x e.symm))),fun x hx hzx=> ?_⟩,fun x hx hzx=> ?_⟩,h.le,h.rb_lt,Nat.le_trans h.sz hg.size,hz2⟩
 ·rcases J4 hN.row hv he with e2|e2
  ·rw[hx]at e2;cases e2
  ·exact e2(hx.trans e)
 ·rcases hz x hzx with h4|h4
  ·exact hS x hx h4
  ·have:=(hN.sub hx).2;omega
 ·rcases hz x hzx with h4|h4
  ·exact h3 x hx h4
  ·have:=(hN.row.lt x hx).2;omega
theorem LfAt.setX{w:World}{rb base xb o:Nat}{Z:Nat→Prop}{s:ByteArray}{p:Nat}{bad:Bool}{fs:List FN}{u:Value}(h:LfAt w rb base Z s p bad fs)(hx:Z xb)(hne:rb≠xb):LfAt(w.setCell⟨xb,o,none⟩u)rb base Z s p bad fs:=by
 obtain⟨v,h1,⟨C,N,I,hN,hS⟩,h3⟩:=h.blk
 refine⟨⟨v,(Below.heap_setCell _ _ _ _ hne).trans h1,⟨C,N,I,hN.keep(fun x hx'=>Below.heap_setCell _ _ _ _(fun e=> ?_))(fun x hx'=>Below.heap_setCell _ _ _ _(fun e=> ?_)),hS⟩,h3⟩,h.le,h.rb_lt,by simpa using h.sz,fun x hx=>by simpa using h.zb x hx⟩
 ·have e':x=xb:=e
  rw[e']at hx';exact h3 xb hx' hx
 ·have e':x=xb:=e
  rw[e']at hx';exact hS xb hx' hx
theorem LfSt.grown{a b:World}{rb base b0 e0 s0 n0 p0:Nat}{Z Z':Nat→Prop}{s:ByteArray}{r:CF}{v:Value}{xs:List Value}(h:LfSt r rb base Z s p0 a)(hv:a.ownsRow b0 e0 s0 v n0 xs)(he:51≠e0)(hb:base≤b0)(hZ:∀x,v.ownBlock=some x→Z x)(hg:a.grownBy b v.ownBlock)
  (hz:∀x,Z' x→Z x∨a.heap.size≤x)(hz2:∀x,Z' x→x<b.heap.size):LfSt r rb base Z' s p0 b:=by
 obtain⟨fs,p,h1,⟨h2,h3,h4⟩|⟨h2,h3,h4⟩⟩:=h
 ·exact⟨fs,p,h1, .inl⟨h2,h3.grown hv he hb hZ hg hz hz2,h4⟩⟩
 ·exact⟨fs,p,h1, .inr⟨h2,h3,h4.grown hv he hb hZ hg hz hz2⟩⟩
theorem LfSt.setX{w:World}{rb base xb o p0:Nat}{Z:Nat→Prop}{s:ByteArray}{r:CF}{u:Value}(h:LfSt r rb base Z s p0 w)(hx:Z xb)(hne:rb≠xb):LfSt r rb base Z s p0(w.setCell⟨xb,o,none⟩u):=by
 obtain⟨fs,p,h1,⟨h2,h3,h4⟩|⟨h2,h3,h4⟩⟩:=h
 ·exact⟨fs,p,h1, .inl⟨h2,h3.setX hx hne,h4⟩⟩
 ·exact⟨fs,p,h1, .inr⟨h2,h3,h4.setX hx hne⟩⟩
theorem ButF.setN{rb base xb o:Nat}{w a:World}{u:Value}(h:ButF rb base w a)(hx:w.heap.size≤xb):ButF rb base w(a.setCell⟨xb,o,none⟩u):=
 ⟨h.os,h.tape,h.output,by have:=h.size;simpa using this,fun c hc hn ht=>(Below.heap_setCell _ _ _ _(show c≠xb by omega)).trans(h.block c hc hn ht)⟩
theorem ButF.grownS{rb base:Nat}{w a b:World}{row:Option Nat}(h:ButF rb base w a)(hg:a.grownBy b row)(hr:∀x,row=some x→w.heap.size≤x):ButF rb base w b:=
 ⟨hg.os.trans h.os,hg.tape.trans h.tape,hg.output.trans h.output,Nat.le_trans h.size hg.size,fun x hx hn ht=>(hg.block x(Nat.lt_of_lt_of_le hx h.size)(fun e=>by have:=hr x e.symm;omega)).trans(h.block x hx hn ht)⟩
theorem LB.setN{rb base xb o:Nat}{Z:Nat→Prop}{w a:World}{u:Value}(h:LB rb base Z w a)(hx:w.heap.size≤xb):LB rb base Z w(a.setCell⟨xb,o,none⟩u):=
 ⟨h.bf.setN hx,fun c hz hc hn=>(Below.heap_setCell _ _ _ _(show c≠xb by omega)).trans(h.av c hz hc hn)⟩
theorem LB.grownN{rb base:Nat}{Z:Nat→Prop}{w a b:World}{row:Option Nat}(h:LB rb base Z w a)(hg:a.grownBy b row)(hr:∀x,row=some x→w.heap.size≤x):LB rb base Z w b:=
 ⟨h.bf.grownS hg hr,fun c hz hc hn=>(hg.block c(Nat.lt_of_lt_of_le hc h.size)(fun e=>by have:=hr c e.symm;omega)).trans(h.av c hz hc hn)⟩
theorem Xst{rb base p0:Nat}{s:ByteArray}{r:CF}{Z:Nat→Prop}{w:World}(c:UInt8)(hs:s.size≤4000)(h:LfSt r rb base Z s p0 w):
  Calls Tryz.prog 114 #[.pointer(some⟨rb,0,none⟩), .string⟨#[c]⟩]w fun e w'=>e= .returned(.tuple #[])∧LB rb base Z w w'∧∃d,d≤1∧LfSt(r.bind fun x=>if Xe s.data.toList x.2 c.toNat=true then some(x.1,skF s.data.toList(x.2+1))else none)rb base Z s(p0+d)w'∧(d=0→(r.bind fun x=>if Xe s.data.toList x.2 c.toNat=true then some(x.1,skF s.data.toList(x.2+1))else none)=none):=by
 obtain⟨fs,p,hp,⟨hr,ha,hl⟩|⟨hr,hl,ha⟩⟩:=h
 ·have hsk:=Xw s.data.toList p
  subst hr
  refine(Gi c ha hs).mono ?_
  rintro e w'⟨he,hb,⟨_,hy,h'⟩|⟨hn,h'⟩⟩
  ·refine⟨he,hb,1,by omega,LfSt.of ?_(LfSt.good h' hl(by omega)),by omega⟩
   show _=if Xe s.data.toList(skF s.data.toList p)c.toNat=true then _ else _
   rw[if_pos hy]
  ·have hno:(some(fs,skF s.data.toList p)).bind(fun x=>if Xe s.data.toList x.2 c.toNat=true then some(x.1,skF s.data.toList(x.2+1))else none)=none:=by
    show(if Xe s.data.toList(skF s.data.toList p)c.toNat=true then _ else _)=_
    rcases hn with hn|hn
    ·cases hn
    ·rw[if_neg(by rw[hn];simp)]
   exact⟨he,hb,0,by omega,LfSt.of hno.symm(LfSt.bad h'(by omega)(by omega)),fun _=>hno⟩
 ·have hsk:=Xw s.data.toList p
  subst hr
  refine(Gi c ha hs).mono ?_
  rintro e w'⟨he,hb,⟨hx,_,h'⟩|⟨hn,h'⟩⟩
  ·cases hx
  ·exact⟨he,hb,0,by omega,LfSt.bad h'(by omega)(by omega),fun _=>rfl⟩
theorem Xsu{R:RD}{L:List UInt8}{g:Nat}{names:List ByteArray}{kids:List Int}{fs:List FN}{q:Nat}{n:Int}{T:ByteArray}{r1 r2 r3:CF}(hT:T=txt((L.drop q).take(wdJ L q-q)))
  (h1:r1=some(fs,skF L(wdJ L q)))(h2:r2=r1.bind fun x=>if Xe L x.2 58=true then some(x.1,skF L(x.2+1))else none)(h3:r3=r2.bind fun x=>(R 3 x.1 x.2).map(·.2))(hn:∀fs q y,r2=some(fs,q)→R 3 fs q=some y→y.1=n):
  Zm WSp R L(g+1)names kids fs q=r3.bind fun x=>if Xe L x.2 125=true then Xu WSp(Vv(names++ [T])(kids++ [n]))x.1(skF L(x.2+1))else Yj L x.2 44 fun q=>Zm WSp R L g(names++ [T])(kids++ [n])x.1 q:=by
 rw[Zm,Xzz,←hT]
 subst h1
 by_cases e:Xe L(skF L(wdJ L q))58=true
 ·have h2':r2=some(fs,skF L(skF L(wdJ L q)+1)):=by rw[h2];show(if _ then _ else _)=_;rw[if_pos e]
  rw[Xi8 e]
  cases h4:R 3 fs(skF L(skF L(wdJ L q)+1))with
  | none =>
   have:r3=none:=by rw[h3,h2'];show(R 3 fs(skF L(skF L(wdJ L q)+1))).map(·.2)=_;rw[h4];rfl
   rw[this];rfl
  | some y =>
   obtain⟨n',f3,q3⟩:=y
   obtain rfl:n'=n:=hn _ _ _ h2' h4
   have:r3=some(f3,q3):=by rw[h3,h2'];show(R 3 fs(skF L(skF L(wdJ L q)+1))).map(·.2)=_;rw[h4];rfl
   rw[this,X2];rfl
 ·have h2':r2=none:=by rw[h2];show(if _ then _ else _)=_;rw[if_neg e]
  rw[Xi9 e]
  have:r3=none:=by rw[h3,h2'];rfl
  rw[this];rfl

theorem Xm3(v:Value)(w:World):(callFunc 119 #[v]).run Tryz.prog w= .ok(.enter 119 #[v])w:=by
 have h:=Tryz.func119
 go_simp
theorem Xky(v u:Value)(w:World):(callFunc 43 #[v,u]).run Tryz.prog w= .ok(.enter 43 #[v,u])w:=by
 have h:=Tryz.func43
 go_simp
theorem Xkz{P:Program}{w:World}{ops:Array Oper}{o:Oper}{a:Act}{K:Act→World→Prop}{Q:Exit→Act→World→Prop}{E:Prop}(hgd:o.guard=none)(F:FuncId)(x y:Operand)(T U:TypeId)
  (ho:o.op= .call{callee:= .value(.func F),args:= #[x,y],argTypes:= #[T,U]})(v u:Value)(hx:a.eval x=v)(hy:a.eval y=u)(hcf:∀w,(callFunc F #[v,u]).run P w= .ok(.enter F #[v,u])w){R:Ending→World→Prop}(hc:Calls P F #[v,u]w R)
  (h:∀e w',R e w'→∃u,e= .returned u∧K(a.put o.dst u)w'):
  if Region.wanted o(yielded ops a.tmps)=true then Oper.wp P o a w K Q else E:=by
 have hw:Region.wanted o(yielded ops a.tmps)=true:=by simp[Region.wanted,hgd]
 rw[if_pos hw]
 unfold Oper.wp execOp
 have e1:a.eval(.func F)= .func(.func F) #[] #[]:=rfl
 simp[ho,resolve,invoke,hx,hy,e1,Deferred.ofValue,hcf,Result.andThen,Oper.upon_enter]
 refine hc.mono fun e w' hr=> ?_
 obtain⟨u,rfl,hk⟩:=h e w' hr
 exact hk
def XB(w:World)(xb:Nat)(kv it:Value):Prop:=w.heap[xb]? =some(.cells #[.int .i64 9, .string⟨#[]⟩, .int .i64 0, .slice none 0 0,kv,it]51(0,0))
def ZR(Z:Nat→Prop)(xb:Nat)(kv it:Value)(x:Nat):Prop:=Z x∨x=xb∨kv.ownBlock=some x∨it.ownBlock=some x
theorem Xfa{w:World}{b e s n xb o:Nat}{v u:Value}{xs:List Value}(h:w.ownsRow b e s v n xs)(hx:xb<b):(w.setCell⟨xb,o,none⟩u).ownsRow b e s v n xs:=J0 h fun x hx'=>Below.heap_setCell _ _ _ _(show x≠xb by have:=(h.lt x hx').1;omega)
theorem XB.keep{rb base xb:Nat}{Z:Nat→Prop}{w w':World}{kv it:Value}(h:XB w xb kv it)(hb:LB rb base Z w w')(hz:Z xb)(hne:xb≠rb):XB w' xb kv it:=(hb.av xb hz(ltH h)hne).trans h
structure Bhd(lo et:Nat)(w1:World)(iv u:Value)(k xb:Nat)(xs:List Value):Prop where
 base:lo≤(w1.alloc(.cells #[u]et)).heap.size
 row:(w1.alloc(.cells #[u]et)).ownsRow lo et 1 iv k xs
 top:(w1.alloc(.cells #[u]et)).heap.size=w1.heap.size+1
 news:∀j x,[u][j]? =some x→(w1.alloc(.cells #[u]et)).cell?((⟨w1.heap.size,0,none⟩:Addr).add j)=some x
 lt:xb<(w1.alloc(.cells #[u]et)).heap.size
theorem Bhd.of{lo et:Nat}{w1:World}{iv u:Value}{k xb:Nat}{xs:List Value}(h:w1.ownsRow lo et 1 iv k xs)(hlo:lo≤w1.heap.size)(hx:xb<w1.heap.size):Bhd lo et w1 iv u k xb xs:=
 ⟨by simp;omega,h.alloc _,by simp,World.news_of_block(cs:= #[u])(t:=et)(fr:=(0,0))(heap_alloc_new w1 _),by simp;omega⟩
section
variable{R:RD}{f rb base:Nat}{s:ByteArray}(HR:Xgj R f rb base s)
include HR
set_option maxRecDepth 100000 in
theorem Xpx{p:Nat}{Z:Nat→Prop}{fs:List FN}{w:World}(h:LfAt w rb base Z s p false fs)(hZ:∀x,Z x→x<w.heap.size)(hs:s.size≤1000)(hl:fs.length≤40)(hf:s.size<p+f):
  Calls Tryz.prog 115 #[.pointer(some⟨rb,0,none⟩)]w(LfOr(Jf WSp R s.data.toList fs(skF s.data.toList p))rb base Z s p w):=by
 obtain⟨i1,hi1,hz1,hs1,hy1⟩:=info_parts Xyb
 obtain⟨j1,hj1,hzj,hsj,hyj⟩:=info_parts Xya
 have HLN:=Xa(Xm s)
 have HZ:Hid(∀x,Z x→x<w.heap.size):=hZ
 have HHR:=Xa HR
 have hrbb:=h.rb_lt
 have hbs:=h.sz
 have HF0:=Xa h
 obtain⟨q,hq⟩:∃q,skF s.data.toList p=q:=⟨_,rfl⟩
 have HPQ:=Xa hq
 have hpq:p≤q:=by rw[←hq];exact Xw _ _
 have HQQ:Hid(skF s.data.toList q=q):=by rw[Hid,←hq];exact Yh _ _
 rw[hq]
 obtain⟨xb,hxb⟩:∃xb,w.heap.size=xb:=⟨_,rfl⟩
 obtain⟨W1,hW1⟩:∃W1,w.alloc(.cells #[.int .i64 9, .string⟨#[]⟩, .int .i64 0, .slice none 0 0, .slice none 0 0, .slice none 0 0]51)=W1:=⟨_,rfl⟩
 have hb1:Below w.heap.size w W1:=by rw[←hW1];exact(Below.refl _ _).alloc(Nat.le_refl _)_
 have hz1':W1.heap.size=xb+1:=by rw[←hW1,←hxb];simp
 have HX1:Hid(XB W1 xb(.slice none 0 0)(.slice none 0 0)):=by rw[Hid,←hW1,←hxb];exact heap_alloc_new w _
 have hF1:LfAt W1 rb base(ZR Z xb(.slice none 0 0)(.slice none 0 0))s p false fs:=HF0.out.fresh hb1(fun x hx=>by rcases hx with hx|hx|hx|hx;exact .inl hx;exact .inr(by omega);cases hx;cases hx)(fun x hx=>by rcases hx with hx|hx|hx|hx;have:=HZ.out x hx;omega;omega;cases hx;cases hx)
 have HB1:Hid(LB rb base Z w W1):=LB.of_below hb1
 have hi:=Zu 125 hF1(by omega)
 rw[HPQ.out,show(125:UInt8).toNat=125 from rfl]at hi
 have HW1:=Xb hW1
 have HZ1:=Xb hz1'
 have hrx:rb<xb:=by omega
 have HXB:=Xb hxb
 have HZX:Hid(∀x,Z x→x<xb):=fun x hx=>by have:=HZ.out x hx;omega
 have hbx:base≤xb:=by omega
 clear h hZ HR hq hb1 hF1 hW1 hz1' hbs
 cases a125:Xe s.data.toList q 125
 rotate_left
 ·have HE:Hid(Jf WSp R s.data.toList fs q=Xu WSp(Qw 9)fs(skF s.data.toList(q+1))):=by rw[Hid];unfold Jf;rw[if_pos a125]
  rw[a125]at hi
  have HI:=Xa hi
  clear hi a125
  go_enter Tryz.func115,Tryz.ntmps115
  go_wp2_with fail
  rw[HW1.out]
  (try rw[HXB.out])
  refine HI.out.mono ?_
  rintro e w2⟨rfl,h,b⟩
  have h9:LfAt w2 rb base(ZR Z xb(.slice none 0 0)(.slice none 0 0))s(q+1)false fs:=h
  have h10:LfAt w2 rb base Z s(q+1)false fs:=h9.fresh(Below.refl _ _)(fun x hx=> .inl(.inl hx))(fun x hx=>by have:=HZX.out x hx;have:=b.size;have:=HZ1.out;omega)
  have hx2:=HX1.out.keep b(.inr(.inl rfl))(by omega)
  have x0:w2.cell?⟨xb,0,none⟩=some(.int .i64 9):=cellAt hx2 rfl
  have x1:w2.cell?⟨xb,1,none⟩=some(.string⟨#[]⟩):=cellAt hx2 rfl
  have x2:w2.cell?⟨xb,2,none⟩=some(.int .i64 0):=cellAt hx2 rfl
  have x3:w2.cell?⟨xb,3,none⟩=some(.slice none 0 0):=cellAt hx2 rfl
  have x4:w2.cell?⟨xb,4,none⟩=some(.slice none 0 0):=cellAt hx2 rfl
  have x5:w2.cell?⟨xb,5,none⟩=some(.slice none 0 0):=cellAt hx2 rfl
  have HB2:=Xa(HB1.out.trans(b.mono fun x hx=> .inl hx))
  have HA:=Xa(Qn h10(by omega)9 ByteArray.empty 0)
  clear h h9 h10 b hx2
  go_wp2_with fail
  refine HA.out.mono ?_
  rintro e w9⟨rfl,h9,b9⟩
  have HF9:=Xa h9
  have HB9:=Xa(HB2.out.trans b9)
  clear h9 b9
  go_wp2_with fail
  go_ret
  exact LfOr.of HE.out(LfOr.add HF9.out hl(by omega)HB9.out)
 have HE:Hid(Jf WSp R s.data.toList fs q=Zm WSp R s.data.toList(s.size+1) [] []fs q):=by rw[Hid];unfold Jf;rw[if_neg(by rw[a125];decide),HLN.out]
 rw[a125]at hi
 have HI:=Xa hi
 clear hi a125
 obtain⟨tg,htg⟩:∃tg,Jf WSp R s.data.toList fs q=tg:=⟨_,rfl⟩
 rw[htg]at HE⊢
 clear htg
 go_enter Tryz.func115,Tryz.ntmps115
 go_wp2_with fail
 rw[HW1.out]
 (try rw[HXB.out])
 refine HI.out.mono ?_
 rintro e w2⟨rfl,h,b⟩
 have h9:LfAt w2 rb base(ZR Z xb(.slice none 0 0)(.slice none 0 0))s q false fs:=h
 have HF2:=Xa h9
 have HX2:=Xa(HX1.out.keep b(.inr(.inl rfl))(by omega))
 have HB2:=Xa(HB1.out.trans(b.mono fun x hx=> .inl hx))
 clear h h9 b
 go_wp2_with fail
 go_loopw [](fun wr=>∃(g y:Nat)(b:Bool)(names:List ByteArray)(kids:List Int)(fs':List FN)(kv it:Value),names.length+g=s.size+1∧kids.length=names.length∧p≤y∧fs'.length+p≤42+y∧LfAt wr rb base(ZR Z xb kv it)s y b fs'∧LB rb base Z w wr∧XB wr xb kv it∧wr.ownsRow(xb+1)9 1 kv names.length(names.map .string)∧wr.ownsRow(xb+1)2 1 it kids.length(kids.map(.int .i64))∧Hid((b=true→tg=none)∧(b=false→fs'.length≤40∧names.length+p≤y∧tg=Zm WSp R s.data.toList g names kids fs'(skF s.data.toList y))))(fun wr=>Ye wr rb s.size)
 case atStart=>exact⟨s.size+1,q,false,[],[],fs,_,_,by simp,rfl,hpq,by omega,HF2.out,HB2.out,HX2.out,World.ownsRow_nil _ _ _ _,World.ownsRow_nil _ _ _ _,fun e=>(by cases e),fun _=>⟨hl,by simpa using hpq,by rw[HQQ.out];exact HE.out⟩⟩
 case round =>
  obtain⟨g,y,b,names,kids,fs',kv,it,hng,hkl,hpy,hfl,hfr,hbt,hxx,hrn,hrk,HEQ⟩:=hrel
  have hys:=hfr.le
  have HS:=Xb hfr
  have HBT:=Xb hbt
  have HXX:=Xb hxx
  have HRN:=Xb hrn
  have HRK:=Xb hrk
  have zr:xb≤wr.heap.size:=by have:=hbt.size;have:=HXB.out;omega
  have zx:xb<wr.heap.size:=ltH hxx
  obtain⟨c0,c1,c2⟩:=hfr.cells
  clear HF2 HX2 HB2 HE
  cases b
  rotate_left
  ·have h1:LfAt wr rb base Z s y true fs':=hfr.fresh(Below.refl _ _)(fun x hx=> .inl(.inl hx))(fun x hx=>by have:=HZX.out x hx;omega)
   have HS1:=Xb h1
   have HTN:=Xb(HEQ.out.1 rfl)
   clear hfr hbt hxx hrn hrk h1 HEQ
   go_wp2_with fail
   go_ret
   exact LfOr.no HTN.out HS1.out hfl hpy HBT.out
  obtain⟨hfl40,hny,hTG⟩:=HEQ.out.2 rfl
  have HTG:=Xb hTG
  obtain⟨g,rfl⟩:∃g',g=g'+1:=⟨g-1,by omega⟩
  obtain⟨ak,ck,ek⟩:=Ki hrn
  obtain⟨ai,ci,ei⟩:=Ki hrk
  obtain⟨k,hlen⟩:∃k,names.length=k:=⟨_,rfl⟩
  have HKL:Hid(kids.length=k):=by rw[Hid,hkl,hlen]
  rw[hkl,hlen]at ei
  rw[hlen]at ek hng hny hkl
  have HLEN:=Xb hlen
  subst ek ei
  obtain⟨q0,hq0⟩:∃q0,skF s.data.toList y=q0:=⟨_,rfl⟩
  rw[hq0]at HTG
  have HQ0:=Xb hq0
  have hbd:Below wr.heap.size wr wr.drew:=(Below.refl _ _).drew
  have hst0:LfSt(some(fs',q0))rb base(ZR Z xb(.slice ak k ck)(.slice ai k ci))s y wr.drew:=by rw[←hq0];exact LfSt.good(hfr.below hbd)hfl40(Nat.le_refl _)
  have HWD:=Xb(Xw0(by omega)hst0)
  have HXD:Hid(XB wr.drew xb(.slice ak k ck)(.slice ai k ci)):=(hbd.block xb zx).trans hxx
  have HRND:Hid(wr.drew.ownsRow(xb+1)9 1(.slice ak k ck)k(names.map Value.string)):=by rw[hlen]at hrn;exact J0 hrn fun x hx=>hbd.block x(hrn.lt x hx).2
  have HRKD:Hid(wr.drew.ownsRow(xb+1)2 1(.slice ai k ci)k(kids.map(Value.int .i64))):=by rw[HKL.out]at hrk;exact J0 hrk fun x hx=>hbd.block x(hrk.lt x hx).2
  have HBD:Hid(LB rb base Z w wr.drew):=hbt.trans(LB.of_below hbd)
  have zxd:xb<wr.drew.heap.size:=by simpa using zx
  have x4:wr.cell?⟨xb,4,none⟩=some(.slice ak k ck):=cellAt hxx rfl
  have y4:wr.frozen?⟨xb,4,none⟩=false:=Lib.frozen_of_heap hxx 4
  have hone:∀(T:ByteArray),∀u∈ [Value.string T],u.oneCell'=true:=fun T u hu=>by simp at hu;subst hu;rfl
  have hml:k+1≤maxLen:=by unfold maxLen;omega
  have hby:(k+1) *16≤140737488355328:=by omega
  have hnr:(Value.slice ak k ck).ownBlock≠some xb:=fun e=>by have:=(HRND.out.lt _ e).1;omega
  clear hfr hbt hxx hrn hrk hlen hkl hq0 hst0 hbd hTG HEQ
  go_wp2_with fail
  go_region_law
   (first
    |(refine Xae(by rfl)119 _ _(by rfl)(.pointer(some⟨rb,0,none⟩))(by rfl)(Xm3 _)HWD.out ?_;rintro e w1⟨T,rfl,hb1,hst1,hT1⟩;have hx1:=HXD.out.keep hb1(.inr(.inl rfl))(by omega);have zx1:=ltH hx1;have hS1:w1.cell?⟨xb,4,none⟩=some(.slice ak k ck):=cellAt hx1 rfl;have hf1:w1.frozen?⟨xb,4,none⟩=false:=Lib.frozen_of_heap hx1 4;have hbh:=Bhd.of(u:= .string T)(xb:=xb)(hb1.own HRND.out(by decide)(by omega))(by omega)zx1;refine⟨_,rfl, ?_⟩)
    |(refine step_append_lies _(by rfl)_ _ _(by rfl)(xb+1)9 j1(.string ByteArray.empty)1 16 Tryz.underlying48 hj1 hzj hsj hyj rfl(by omega)(.slice ak k ck)k(names.map .string)(by rfl)hbh.row⟨w1.heap.size,0,none⟩1 1 [.string T](by rfl)(by rfl)hbh.news(hone T)(by omega)hml hby hbh.base(w1.heap.size+1)hbh.top ?_;intro g5 cap5 w5 hown hgrow hat hlt5;have hx5:XB w5 xb(.slice ak k ck)(.slice ai k ci):=(hgrow.block xb hbh.lt(Ne.symm hnr)).trans((heap_alloc_old w1 _ zx1).trans hx1);have hS3:w5.cell?⟨xb,4,none⟩=some(.slice ak k ck):=cellAt hx5 rfl;have hf3:w5.frozen?⟨xb,4,none⟩=false:=Lib.frozen_of_heap hx5 4))
  all_goals
   -- the row of names has grown
   have hba:Below w1.heap.size w1(w1.alloc(.cells #[.string T]9)):=(Below.refl _ _).alloc(Nat.le_refl _)_
   have hza:(w1.alloc(.cells #[.string T]9)).heap.size=w1.heap.size+1:=by simp
   have hg5:=hgrow.size
   obtain⟨r1,hr1⟩:∃r1:CF,((some(fs',q0):CF).bind fun x=>some(x.1,skF s.data.toList(wdJ s.data.toList x.2)))=r1:=⟨_,rfl⟩
   rw[hr1]at hst1
   have HR1:Hid(r1=some(fs',skF s.data.toList(wdJ s.data.toList q0))):=by rw[Hid,←hr1];rfl
   have HTT:Hid(T=txt((s.data.toList.drop q0).take(wdJ s.data.toList q0-q0))):=hT1 _ _ rfl
   obtain⟨W6,hW6⟩:∃W6,w5.setCell⟨xb,4,none⟩(.slice(some⟨g5,0,none⟩)(k+1)cap5)=W6:=⟨_,rfl⟩
   have hz6:W6.heap.size=w5.heap.size:=by rw[←hW6];simp
   have HX6:Hid(XB W6 xb(.slice(some⟨g5,0,none⟩)(k+1)cap5)(.slice ai k ci)):=by rw[Hid,←hW6];exact setH hx5 _
   have HN6:Hid(W6.ownsRow(xb+1)9 1(.slice(some⟨g5,0,none⟩)(k+1)cap5)(names++ [T]).length((names++ [T]).map .string)):=by
    rw[Hid,←hW6,List.length_append,List.length_singleton,HLEN.out,List.map_append];exact Xfa hown(by omega)
   have hrk1:=hb1.own HRKD.out(by decide)(by omega)
   have HK6:Hid(W6.ownsRow(xb+1)2 1(.slice ai k ci)k(kids.map(Value.int .i64))):=by
    rw[Hid,←hW6]
    exact Xfa((hrk1.alloc _).kept hgrow(J4(hrk1.alloc _)hbh.row(by decide)))(by omega)
   have HST6:Hid(LfSt r1 rb base(ZR Z xb(.slice(some⟨g5,0,none⟩)(k+1)cap5)(.slice ai k ci))s y W6):=by
    rw[Hid,←hW6]
    refine LfSt.setX(LfSt.grown(hst1.below hba)hbh.row(by decide)(by omega)(fun x hx=> .inr(.inr(.inl hx)))hgrow(fun x hx=> ?_)(fun x hx=> ?_))(.inr(.inl rfl))(by omega)
    ·rcases hx with hx|hx|hx|hx
     ·exact .inl(.inl hx)
     ·exact .inl(.inr(.inl hx))
     ·have e:g5=x:=by simpa [Value.ownBlock]using hx
      rcases hat with h|h
      ·exact .inl(.inr(.inr(.inl(by rw[←e];exact h))))
      ·exact .inr(by rw[hza];omega)
     ·exact .inl(.inr(.inr(.inr hx)))
    ·rcases hx with hx|hx|hx|hx
     ·have:=HZX.out x hx;omega
     ·omega
     ·have e:g5=x:=by simpa [Value.ownBlock]using hx
      omega
     ·have:=(hrk1.lt x hx).2;omega
   have HB6:Hid(LB rb base Z w W6):=by
    rw[Hid,←hW6]
    exact(((HBD.out.trans(hb1.mono fun x hx=> .inl hx)).trans(LB.of_below hba)).grownN hgrow(fun x hx=>by have:=(HRND.out.lt x hx).1;have:=HXB.out;omega)).setN(by have:=HXB.out;omega)
   have HW6:=Xb hW6
   have zx6:xb<W6.heap.size:=by omega
   clear hb1 hst1 hT1 hx1 zx1 hS1 hf1 hbh hown hgrow hat hlt5 hx5 hS3 hf3 hba hza hg5 hr1 hW6 hz6 hrk1 x4 y4 c0 c1 c2 hone hml hby hnr
   have HWA:=Xb(Xst 58(by omega)HST6.out)
   go_wp2_with fail
   rw[HW6.out]
   refine HWA.out.mono ?_
   rintro e w7⟨rfl,b7,d,hd1,st7,hd0⟩
   obtain⟨r2,hr2⟩:∃r2:CF,(r1.bind fun x=>if Xe s.data.toList x.2(58:UInt8).toNat=true then some(x.1,skF s.data.toList(x.2+1))else none)=r2:=⟨_,rfl⟩
   rw[hr2]at st7 hd0
   have HR2:=Xb hr2
   have HD0:=Xb hd0
   have HX7:=Xb(HX6.out.keep b7(.inr(.inl rfl))(by omega))
   have HN7:=Xb(b7.own HN6.out(by decide)(by omega))
   have HK7:=Xb(b7.own HK6.out(by decide)(by omega))
   have HB7:=Xb(HB6.out.trans(b7.mono fun x hx=> .inl hx))
   have zx7:=ltH HX7.out
   have hbd7:Below w7.heap.size w7 w7.drew:=(Below.refl _ _).drew
   have st7d:=st7.below hbd7
   have HXD7:Hid(XB w7.drew xb(.slice(some⟨g5,0,none⟩)(k+1)cap5)(.slice ai k ci)):=(hbd7.block xb zx7).trans HX7.out
   have HND7:Hid(w7.drew.ownsRow(xb+1)9 1(.slice(some⟨g5,0,none⟩)(k+1)cap5)(names++ [T]).length((names++ [T]).map .string)):=J0 HN7.out fun x hx=>hbd7.block x(HN7.out.lt x hx).2
   have HKD7:Hid(w7.drew.ownsRow(xb+1)2 1(.slice ai k ci)k(kids.map(Value.int .i64))):=J0 HK7.out fun x hx=>hbd7.block x(HK7.out.lt x hx).2
   have HBD7:Hid(LB rb base Z w w7.drew):=HB7.out.trans(LB.of_below hbd7)
   have HLV:=Xb(Xcb HHR.out 3(by decide)(by decide)st7d.zb(by omega)st7d)
   have x5:w7.cell?⟨xb,5,none⟩=some(.slice ai k ci):=cellAt HX7.out rfl
   have y5:w7.frozen?⟨xb,5,none⟩=false:=Lib.frozen_of_heap HX7.out 5
   have zxd7:xb<w7.drew.heap.size:=by simpa using zx7
   have hone2:∀(n:Int),∀u∈ [Value.int .i64 n],u.oneCell'=true:=fun n u hu=>by simp at hu;subst hu;rfl
   have hml2:k+1≤maxLen:=by unfold maxLen;omega
   have hby2:(k+1) *8≤140737488355328:=by omega
   have hnr2:(Value.slice ai k ci).ownBlock≠some xb:=fun e=>by have:=(HKD7.out.lt _ e).1;omega
   clear b7 st7 hr2 hd0 hbd7 st7d
   go_wp2_with fail
   go_region_law
    (first
     |(refine Xkz(by rfl)43 _ _ _ _(by rfl)(.pointer(some⟨rb,0,none⟩))(.int .i64 3)(by rfl)(by rfl)(Xky _ _)HLV.out ?_;rintro e w8⟨n,rfl,hb8,hst8,hn8⟩;have hx8:=HXD7.out.keep hb8(.inr(.inl rfl))(by omega);have zx8:=ltH hx8;have hS8:w8.cell?⟨xb,5,none⟩=some(.slice ai k ci):=cellAt hx8 rfl;have hf8:w8.frozen?⟨xb,5,none⟩=false:=Lib.frozen_of_heap hx8 5;have hbh8:=Bhd.of(u:= .int .i64 n)(xb:=xb)(hb8.own HKD7.out(by decide)(by omega))(by omega)zx8;refine⟨_,rfl, ?_⟩)
     |(refine step_append_lies _(by rfl)_ _ _(by rfl)(xb+1)2 i1(.int .i64 0)1 8 Tryz.underlying49 hi1 hz1 hs1 hy1 rfl(by omega)(.slice ai k ci)k(kids.map(Value.int .i64))(by rfl)hbh8.row⟨w8.heap.size,0,none⟩1 1 [.int .i64 n](by rfl)(by rfl)hbh8.news(hone2 n)(by omega)hml2 hby2 hbh8.base(w8.heap.size+1)hbh8.top ?_;intro g9 cap9 w9 hown hgrow hat hlt9;have hx9:XB w9 xb(.slice(some⟨g5,0,none⟩)(k+1)cap5)(.slice ai k ci):=(hgrow.block xb hbh8.lt(Ne.symm hnr2)).trans((heap_alloc_old w8 _ zx8).trans hx8);have hS9:w9.cell?⟨xb,5,none⟩=some(.slice ai k ci):=cellAt hx9 rfl;have hf9:w9.frozen?⟨xb,5,none⟩=false:=Lib.frozen_of_heap hx9 5))
   all_goals
    have hba:Below w8.heap.size w8(w8.alloc(.cells #[.int .i64 n]2)):=(Below.refl _ _).alloc(Nat.le_refl _)_
    have hza:(w8.alloc(.cells #[.int .i64 n]2)).heap.size=w8.heap.size+1:=by simp
    have hg9:=hgrow.size
    obtain⟨r3,hr3⟩:∃r3:CF,(r2.bind fun x=>(R 3 x.1 x.2).map(·.2))=r3:=⟨_,rfl⟩
    rw[hr3]at hst8
    have HSTEP:Hid(tg=r3.bind fun x=>if Xe s.data.toList x.2 125=true then Xu WSp(Vv(names++ [T])(kids++ [n]))x.1(skF s.data.toList(x.2+1))else Yj s.data.toList x.2 44 fun q=>Zm WSp R s.data.toList g(names++ [T])(kids++ [n])x.1 q):=by
     rw[Hid,HTG.out]
     exact Xsu HTT.out HR1.out HR2.out.symm hr3.symm hn8
    have HD3:Hid(r3≠none→d=1):=fun hne=>by
     have:r2≠none:=fun e=>hne(by rw[←hr3,e];rfl)
     have:d≠0:=fun e=>this(HD0.out e)
     omega
    obtain⟨WA,hWA⟩:∃WA,w9.setCell⟨xb,5,none⟩(.slice(some⟨g9,0,none⟩)(k+1)cap9)=WA:=⟨_,rfl⟩
    have hzA:WA.heap.size=w9.heap.size:=by rw[←hWA];simp
    have HXA:Hid(XB WA xb(.slice(some⟨g5,0,none⟩)(k+1)cap5)(.slice(some⟨g9,0,none⟩)(k+1)cap9)):=by rw[Hid,←hWA];exact setH hx9 _
    have HKA:Hid(WA.ownsRow(xb+1)2 1(.slice(some⟨g9,0,none⟩)(k+1)cap9)(kids++ [n]).length((kids++ [n]).map(Value.int .i64))):=by
     rw[Hid,←hWA,List.length_append,List.length_singleton,HKL.out,List.map_append];exact Xfa hown(by omega)
    have hrn8:=hb8.own HND7.out(by decide)(by omega)
    have HNA:Hid(WA.ownsRow(xb+1)9 1(.slice(some⟨g5,0,none⟩)(k+1)cap5)(names++ [T]).length((names++ [T]).map .string)):=by
     rw[Hid,←hWA]
     exact Xfa((hrn8.alloc _).kept hgrow(J4(hrn8.alloc _)hbh8.row(by decide)))(by omega)
    have HSTA:Hid(LfSt r3 rb base(ZR Z xb(.slice(some⟨g5,0,none⟩)(k+1)cap5)(.slice(some⟨g9,0,none⟩)(k+1)cap9))s(y+d)WA):=by
     rw[Hid,←hWA]
     refine LfSt.setX(LfSt.grown(hst8.below hba)hbh8.row(by decide)(by omega)(fun x hx=> .inr(.inr(.inr hx)))hgrow(fun x hx=> ?_)(fun x hx=> ?_))(.inr(.inl rfl))(by omega)
     ·rcases hx with hx|hx|hx|hx
      ·exact .inl(.inl hx)
      ·exact .inl(.inr(.inl hx))
      ·exact .inl(.inr(.inr(.inl hx)))
      ·have e:g9=x:=by simpa [Value.ownBlock]using hx
       rcases hat with h|h
       ·exact .inl(.inr(.inr(.inr(by rw[←e];exact h))))
       ·exact .inr(by rw[hza];omega)
     ·rcases hx with hx|hx|hx|hx
      ·have:=HZX.out x hx;omega
      ·omega
      ·have:=(hrn8.lt x hx).2;omega
      ·have e:g9=x:=by simpa [Value.ownBlock]using hx
       omega
    have HBA:Hid(LB rb base Z w WA):=by
     rw[Hid,←hWA]
     exact(((HBD7.out.trans(hb8.mono fun x hx=> .inl hx)).trans(LB.of_below hba)).grownN hgrow(fun x hx=>by have:=(HKD7.out.lt x hx).1;have:=HXB.out;omega)).setN(by have:=HXB.out;omega)
    have HWA2:=Xb hWA
    have zxA:xb<WA.heap.size:=by omega
    clear hb8 hst8 hn8 hx8 zx8 hS8 hf8 hbh8 hown hgrow hat hlt9 hx9 hS9 hf9 hba hza hg9 hr3 hWA hzA hrn8 x5 y5 hone2 hml2 hby2 hnr2
    have HIS:=Xb(X0l 125(by omega)HSTA.out)
    go_wp2_with fail
    rw[HWA2.out]
    refine HIS.out.mono ?_
    rintro e w10⟨b10,⟨rfl,fs3,q3,hr,hi,st10⟩|⟨rfl,hno,st10⟩⟩
    ·have HY:Hid(tg=Xu WSp(Vv(names++ [T])(kids++ [n]))fs3(skF s.data.toList(q3+1))):=by
      rw[Hid,HSTEP.out,hr];show(if Xe s.data.toList q3 125=true then _ else _)=_;rw[if_pos(show Xe s.data.toList q3 125=true from hi)]
     have HX10:=Xb(HXA.out.keep b10(.inr(.inl rfl))(by omega))
     have HN10:=Xb(b10.own HNA.out(by decide)(by omega))
     have HK10:=Xb(b10.own HKA.out(by decide)(by omega))
     have HB10:=Xb(HBA.out.trans(b10.mono fun x hx=> .inl hx))
     obtain⟨bb,fs4,y4,ha4,hp4,hl4,hb4,hg4⟩:=st10.at
     have hbb:bb=false:=by
      cases bb
      ·rfl
      ·exact absurd(hb4 rfl)(by simp)
     subst hbb
     obtain⟨e4,hl40⟩:=hg4 rfl
     have e5:fs3=fs4∧skF s.data.toList(q3+1)=skF s.data.toList y4:=by simpa using e4
     have HY2:Hid(tg=Xu WSp(Vv(names++ [T])(kids++ [n]))fs4(skF s.data.toList y4)):=by rw[Hid,HY.out,e5.2,e5.1]
     have hx10:=HX10.out
     have x0:w10.cell?⟨xb,0,none⟩=some(.int .i64 9):=cellAt hx10 rfl
     have x1:w10.cell?⟨xb,1,none⟩=some(.string⟨#[]⟩):=cellAt hx10 rfl
     have x2:w10.cell?⟨xb,2,none⟩=some(.int .i64 0):=cellAt hx10 rfl
     have x3:w10.cell?⟨xb,3,none⟩=some(.slice none 0 0):=cellAt hx10 rfl
     have x4:w10.cell?⟨xb,4,none⟩=some(.slice(some⟨g5,0,none⟩)(k+1)cap5):=cellAt hx10 rfl
     have x5:w10.cell?⟨xb,5,none⟩=some(.slice(some⟨g9,0,none⟩)(k+1)cap9):=cellAt hx10 rfl
     have HA:=Xb(Xbg(Z':=Z)(x:=Vv(names++ [T])(kids++ [n]))(kc:= .slice none 0 0)(kn:= .slice(some⟨g5,0,none⟩)(k+1)cap5)(ki:= .slice(some⟨g9,0,none⟩)(k+1)cap9)ha4(U2 _ _)(Xaq HN10.out(by omega))(Xaq HK10.out(by omega))(fun x hx=>by
      rcases hx with hx|hx|hx
      ·cases hx
      ·exact .inr(.inr(.inl hx))
      ·exact .inr(.inr(.inr hx)))(fun x hx=>⟨.inl hx,fun e=>by
      have h0:=HZX.out x hx
      rcases e with e|e|e
      ·cases e
      ·have:=(HN10.out.lt x e).1;omega
      ·have:=(HK10.out.lt x e).1;omega⟩)(by omega))
     clear b10 st10 hr hi ha4 hl4 hb4 hg4 e4 e5 hx10
     go_wp2_with fail
     refine HA.out.mono ?_
     rintro e w11⟨rfl,h11,b11⟩
     have HF11:=Xa h11
     have HB11:=Xa(HB10.out.trans(b11.mono fun x hx=> .inl hx))
     clear h11 b11
     go_wp2_with fail
     go_ret
     exact LfOr.of HY2.out(LfOr.add HF11.out hl40(by omega)HB11.out)
    ·have HX10:=Xb(HXA.out.keep b10(.inr(.inl rfl))(by omega))
     have HN10:=Xb(b10.own HNA.out(by decide)(by omega))
     have HK10:=Xb(b10.own HKA.out(by decide)(by omega))
     have HB10:=Xb(HBA.out.trans(b10.mono fun x hx=> .inl hx))
     have HNO:=Xb hno
     have HWB:=Xb(Xbs 44(by omega)st10)
     clear b10 st10 hno
     go_wp2_with fail
     refine HWB.out.mono ?_
     rintro e w11⟨rfl,b11,st11⟩
     obtain⟨r4,hr4⟩:∃r4:CF,(r3.bind fun x=>if Xe s.data.toList x.2(44:UInt8).toNat=true then some(x.1,skF s.data.toList(x.2+1))else none)=r4:=⟨_,rfl⟩
     rw[hr4]at st11
     have HR4:Hid(tg=r4.bind fun x=>Zm WSp R s.data.toList g(names++ [T])(kids++ [n])x.1 x.2):=by
      rw[Hid,HSTEP.out,←hr4]
      cases e3:r3 with
      |none=>rfl
      | some x =>
       obtain⟨f3,q3⟩:=x
       show(if Xe s.data.toList q3 125=true then _ else Yj s.data.toList q3 44 fun q=>Zm WSp R s.data.toList g(names++ [T])(kids++ [n])f3 q)=Option.bind(if Xe s.data.toList q3 44=true then _ else _)_
       rw[if_neg(show¬Xe s.data.toList q3 125=true by rw[show Xe s.data.toList q3 125=false from HNO.out f3 q3 e3];decide)]
       by_cases e44:Xe s.data.toList q3 44=true
       ·rw[if_pos e44,Xi8 e44];rfl
       ·rw[if_neg e44,Xi9 e44];rfl
     have HD4:Hid(r4≠none→d=1):=fun hne=>HD3.out(fun e=>hne(by rw[←hr4,e];rfl))
     have HX11:=Xb(HX10.out.keep b11(.inr(.inl rfl))(by omega))
     have HN11:=Xb(b11.own HN10.out(by decide)(by omega))
     have HK11:=Xb(b11.own HK10.out(by decide)(by omega))
     have HB11:=Xb(HB10.out.trans(b11.mono fun x hx=> .inl hx))
     obtain⟨bb,fs5,y5,ha5,hp5,hl5,hb5,hg5⟩:=st11.at
     have HA5:=Xb ha5
     have HB5:=Xb hb5
     have HG5:=Xb hg5
     have hms:Ye w11 rb s.size<s.size+1-y:=by
      rw[ha5.meas]
      have:=ha5.le
      cases bb
      ·have h4:r4≠none:=by rw[(hg5 rfl).1];simp
       have:=HD4.out h4
       rw[if_neg(by decide)];omega
      ·rw[if_pos rfl];omega
     have HMS:=Xb hms
     clear b11 st11 hr4 ha5 hb5 hg5 hms
     go_wp2_with fail
     go_roundw
     case rel=>
      refine⟨g,y5,bb,names++ [T],kids++ [n],fs5,_,_, ?_, ?_,by omega,by omega,HA5.out,HB11.out,HX11.out, ?_, ?_, ?_⟩
      ·rw[List.length_append,List.length_singleton,HLEN.out];omega
      ·rw[List.length_append,List.length_append,List.length_singleton,List.length_singleton,HLEN.out,HKL.out]
      ·exact HN11.out
      ·exact HK11.out
      ·refine⟨fun e=>by rw[HR4.out,HB5.out e];rfl,fun e=> ?_⟩
       obtain⟨e4,hl4⟩:=HG5.out e
       have:=HD4.out(by rw[e4];simp)
       refine⟨hl4, ?_,by rw[HR4.out,e4];rfl⟩
       rw[List.length_append,List.length_singleton,HLEN.out];omega
     case measure=>
      rw[HS.out.meas,if_neg(by decide)]
      exact HMS.out
end

theorem Xtu{R:RD}{L:List UInt8}{fs:List FN}{p:Nat}{k:Int→List FN→Nat→RF}:(Xy(R 1 fs p)fun n fs q=>Yj L q 93 fun q=>k n fs q)=Xy(Zl R L 93 fs p)k:=by
 unfold Zl
 cases R 1 fs p with
 |none=>rfl
 | some y =>
  obtain⟨a,f1,q1⟩:=y
  rw[X2,X2]
  unfold Yj
  split<;>rfl
theorem Xtv{L:List UInt8}{q:Nat}(h1:Xe L q 45=false)(h2:K7 L q=false):Q6(Jb L q)=none:=by
 have hn:Yc L q=q:=by unfold Yc;rw[h1];rfl
 have hd:dgJ L q=q:=Q1(fun e=>by
  unfold K7 at h2
  rw[decide_eq_true e.1]at h2
  have:=e.2
  simp only[Bool.true_and]at h2
  unfold Zn at this
  unfold Zk at h2
  simp at this h2
  omega)
 have:Jb L q= []:=by unfold Jb;rw[hn,hd,Nat.sub_self];rfl
 rw[this];rfl
section
variable{R:RD}{f rb base:Nat}{s:ByteArray}(HR:Xgj R f rb base s)
include HR
set_option maxRecDepth 100000 in
theorem Xnp{p q:Nat}{Z:Nat→Prop}{fs:List FN}{w:World}(h:LfAt w rb base Z s p false fs)(hZ:∀x,Z x→x<w.heap.size)(hs:s.size≤1000)(hl:fs.length≤40)(hf:s.size≤p+f)(hq:skF s.data.toList p=q)(a46:Xe s.data.toList q 46=true):
  Calls Tryz.prog 78 #[.pointer(some⟨rb,0,none⟩)]w(LfOr(Xs WSp R s.data.toList fs q)rb base Z s p w):=by
 have HLN:=Xa(Xm s)
 have HF0:=Xa h
 have HB0:Hid(LB rb base Z w w):=LB.refl _ _ _ _
 have HZ:Hid(∀x,Z x→x<w.heap.size):=hZ
 have HHR:=Xa HR
 have hpq:p≤q:=by rw[←hq];exact Xw _ _
 have HQQ:Hid(skF s.data.toList q=q):=by rw[Hid,←hq];exact Yh _ _
 have HPQ:=Xa hq
 have HA46:=Xa a46
 have HE:Hid(Xs WSp R s.data.toList fs q=Ym WSp s.data.toList fs(q+1)):=by rw[Hid];unfold Xs;rw[if_pos a46]
 clear a46
 clear h hZ HR hq
 go_enter Tryz.func78,Tryz.ntmps78
 have hi0:=Zu 46 HF0.out(by omega)
 rw[HPQ.out,show(46:UInt8).toNat=46 from rfl,HA46.out]at hi0
 have HI0:=Xa hi0
 clear hi0
 go_wp2_with fail
 refine HI0.out.mono ?_
 rintro e w1⟨rfl,h,b⟩
 have h9:LfAt w1 rb base Z s(q+1)false fs:=h
 have HF1:=Xa h9
 have HB1:=Xa(HB0.out.trans b)
 clear h h9 b HI0
 have HZ1:Hid(∀x,Z x→x<w1.heap.size):=fun x hx=>Nat.lt_of_lt_of_le(HZ.out x hx)HB1.out.size
 have HD:=Xa(Xqy HF1.out(by omega)hl)
 go_wp2_with fail
 refine HD.out.mono ?_
 intro e w9 h9
 obtain⟨n9,rfl,b9,s9,hn9⟩:=h9.st
 have HO9:=Xa h9
 clear h9 b9 s9 hn9
 go_wp2_with fail
 go_ret
 exact LfOr.of HE.out(LfOr.after HB1.out(by omega)HO9.out)
set_option maxRecDepth 100000 in
theorem Xhz{p q:Nat}{Z:Nat→Prop}{fs:List FN}{w:World}(h:LfAt w rb base Z s p false fs)(hZ:∀x,Z x→x<w.heap.size)(hs:s.size≤1000)(hl:fs.length≤40)(hf:s.size≤p+f)(hq:skF s.data.toList p=q)(a46:Xe s.data.toList q 46=false)(a40:Xe s.data.toList q 40=true):
  Calls Tryz.prog 78 #[.pointer(some⟨rb,0,none⟩)]w(LfOr(Xs WSp R s.data.toList fs q)rb base Z s p w):=by
 have HLN:=Xa(Xm s)
 have HF0:=Xa h
 have HB0:Hid(LB rb base Z w w):=LB.refl _ _ _ _
 have HZ:Hid(∀x,Z x→x<w.heap.size):=hZ
 have HHR:=Xa HR
 have hpq:p≤q:=by rw[←hq];exact Xw _ _
 have HQQ:Hid(skF s.data.toList q=q):=by rw[Hid,←hq];exact Yh _ _
 have HPQ:=Xa hq
 have HA46:=Xa a46
 have HA40:=Xa a40
 have HE:Hid(Xs WSp R s.data.toList fs q=Zl R s.data.toList 41 fs(skF s.data.toList(q+1))):=by rw[Hid];unfold Xs;rw[if_neg(by rw[a46];decide),if_pos a40]
 clear a46 a40
 clear h hZ HR hq
 go_enter Tryz.func78,Tryz.ntmps78
 have hi0:=Zu 46 HF0.out(by omega)
 rw[HPQ.out,show(46:UInt8).toNat=46 from rfl,HA46.out]at hi0
 have HI0:=Xa hi0
 clear hi0
 go_wp2_with fail
 refine HI0.out.mono ?_
 rintro e w1⟨rfl,h,b⟩
 have h9:LfAt w1 rb base Z s q false fs:=h
 have HF1:=Xa h9
 have HB1:=Xa(HB0.out.trans b)
 clear h h9 b HI0
 have hi1:=Zu 40 HF1.out(by omega)
 rw[HQQ.out,show(40:UInt8).toNat=40 from rfl,HA40.out]at hi1
 have HI1:=Xa hi1
 clear hi1
 go_wp2_with fail
 refine HI1.out.mono ?_
 rintro e w2⟨rfl,h,b⟩
 have h9:LfAt w2 rb base Z s(q+1)false fs:=h
 have HF2:=Xa h9
 have HB2:=Xa(HB1.out.trans b)
 clear h h9 b HI1
 have HZ2:Hid(∀x,Z x→x<w2.heap.size):=fun x hx=>Nat.lt_of_lt_of_le(HZ.out x hx)HB2.out.size
 have HL:=Xa(HHR.out 1 Z fs(q+1)w2(by decide)(by decide)HZ2.out HF2.out hl(by omega))
 skip
 go_wp2_with fail
 refine HL.out.mono ?_
 intro e w11 h11
 obtain⟨a,rfl,b11,s11,hn⟩:=h11.st
 have HB11:=Xa(HB2.out.trans b11)
 have HZ11:Hid(∀x,Z x→x<w11.heap.size):=fun x hx=>Nat.lt_of_lt_of_le(HZ2.out x hx)b11.size
 have HNA:=Xa hn
 obtain⟨ca,hca⟩:∃ca:CF,(R 1 fs(skF s.data.toList(q+1))).map(·.2)=ca:=⟨_,rfl⟩
 rw[hca]at s11
 have HCA:=Xa hca
 have HW:=Xa(Xbs 41(by omega)s11)
 clear h11 b11 s11 hn hca
 go_wp2_with fail
 refine HW.out.mono ?_
 rintro e w12⟨rfl,b12,s12⟩
 have HB12:=Xa(HB11.out.trans b12)
 have HZ12:Hid(∀x,Z x→x<w12.heap.size):=fun x hx=>Nat.lt_of_lt_of_le(HZ11.out x hx)b12.size
 obtain⟨se,hse⟩:∃se:CF,(ca.bind fun x=>if Xe s.data.toList x.2(41:UInt8).toNat=true then some(x.1,skF s.data.toList(x.2+1))else none)=se:=⟨_,rfl⟩
 rw[hse]at s12
 have HSE:=Xa hse
 have HS12:=Xa s12
 clear b12 s12 hse
 go_wp2_with fail
 go_ret
 exact LfSt.or HS12.out(by omega)HB12.out(HE.out.trans(Xb9 HCA.out.symm HNA.out HSE.out.symm))
set_option maxRecDepth 100000 in
theorem Xk5{p q:Nat}{Z:Nat→Prop}{fs:List FN}{w:World}(h:LfAt w rb base Z s p false fs)(hZ:∀x,Z x→x<w.heap.size)(hs:s.size≤1000)(hl:fs.length≤40)(hf:s.size≤p+f)(hq:skF s.data.toList p=q)(a46:Xe s.data.toList q 46=false)(a40:Xe s.data.toList q 40=false)(a91:Xe s.data.toList q 91=true):
  Calls Tryz.prog 78 #[.pointer(some⟨rb,0,none⟩)]w(LfOr(Xs WSp R s.data.toList fs q)rb base Z s p w):=by
 have HLN:=Xa(Xm s)
 have HF0:=Xa h
 have HB0:Hid(LB rb base Z w w):=LB.refl _ _ _ _
 have HZ:Hid(∀x,Z x→x<w.heap.size):=hZ
 have HHR:=Xa HR
 have hpq:p≤q:=by rw[←hq];exact Xw _ _
 have HQQ:Hid(skF s.data.toList q=q):=by rw[Hid,←hq];exact Yh _ _
 have HPQ:=Xa hq
 have HA46:=Xa a46
 have HA40:=Xa a40
 have HA91:=Xa a91
 have HE:Hid(Xs WSp R s.data.toList fs q=Jo WSp R s.data.toList fs(skF s.data.toList(q+1))):=by rw[Hid];unfold Xs;rw[if_neg(by rw[a46];decide),if_neg(by rw[a40];decide),if_pos a91]
 obtain⟨q2,hq2⟩:∃q2,skF s.data.toList(q+1)=q2:=⟨_,rfl⟩
 have hq2l:q+1≤q2:=by rw[←hq2];exact Xw _ _
 have HQ2:Hid(skF s.data.toList q2=q2):=by rw[Hid,←hq2];exact Yh _ _
 rw[hq2]at HE
 have HPQ2:=Xa hq2
 clear hq2
 clear a46 a40 a91
 clear h hZ HR hq
 go_enter Tryz.func78,Tryz.ntmps78
 have hi0:=Zu 46 HF0.out(by omega)
 rw[HPQ.out,show(46:UInt8).toNat=46 from rfl,HA46.out]at hi0
 have HI0:=Xa hi0
 clear hi0
 go_wp2_with fail
 refine HI0.out.mono ?_
 rintro e w1⟨rfl,h,b⟩
 have h9:LfAt w1 rb base Z s q false fs:=h
 have HF1:=Xa h9
 have HB1:=Xa(HB0.out.trans b)
 clear h h9 b HI0
 have hi1:=Zu 40 HF1.out(by omega)
 rw[HQQ.out,show(40:UInt8).toNat=40 from rfl,HA40.out]at hi1
 have HI1:=Xa hi1
 clear hi1
 go_wp2_with fail
 refine HI1.out.mono ?_
 rintro e w2⟨rfl,h,b⟩
 have h9:LfAt w2 rb base Z s q false fs:=h
 have HF2:=Xa h9
 have HB2:=Xa(HB1.out.trans b)
 clear h h9 b HI1
 have hi2:=Zu 91 HF2.out(by omega)
 rw[HQQ.out,show(91:UInt8).toNat=91 from rfl,HA91.out]at hi2
 have HI2:=Xa hi2
 clear hi2
 go_wp2_with fail
 refine HI2.out.mono ?_
 rintro e w3⟨rfl,h,b⟩
 have h9:LfAt w3 rb base Z s(q+1)false fs:=h
 have HF3:=Xa h9
 have HB3:=Xa(HB2.out.trans b)
 clear h h9 b HI2
 have HZ3:Hid(∀x,Z x→x<w3.heap.size):=fun x hx=>Nat.lt_of_lt_of_le(HZ.out x hx)HB3.out.size
 have hi:=Zu 93 HF3.out(by omega)
 rw[HPQ2.out,show(93:UInt8).toNat=93 from rfl]at hi
 cases a93:Xe s.data.toList q2 93
 rotate_left
 ·have HL:Hid(Xs WSp R s.data.toList fs q=Xu WSp(Qw 8)fs(skF s.data.toList(q2+1))):=by rw[Hid,HE.out];unfold Jo;rw[if_pos a93]
  rw[a93]at hi
  have HI:=Xa hi
  clear hi a93
  go_wp2_with fail
  refine HI.out.mono ?_
  rintro e w4⟨rfl,h,b⟩
  have h9:LfAt w4 rb base Z s(q2+1)false fs:=h
  have HA:=Xa(Qn h9(by omega)8 ByteArray.empty 0)
  have HB4:=Xa(HB3.out.trans b)
  clear h h9 b
  go_wp2_with fail
  refine HA.out.mono ?_
  rintro e w9⟨rfl,h9,b9⟩
  have HF9:=Xa h9
  have HB9:=Xa(HB4.out.trans b9)
  clear h9 b9
  go_wp2_with fail
  go_ret
  exact LfOr.of HL.out(LfOr.add HF9.out hl(by omega)HB9.out)
 have HEL:Hid(Xs WSp R s.data.toList fs q=Xy(Zl R s.data.toList 93 fs q2)fun n fs q=>Xu WSp(Yw 8 [n])fs q):=by rw[Hid,HE.out];unfold Jo;rw[if_neg(by rw[a93];decide)];exact Xtu
 rw[a93]at hi
 have HI:=Xa hi
 clear hi a93
 go_wp2_with fail
 refine HI.out.mono ?_
 rintro e w4⟨rfl,h,b⟩
 have h9:LfAt w4 rb base Z s q2 false fs:=h
 have HF4:=Xa h9
 have HB4:=Xa(HB3.out.trans b)
 have HZ4:Hid(∀x,Z x→x<w4.heap.size):=fun x hx=>Nat.lt_of_lt_of_le(HZ3.out x hx)b.size
 clear h h9 b
 have HL:=Xa(HHR.out 1 Z fs q2 w4(by decide)(by decide)HZ4.out HF4.out hl(by omega))
 rw[HQ2.out]at HL
 go_wp2_with fail
 refine HL.out.mono ?_
 intro e w11 h11
 obtain⟨a,rfl,b11,s11,hn⟩:=h11.st
 have HB11:=Xa(HB4.out.trans b11)
 have HZ11:Hid(∀x,Z x→x<w11.heap.size):=fun x hx=>Nat.lt_of_lt_of_le(HZ4.out x hx)b11.size
 have HNA:=Xa hn
 obtain⟨ca,hca⟩:∃ca:CF,(R 1 fs q2).map(·.2)=ca:=⟨_,rfl⟩
 rw[hca]at s11
 have HCA:=Xa hca
 have HW:=Xa(Xbs 93(by omega)s11)
 clear h11 b11 s11 hn hca
 go_wp2_with fail
 refine HW.out.mono ?_
 rintro e w12⟨rfl,b12,s12⟩
 have HB12:=Xa(HB11.out.trans b12)
 have HZ12:Hid(∀x,Z x→x<w12.heap.size):=fun x hx=>Nat.lt_of_lt_of_le(HZ11.out x hx)b12.size
 obtain⟨se,hse⟩:∃se:CF,(ca.bind fun x=>if Xe s.data.toList x.2(93:UInt8).toNat=true then some(x.1,skF s.data.toList(x.2+1))else none)=se:=⟨_,rfl⟩
 rw[hse]at s12
 have HSE:=Xa hse
 have HS12:=Xa s12
 clear b12 s12 hse
 have HA:=Xa(Xgl(p0:=p)HS12.out(by omega)(by omega)HZ12.out 8 [a](by simp))
 go_wp2_with fail
 refine HA.out.mono ?_
 intro e w9 h9
 obtain⟨n9,rfl,b9,s9,hn9⟩:=h9.st
 have HO9:=Xa h9
 clear h9 b9 s9 hn9
 go_wp2_with fail
 go_ret
 refine LfOr.of ?_(LfOr.after HB12.out(Nat.le_refl _)HO9.out)
 rw[HEL.out,Xb9(c:=93)HCA.out.symm HNA.out HSE.out.symm]
 exact Xhf
set_option maxRecDepth 100000 in
theorem Xnq{p q:Nat}{Z:Nat→Prop}{fs:List FN}{w:World}(h:LfAt w rb base Z s p false fs)(hZ:∀x,Z x→x<w.heap.size)(hs:s.size≤1000)(hl:fs.length≤40)(hf:s.size≤p+f)(hq:skF s.data.toList p=q)(a46:Xe s.data.toList q 46=false)(a40:Xe s.data.toList q 40=false)(a91:Xe s.data.toList q 91=false)(a123:Xe s.data.toList q 123=true):
  Calls Tryz.prog 78 #[.pointer(some⟨rb,0,none⟩)]w(LfOr(Xs WSp R s.data.toList fs q)rb base Z s p w):=by
 have HLN:=Xa(Xm s)
 have HF0:=Xa h
 have HB0:Hid(LB rb base Z w w):=LB.refl _ _ _ _
 have HZ:Hid(∀x,Z x→x<w.heap.size):=hZ
 have HHR:=Xa HR
 have hpq:p≤q:=by rw[←hq];exact Xw _ _
 have HQQ:Hid(skF s.data.toList q=q):=by rw[Hid,←hq];exact Yh _ _
 have HPQ:=Xa hq
 have HA46:=Xa a46
 have HA40:=Xa a40
 have HA91:=Xa a91
 have HA123:=Xa a123
 have HE:Hid(Xs WSp R s.data.toList fs q=Jf WSp R s.data.toList fs(skF s.data.toList(q+1))):=by rw[Hid];unfold Xs;rw[if_neg(by rw[a46];decide),if_neg(by rw[a40];decide),if_neg(by rw[a91];decide),if_pos a123]
 clear a46 a40 a91 a123
 clear h hZ HR hq
 go_enter Tryz.func78,Tryz.ntmps78
 have hi0:=Zu 46 HF0.out(by omega)
 rw[HPQ.out,show(46:UInt8).toNat=46 from rfl,HA46.out]at hi0
 have HI0:=Xa hi0
 clear hi0
 go_wp2_with fail
 refine HI0.out.mono ?_
 rintro e w1⟨rfl,h,b⟩
 have h9:LfAt w1 rb base Z s q false fs:=h
 have HF1:=Xa h9
 have HB1:=Xa(HB0.out.trans b)
 clear h h9 b HI0
 have hi1:=Zu 40 HF1.out(by omega)
 rw[HQQ.out,show(40:UInt8).toNat=40 from rfl,HA40.out]at hi1
 have HI1:=Xa hi1
 clear hi1
 go_wp2_with fail
 refine HI1.out.mono ?_
 rintro e w2⟨rfl,h,b⟩
 have h9:LfAt w2 rb base Z s q false fs:=h
 have HF2:=Xa h9
 have HB2:=Xa(HB1.out.trans b)
 clear h h9 b HI1
 have hi2:=Zu 91 HF2.out(by omega)
 rw[HQQ.out,show(91:UInt8).toNat=91 from rfl,HA91.out]at hi2
 have HI2:=Xa hi2
 clear hi2
 go_wp2_with fail
 refine HI2.out.mono ?_
 rintro e w3⟨rfl,h,b⟩
 have h9:LfAt w3 rb base Z s q false fs:=h
 have HF3:=Xa h9
 have HB3:=Xa(HB2.out.trans b)
 clear h h9 b HI2
 have hi3:=Zu 123 HF3.out(by omega)
 rw[HQQ.out,show(123:UInt8).toNat=123 from rfl,HA123.out]at hi3
 have HI3:=Xa hi3
 clear hi3
 go_wp2_with fail
 refine HI3.out.mono ?_
 rintro e w4⟨rfl,h,b⟩
 have h9:LfAt w4 rb base Z s(q+1)false fs:=h
 have HF4:=Xa h9
 have HB4:=Xa(HB3.out.trans b)
 clear h h9 b HI3
 have HZ4:Hid(∀x,Z x→x<w4.heap.size):=fun x hx=>Nat.lt_of_lt_of_le(HZ.out x hx)HB4.out.size
 have HD:=Xa(Xpx HHR.out HF4.out HZ4.out(by omega)hl(by omega))
 go_wp2_with fail
 refine HD.out.mono ?_
 intro e w9 h9
 obtain⟨n9,rfl,b9,s9,hn9⟩:=h9.st
 have HO9:=Xa h9
 clear h9 b9 s9 hn9
 go_wp2_with fail
 go_ret
 exact LfOr.of HE.out(LfOr.after HB4.out(by omega)HO9.out)
set_option maxRecDepth 100000 in
theorem Xk6{p q:Nat}{Z:Nat→Prop}{fs:List FN}{w:World}(h:LfAt w rb base Z s p false fs)(hZ:∀x,Z x→x<w.heap.size)(hs:s.size≤1000)(hl:fs.length≤40)(hf:s.size≤p+f)(hq:skF s.data.toList p=q)(a46:Xe s.data.toList q 46=false)(a40:Xe s.data.toList q 40=false)(a91:Xe s.data.toList q 91=false)(a123:Xe s.data.toList q 123=false)(a34:Xe s.data.toList q 34=true):
  Calls Tryz.prog 78 #[.pointer(some⟨rb,0,none⟩)]w(LfOr(Xs WSp R s.data.toList fs q)rb base Z s p w):=by
 have HLN:=Xa(Xm s)
 have HF0:=Xa h
 have HB0:Hid(LB rb base Z w w):=LB.refl _ _ _ _
 have HZ:Hid(∀x,Z x→x<w.heap.size):=hZ
 have HHR:=Xa HR
 have hpq:p≤q:=by rw[←hq];exact Xw _ _
 have HQQ:Hid(skF s.data.toList q=q):=by rw[Hid,←hq];exact Yh _ _
 have HPQ:=Xa hq
 have HA46:=Xa a46
 have HA40:=Xa a40
 have HA91:=Xa a91
 have HA123:=Xa a123
 have HA34:=Xa a34
 have HE:Hid(Xs WSp R s.data.toList fs q=match txS s.data.toList(q+1)with
  |none=>none
  |some(t,q)=>Xu WSp(Zt⟨4,0,txt t,[],[]⟩)fs(skF s.data.toList q)):=by rw[Hid];unfold Xs;rw[if_neg(by rw[a46];decide),if_neg(by rw[a40];decide),if_neg(by rw[a91];decide),if_neg(by rw[a123];decide),if_pos a34];rfl
 clear a46 a40 a91 a123 a34
 clear h hZ HR hq
 go_enter Tryz.func78,Tryz.ntmps78
 have hi0:=Zu 46 HF0.out(by omega)
 rw[HPQ.out,show(46:UInt8).toNat=46 from rfl,HA46.out]at hi0
 have HI0:=Xa hi0
 clear hi0
 go_wp2_with fail
 refine HI0.out.mono ?_
 rintro e w1⟨rfl,h,b⟩
 have h9:LfAt w1 rb base Z s q false fs:=h
 have HF1:=Xa h9
 have HB1:=Xa(HB0.out.trans b)
 clear h h9 b HI0
 have hi1:=Zu 40 HF1.out(by omega)
 rw[HQQ.out,show(40:UInt8).toNat=40 from rfl,HA40.out]at hi1
 have HI1:=Xa hi1
 clear hi1
 go_wp2_with fail
 refine HI1.out.mono ?_
 rintro e w2⟨rfl,h,b⟩
 have h9:LfAt w2 rb base Z s q false fs:=h
 have HF2:=Xa h9
 have HB2:=Xa(HB1.out.trans b)
 clear h h9 b HI1
 have hi2:=Zu 91 HF2.out(by omega)
 rw[HQQ.out,show(91:UInt8).toNat=91 from rfl,HA91.out]at hi2
 have HI2:=Xa hi2
 clear hi2
 go_wp2_with fail
 refine HI2.out.mono ?_
 rintro e w3⟨rfl,h,b⟩
 have h9:LfAt w3 rb base Z s q false fs:=h
 have HF3:=Xa h9
 have HB3:=Xa(HB2.out.trans b)
 clear h h9 b HI2
 have hi3:=Zu 123 HF3.out(by omega)
 rw[HQQ.out,show(123:UInt8).toNat=123 from rfl,HA123.out]at hi3
 have HI3:=Xa hi3
 clear hi3
 go_wp2_with fail
 refine HI3.out.mono ?_
 rintro e w4⟨rfl,h,b⟩
 have h9:LfAt w4 rb base Z s q false fs:=h
 have HF4:=Xa h9
 have HB4:=Xa(HB3.out.trans b)
 clear h h9 b HI3
 have hi4:=Zu 34 HF4.out(by omega)
 rw[HQQ.out,show(34:UInt8).toNat=34 from rfl,HA34.out]at hi4
 have HI4:=Xa hi4
 clear hi4
 go_wp2_with fail
 refine HI4.out.mono ?_
 rintro e w5⟨rfl,h,b⟩
 have h9:LfAt w5 rb base Z s(q+1)false fs:=h
 have HF5:=Xa h9
 have HB5:=Xa(HB4.out.trans b)
 clear h h9 b HI4
 have HZ5:Hid(∀x,Z x→x<w5.heap.size):=fun x hx=>Nat.lt_of_lt_of_le(HZ.out x hx)HB5.out.size
 have f1:=HF5.out.free 1
 have f2:=HF5.out.free 2
 have lt5:=HF5.out.lt
 have le5:=HF5.out.le
 have e1:((q+1:Nat):Int)=(q:Int)+1:=by omega
 have hc5:=HF5.out.cells
 rw[e1]at hc5
 obtain⟨c0,c1,c2⟩:=hc5
 obtain⟨W6,hW6⟩:∃W6,(w5.alloc(.cells #[.string s, .int .i64((q:Int)+1), .bool false, .int .i64 0]149)).drew=W6:=⟨_,rfl⟩
 obtain⟨jb,hjb⟩:∃jb,w5.heap.size=jb:=⟨_,rfl⟩
 have hb6:Below w5.heap.size w5 W6:=by rw[←hW6];exact((Below.refl _ _).alloc(Nat.le_refl _)_).drew
 have HJ6:Hid(SjAt W6 jb s(q+1)false 0):=by
  rw[Hid,←hW6,←hjb]
  refine⟨?_,le5,by omega⟩
  rw[e1]
  exact heap_alloc_new w5 _
 have HBL6:=Xb hb6
 have HJB:=Xb hjb
 have HQU:=Xb(Xkx HJ6.out(by omega))
 have HW6:=Xb hW6
 have HTX:Hid(TxNo s.data.toList(q+1)→Xs WSp R s.data.toList fs q=none):=fun hno=>by
  rw[HE.out]
  have:txS s.data.toList(q+1)=none:=by
   unfold txS
   cases e:txJ s.data.toList(q+1)with
   |none=>rfl
   | some x =>
    obtain⟨l,z⟩:=x
    have:=hno l z e
    simp only
    rw[if_neg(by omega)]
  rw[this]
 clear hb6 hW6
 go_wp2_with fail
 go_region
 rw[HW6.out]
 (try rw[HJB.out])
 clear c0 c1 c2
 go_wp2_with fail
 refine HQU.out.mono ?_
 rintro e w7⟨b7,t,z,bb,rfl,ht60,hqz,hj7,hor⟩
 have hb57:Below w5.heap.size w5 w7:=by
  refine⟨b7.os.trans HBL6.out.os,b7.tape.trans HBL6.out.tape,b7.output.trans HBL6.out.output,Nat.le_trans HBL6.out.size b7.size,fun c hc=> ?_⟩
  exact(b7.block c(Nat.lt_of_lt_of_le hc HBL6.out.size)(by have:=HJB.out;omega)).trans(HBL6.out.block c hc)
 have HF7:=Xb(HF5.out.below hb57)
 have HB7:=Xb(HB5.out.trans(LB.of_below hb57))
 have HZ7:Hid(∀x,Z x→x<w7.heap.size):=fun x hx=>Nat.lt_of_lt_of_le(HZ5.out x hx)hb57.size
 have hzs:=hj7.le
 obtain⟨j0,j1,j2,j3⟩:=hj7.cells
 obtain⟨c0,c1,c2⟩:=HF7.out.cells
 have g1:=HF7.out.free 1
 have g2:=HF7.out.free 2
 have hjr:jb≠rb:=by have:=HJB.out;omega
 have HBX:Hid(Below w5.heap.size w5 w7):=hb57
 have n1:w7.cell?⟨jb,1,none⟩=some(.int .i64(z:Int)):=j1
 cases hbb:bb
 ·subst hbb
  have HY:Hid(Xs WSp R s.data.toList fs q=Xu WSp(Zt⟨4,0,t,[],[]⟩)fs(skF s.data.toList z)):=by
   rcases hor with⟨l,h1,h2,h3,_⟩|⟨h1,_⟩
   ·rw[Hid,HE.out]
    have:txS s.data.toList(q+1)=some(l,z):=by unfold txS;rw[h1];simp only;rw[if_pos h2]
    rw[this,h3]
   ·cases h1
  obtain⟨W8,hW8⟩:∃W8,(w7.setCell⟨rb,2,none⟩(.bool false)).setCell⟨rb,1,none⟩(.int .i64(z:Int))=W8:=⟨_,rfl⟩
  have HF8:Hid(LfAt W8 rb base Z s z false fs):=by rw[Hid,←hW8];exact(HF7.out.setB false).setP hzs
  have HB8:Hid(LB rb base Z w W8):=by rw[Hid,←hW8];exact(HB7.out.trans(LB.of_set _ _)).trans(LB.of_set _ _)
  have HZ8:Hid(∀x,Z x→x<W8.heap.size):=fun x hx=>by rw[←hW8];simpa using HZ7.out x hx
  have HW8:=Xb hW8
  clear hor hj7 b7 hb57 hW8 HQU
  go_wp2_with fail
  rw[HW8.out]
  refine(Xhs t W8).mono ?_
  rintro e w8⟨rfl,hn,b8⟩
  have HC:=Xa(Va HF8.out HZ8.out(by omega)b8 hn)
  clear hn b8
  go_wp2_with fail
  refine HC.out.mono ?_
  rintro e w9⟨rfl,h9,b9⟩
  have HF9:=Xa h9
  have HB9:=Xa(HB8.out.trans b9)
  clear h9 b9
  go_wp2_with fail
  go_ret
  exact LfOr.of HY.out(LfOr.add HF9.out hl(by omega)HB9.out)
 ·subst hbb
  have HY:Hid(Xs WSp R s.data.toList fs q=none):=by
   rcases hor with⟨_,_,_,_,h1⟩|⟨_,h1⟩
   ·cases h1
   ·exact HTX.out h1
  obtain⟨W8,hW8⟩:∃W8,(w7.setCell⟨rb,2,none⟩(.bool true)).setCell⟨rb,1,none⟩(.int .i64(z:Int))=W8:=⟨_,rfl⟩
  have HF8:Hid(LfAt W8 rb base Z s z true fs):=by rw[Hid,←hW8];exact(HF7.out.setB true).setP hzs
  have HB8:Hid(LB rb base Z w W8):=by rw[Hid,←hW8];exact(HB7.out.trans(LB.of_set _ _)).trans(LB.of_set _ _)
  have HZ8:Hid(∀x,Z x→x<W8.heap.size):=fun x hx=>by rw[←hW8];simpa using HZ7.out x hx
  have HW8:=Xb hW8
  clear hor hj7 b7 hb57 hW8 HQU
  go_wp2_with fail
  rw[HW8.out]
  refine(Xhs t W8).mono ?_
  rintro e w8⟨rfl,hn,b8⟩
  have HC:=Xa(Va HF8.out HZ8.out(by omega)b8 hn)
  clear hn b8
  go_wp2_with fail
  refine HC.out.mono ?_
  rintro e w9⟨rfl,h9,b9⟩
  have HF9:=Xa h9
  have HB9:=Xa(HB8.out.trans b9)
  clear h9 b9
  go_wp2_with fail
  go_ret
  exact LfOr.addB HY.out HF9.out(by omega)(by omega)HB9.out
set_option maxRecDepth 100000 in
theorem Xk7{p q:Nat}{Z:Nat→Prop}{fs:List FN}{w:World}(h:LfAt w rb base Z s p false fs)(hZ:∀x,Z x→x<w.heap.size)(hs:s.size≤1000)(hl:fs.length≤40)(hf:s.size≤p+f)(hq:skF s.data.toList p=q)(a46:Xe s.data.toList q 46=false)(a40:Xe s.data.toList q 40=false)(a91:Xe s.data.toList q 91=false)(a123:Xe s.data.toList q 123=false)(a34:Xe s.data.toList q 34=false):
  Calls Tryz.prog 78 #[.pointer(some⟨rb,0,none⟩)]w(LfOr(Xs WSp R s.data.toList fs q)rb base Z s p w):=by
 have HLN:=Xa(Xm s)
 have HF0:=Xa h
 have HB0:Hid(LB rb base Z w w):=LB.refl _ _ _ _
 have HZ:Hid(∀x,Z x→x<w.heap.size):=hZ
 have HHR:=Xa HR
 have hpq:p≤q:=by rw[←hq];exact Xw _ _
 have HQQ:Hid(skF s.data.toList q=q):=by rw[Hid,←hq];exact Yh _ _
 have HPQ:=Xa hq
 have HA46:=Xa a46
 have HA40:=Xa a40
 have HA91:=Xa a91
 have HA123:=Xa a123
 have HA34:=Xa a34
 have HW:Hid(Xs WSp R s.data.toList fs q=if Yu s.data.toList q=true then X4 WSp R s.data.toList(X9 s.data.toList q)fs(skF s.data.toList(nmJ s.data.toList q))else if Xe s.data.toList q 45=true∨K7 s.data.toList q=true then Qx WSp s.data.toList q fun n q=>Xu WSp(Zt⟨3,n,ByteArray.empty,[],[]⟩)fs q else none):=by rw[Hid];unfold Xs;rw[if_neg(by rw[a46];decide),if_neg(by rw[a40];decide),if_neg(by rw[a91];decide),if_neg(by rw[a123];decide),if_neg(by rw[a34];decide)]
 clear a46 a40 a91 a123 a34
 clear h hZ HR hq
 go_enter Tryz.func78,Tryz.ntmps78
 have hi0:=Zu 46 HF0.out(by omega)
 rw[HPQ.out,show(46:UInt8).toNat=46 from rfl,HA46.out]at hi0
 have HI0:=Xa hi0
 clear hi0
 go_wp2_with fail
 refine HI0.out.mono ?_
 rintro e w1⟨rfl,h,b⟩
 have h9:LfAt w1 rb base Z s q false fs:=h
 have HF1:=Xa h9
 have HB1:=Xa(HB0.out.trans b)
 clear h h9 b HI0
 have hi1:=Zu 40 HF1.out(by omega)
 rw[HQQ.out,show(40:UInt8).toNat=40 from rfl,HA40.out]at hi1
 have HI1:=Xa hi1
 clear hi1
 go_wp2_with fail
 refine HI1.out.mono ?_
 rintro e w2⟨rfl,h,b⟩
 have h9:LfAt w2 rb base Z s q false fs:=h
 have HF2:=Xa h9
 have HB2:=Xa(HB1.out.trans b)
 clear h h9 b HI1
 have hi2:=Zu 91 HF2.out(by omega)
 rw[HQQ.out,show(91:UInt8).toNat=91 from rfl,HA91.out]at hi2
 have HI2:=Xa hi2
 clear hi2
 go_wp2_with fail
 refine HI2.out.mono ?_
 rintro e w3⟨rfl,h,b⟩
 have h9:LfAt w3 rb base Z s q false fs:=h
 have HF3:=Xa h9
 have HB3:=Xa(HB2.out.trans b)
 clear h h9 b HI2
 have hi3:=Zu 123 HF3.out(by omega)
 rw[HQQ.out,show(123:UInt8).toNat=123 from rfl,HA123.out]at hi3
 have HI3:=Xa hi3
 clear hi3
 go_wp2_with fail
 refine HI3.out.mono ?_
 rintro e w4⟨rfl,h,b⟩
 have h9:LfAt w4 rb base Z s q false fs:=h
 have HF4:=Xa h9
 have HB4:=Xa(HB3.out.trans b)
 clear h h9 b HI3
 have hi4:=Zu 34 HF4.out(by omega)
 rw[HQQ.out,show(34:UInt8).toNat=34 from rfl,HA34.out]at hi4
 have HI4:=Xa hi4
 clear hi4
 go_wp2_with fail
 refine HI4.out.mono ?_
 rintro e w5⟨rfl,h,b⟩
 have h9:LfAt w5 rb base Z s q false fs:=h
 have HF5:=Xa h9
 have HB5:=Xa(HB4.out.trans b)
 clear h h9 b HI4
 have HZ5:Hid(∀x,Z x→x<w5.heap.size):=fun x hx=>Nat.lt_of_lt_of_le(HZ.out x hx)HB5.out.size
 have HWD:=Xa(Uv HF5.out(by omega))
 rw[if_neg(by decide),if_neg(by decide),HQQ.out]at HWD
 obtain⟨T,hT⟩:∃T,txt((s.data.toList.drop q).take(wdJ s.data.toList q-q))=T:=⟨_,rfl⟩
 obtain⟨M,hM⟩:∃M,wdJ s.data.toList q=M:=⟨_,rfl⟩
 rw[hT,hM]at HWD
 have HT:=Xa hT
 have HM:=Xa hM
 clear hT hM
 cases hle:Yu s.data.toList q
 ·have HMQ:Hid(M=q):=by rw[Hid,←HM.out];unfold wdJ;rw[if_neg(by rw[hle];decide)]
  have HTE:Hid(T=ByteArray.empty):=by rw[Hid,←HT.out,HM.out,HMQ.out,Nat.sub_self];rfl
  have HTL0:Hid(T.toList= []):=by rw[Hid,ByteArray.toList_eq,HTE.out];rfl
  have q1:(T.toList== [])=true:=by rw[HTL0.out];rfl
  have q2:(T.toList != [])=false:=by rw[HTL0.out];rfl
  have HWN:Hid(Xs WSp R s.data.toList fs q=if Xe s.data.toList q 45=true∨K7 s.data.toList q=true then Qx WSp s.data.toList q fun n q=>Xu WSp(Zt⟨3,n,ByteArray.empty,[],[]⟩)fs q else none):=by rw[Hid,HW.out,if_neg(by rw[hle];decide)]
  have HNN:Hid(¬(Xe s.data.toList q 45=true∨K7 s.data.toList q=true)→Q6(Jb s.data.toList q)=none):=fun h=>by
   refine Xtv ?_ ?_
   ·rw[←Bool.not_eq_true];exact fun e=>h(.inl e)
   ·rw[←Bool.not_eq_true];exact fun e=>h(.inr e)
  clear hle
  go_wp2_with fail
  refine HWD.out.mono ?_
  rintro e w6⟨b,rfl,h6⟩
  have h7:LfAt w6 rb base Z s q false fs:=by rw[←HMQ.out];exact h6
  have HB6:=Xa(HB5.out.trans b)
  have HZ6:Hid(∀x,Z x→x<w6.heap.size):=fun x hx=>Nat.lt_of_lt_of_le(HZ5.out x hx)b.size
  have HN:=Xa(Xhj h7(by omega))
  rw[HQQ.out]at HN
  clear b h6 h7
  go_wp2_with fail
  refine HN.out.mono ?_
  rintro e w7⟨b,n,rfl,⟨hd,h7⟩|⟨hd,rfl,h7⟩⟩
  ·obtain⟨D,hD⟩:∃D,dgJ s.data.toList(Yc s.data.toList q)=D:=⟨_,rfl⟩
   have hqD:q≤D:=by rw[←hD];exact Nat.le_trans(Wb _ _)(Zh _ _ _)
   rw[hD]at h7
   have HE:Hid(Xs WSp R s.data.toList fs q=Xu WSp(Zt⟨3,n,ByteArray.empty,[],[]⟩)fs(skF s.data.toList D)):=by
    rw[Hid,HWN.out]
    by_cases e:Xe s.data.toList q 45=true∨K7 s.data.toList q=true
    ·rw[if_pos e];unfold Qx;rw[show WSp.dec=Q6 from rfl,hd,hD]
    ·rw[HNN.out e]at hd;cases hd
   have HF7:=Xa h7
   have HB7:=Xa(HB6.out.trans b)
   have HZ7:Hid(∀x,Z x→x<w7.heap.size):=fun x hx=>Nat.lt_of_lt_of_le(HZ6.out x hx)b.size
   clear b h7 hd hD
   go_wp2_with fail
   refine(Xd9 n w7).mono ?_
   rintro e w8⟨rfl,hn,b8⟩
   have HC:=Xa(Va HF7.out HZ7.out(by omega)b8 hn)
   clear hn b8
   go_wp2_with fail
   refine HC.out.mono ?_
   rintro e w9⟨rfl,h9,b9⟩
   have HF9:=Xa h9
   have HB9:=Xa(HB7.out.trans b9)
   clear h9 b9
   go_wp2_with fail
   go_ret
   exact LfOr.of HE.out(LfOr.add HF9.out hl(by omega)HB9.out)
  ·have HE:Hid(Xs WSp R s.data.toList fs q=none):=by
    rw[Hid,HWN.out]
    by_cases e:Xe s.data.toList q 45=true∨K7 s.data.toList q=true
    ·rw[if_pos e];unfold Qx;rw[show WSp.dec=Q6 from rfl,hd]
    ·rw[if_neg e]
   have HF7:=Xa h7
   have HB7:=Xa(HB6.out.trans b)
   have HZ7:Hid(∀x,Z x→x<w7.heap.size):=fun x hx=>Nat.lt_of_lt_of_le(HZ6.out x hx)b.size
   clear b h7 hd
   go_wp2_with fail
   refine(Xd9 0 w7).mono ?_
   rintro e w8⟨rfl,hn,b8⟩
   have HC:=Xa(Va HF7.out HZ7.out(by omega)b8 hn)
   clear hn b8
   go_wp2_with fail
   refine HC.out.mono ?_
   rintro e w9⟨rfl,h9,b9⟩
   have HF9:=Xa h9
   have HB9:=Xa(HB7.out.trans b9)
   clear h9 b9
   go_wp2_with fail
   go_ret
   exact LfOr.addB HE.out HF9.out(by omega)(by omega)HB9.out
 ·have HMQ:Hid(M=nmJ s.data.toList q):=by rw[Hid,←HM.out];unfold wdJ;rw[if_pos hle]
  have hqM:q<M:=by rw[HMQ.out];exact(Xdf hle).1
  have HTL:Hid(T.data.toList=X9 s.data.toList q):=by rw[Hid,←HT.out,Xz,HM.out,HMQ.out];rfl
  have HTN:Hid(T.toList≠ []):=by
   rw[Hid,ByteArray.toList_eq,HTL.out]
   unfold X9
   intro e
   have:=congrArg List.length e
   rw[List.length_take,List.length_drop,←HMQ.out]at this
   have h2:=(Xdf hle).2
   have h0:min(M-q)(s.data.toList.length-q)=0:=this
   omega
  have q1:(T.toList== [])=false:=beq_false_of_ne HTN.out
  have q2:(T.toList != [])=true:=by rw[bne,q1];rfl
  have HE:Hid(Xs WSp R s.data.toList fs q=X4 WSp R s.data.toList T.data.toList fs(skF s.data.toList M)):=by rw[Hid,HW.out,if_pos hle,HTL.out,HMQ.out]
  clear hle
  go_wp2_with fail
  refine HWD.out.mono ?_
  rintro e w6⟨b,rfl,h6⟩
  have HF6:=Xa h6
  have HB6:=Xa(HB5.out.trans b)
  have HZ6:Hid(∀x,Z x→x<w6.heap.size):=fun x hx=>Nat.lt_of_lt_of_le(HZ5.out x hx)b.size
  have HN:=Xa(Xk4 HHR.out(T:=T)HF6.out HZ6.out hs hl(by omega)(by omega))
  clear b h6
  go_wp2_with fail
  refine HN.out.mono ?_
  intro e w9 h9
  obtain⟨n9,rfl,b9,s9,hn9⟩:=h9.st
  have HO9:=Xa h9
  clear h9 b9 s9 hn9
  go_wp2_with fail
  go_ret
  exact LfOr.of HE.out(LfOr.after HB6.out(by omega)HO9.out)
theorem Xh0{p:Nat}{Z:Nat→Prop}{fs:List FN}{w:World}(h:LfAt w rb base Z s p false fs)(hZ:∀x,Z x→x<w.heap.size)(hs:s.size≤1000)(hl:fs.length≤40)(hf:s.size≤p+f):
  Calls Tryz.prog 78 #[.pointer(some⟨rb,0,none⟩)]w(LfOr(Xs WSp R s.data.toList fs(skF s.data.toList p))rb base Z s p w):=by
 cases a46:Xe s.data.toList(skF s.data.toList p)46
 rotate_left
 ·exact Xnp HR h hZ hs hl hf rfl a46
 cases a40:Xe s.data.toList(skF s.data.toList p)40
 rotate_left
 ·exact Xhz HR h hZ hs hl hf rfl a46 a40
 cases a91:Xe s.data.toList(skF s.data.toList p)91
 rotate_left
 ·exact Xk5 HR h hZ hs hl hf rfl a46 a40 a91
 cases a123:Xe s.data.toList(skF s.data.toList p)123
 rotate_left
 ·exact Xnq HR h hZ hs hl hf rfl a46 a40 a91 a123
 cases a34:Xe s.data.toList(skF s.data.toList p)34
 rotate_left
 ·exact Xk6 HR h hZ hs hl hf rfl a46 a40 a91 a123 a34
 exact Xk7 HR h hZ hs hl hf rfl a46 a40 a91 a123 a34
end

set_option maxRecDepth 100000 in
theorem Xp9{rb base p q:Nat}{Z:Nat→Prop}{s:ByteArray}{fs:List FN}{w:World}(h:LfAt w rb base Z s p true fs)(hs:s.size≤4000)(hq:skF s.data.toList p=q):
  Calls Tryz.prog 81 #[.pointer(some⟨rb,0,none⟩), .int .i64 1]w fun e w'=>e= .returned(.int .i64 0)∧LB rb base Z w w'∧LfAt w' rb base Z s q true fs:=by
 have HBK:=Xa(Yy h hs)
 have HLN:=Xa(Xm s)
 have HQQ:Hid(skF s.data.toList q=q):=by rw[Hid,←hq];exact Yh _ _
 have hql:q≤s.size:=by rw[←hq,←HLN.out];exact X1(by rw[HLN.out];exact h.le)
 rw[hq]at HBK
 clear h hq
 by_cases hlt:q+1<s.size
 focus
  have hlt0:(q:Int)<(s.size:Int):=by omega
  have hlt1:(q:Int)+1<(s.size:Int):=by omega
  have hd1:decide((q:Int)+1<(s.size:Int))=true:=by simpa using hlt1
  have HBA:=Xa(byS(show q<s.size by omega))
  have HBB:=Xa(byS hlt)
  obtain⟨c,hc⟩:∃c,s[q].toNat=c:=⟨_,rfl⟩
  obtain⟨d,hd⟩:∃d,s[q+1].toNat=d:=⟨_,rfl⟩
  have HC:Hid(Xh s.data.toList q=c):=by rw[Hid,←HBA.out];exact hc
  have HD:Hid(Xh s.data.toList(q+1)=d):=by rw[Hid,←HBB.out];exact hd
  have et:((q:Int)+1).toNat=q+1:=by omega
  by_cases e1:c=47
  focus
   have n1:((c:Int)==47)=true:=by rw[e1];rfl
   have n1':(c:Int)=47:=by omega
   by_cases e2:d=47
   focus
    have n2:((d:Int)==47)=true:=by rw[e2];rfl
    have n2':(d:Int)=47:=by omega
    have HTW:Hid((Xe s.data.toList q 47&&Xe s.data.toList(q+1)47)=true):=by
     rw[Hid,Bool.and_eq_true];exact⟨Xl.2⟨by rw[HLN.out];omega,by rw[HC.out,e1]⟩,Xl.2⟨by rw[HLN.out];omega,by rw[HD.out,e2]⟩⟩
    go_enter Tryz.func81,Tryz.ntmps81
    go_wp2_with fail
    refine HBK.out.mono ?_
    rintro e w1⟨rfl,h,b⟩
    have HF1:=Xa h
    have HB1:=Xa b
    obtain⟨c0,c1,c2⟩:=h.cells
    clear h b
    go_wp2_with fail
    go_quiet(fail)
   rotate_left
   focus
    have n2:((d:Int)==47)=false:=by simp;omega
    have n2':¬(d:Int)=47:=by omega
    have HTW:Hid((Xe s.data.toList q 47&&Xe s.data.toList(q+1)47)=false):=by
     rw[Hid,Bool.and_eq_false_iff];right;rw[X7];rintro⟨_,e⟩;rw[HD.out]at e;exact e2 e
    go_enter Tryz.func81,Tryz.ntmps81
    go_wp2_with fail
    refine HBK.out.mono ?_
    rintro e w1⟨rfl,h,b⟩
    have HF1:=Xa h
    have HB1:=Xa b
    obtain⟨c0,c1,c2⟩:=h.cells
    clear h b
    go_wp2_with fail
    go_quiet(fail)
  rotate_left 2
  focus
   have n1:((c:Int)==47)=false:=by simp;omega
   have n1':¬(c:Int)=47:=by omega
   have HTW:Hid((Xe s.data.toList q 47&&Xe s.data.toList(q+1)47)=false):=by
    rw[Hid,Bool.and_eq_false_iff];left;rw[X7];rintro⟨_,e⟩;rw[HC.out]at e;exact e1 e
   go_enter Tryz.func81,Tryz.ntmps81
   go_wp2_with fail
   refine HBK.out.mono ?_
   rintro e w1⟨rfl,h,b⟩
   have HF1:=Xa h
   have HB1:=Xa b
   obtain⟨c0,c1,c2⟩:=h.cells
   clear h b
   go_wp2_with fail
   go_quiet(fail)
 rotate_left 3
 focus
  have hlt1:¬(q:Int)+1<(s.size:Int):=by omega
  have hd1:decide((q:Int)+1<(s.size:Int))=false:=by simpa using hlt1
  have HTW:Hid((Xe s.data.toList q 47&&Xe s.data.toList(q+1)47)=false):=by
   rw[Hid,Bool.and_eq_false_iff];right;rw[X7];rintro⟨e,_⟩;rw[HLN.out]at e;omega
  go_enter Tryz.func81,Tryz.ntmps81
  go_wp2_with fail
  refine HBK.out.mono ?_
  rintro e w1⟨rfl,h,b⟩
  have HF1:=Xa h
  have HB1:=Xa b
  obtain⟨c0,c1,c2⟩:=h.cells
  clear h b
  go_wp2_with fail
  go_quiet(fail)
 all_goals
  have HDD:=Xa(Xq(w:=w1)nq)
  have HF2:=Xa(HF1.out.below HDD.out)
  have HB2:=Xa(HB1.out.trans(LB.of_below HDD.out))
  clear c0 c1 c2
  generalize w1.drewN nq=W0 at HDD HF2 HB2⊢
  clear nq
  have hi0:=Ke(u:=⟨#[124]⟩)HF2.out(by omega)(by show(1:Nat)≤100;omega)(.inl rfl)
  rw[HQQ.out]at hi0
  have HI0:=Xa hi0
  clear hi0
  go_wp2_with fail
  refine HI0.out.mono ?_
  rintro e v0⟨rfl,h3,b3⟩
  have HG0:=Xa h3
  have HC0:=Xa(HB2.out.trans b3)
  clear h3 b3
  go_wp2_with fail
  go_ret
  exact⟨rfl,HC0.out,HG0.out⟩
set_option maxRecDepth 100000 in
theorem Xqa{rb base p q:Nat}{Z:Nat→Prop}{s:ByteArray}{fs:List FN}{w:World}(h:LfAt w rb base Z s p true fs)(hs:s.size≤4000)(hq:skF s.data.toList p=q):
  Calls Tryz.prog 81 #[.pointer(some⟨rb,0,none⟩), .int .i64 2]w fun e w'=>e= .returned(.int .i64 0)∧LB rb base Z w w'∧LfAt w' rb base Z s q true fs:=by
 have HBK:=Xa(Yy h hs)
 have HLN:=Xa(Xm s)
 have HQQ:Hid(skF s.data.toList q=q):=by rw[Hid,←hq];exact Yh _ _
 have hql:q≤s.size:=by rw[←hq,←HLN.out];exact X1(by rw[HLN.out];exact h.le)
 rw[hq]at HBK
 clear h hq
 by_cases hlt:q+1<s.size
 focus
  have hlt0:(q:Int)<(s.size:Int):=by omega
  have hlt1:(q:Int)+1<(s.size:Int):=by omega
  have hd1:decide((q:Int)+1<(s.size:Int))=true:=by simpa using hlt1
  have HBA:=Xa(byS(show q<s.size by omega))
  have HBB:=Xa(byS hlt)
  obtain⟨c,hc⟩:∃c,s[q].toNat=c:=⟨_,rfl⟩
  obtain⟨d,hd⟩:∃d,s[q+1].toNat=d:=⟨_,rfl⟩
  have HC:Hid(Xh s.data.toList q=c):=by rw[Hid,←HBA.out];exact hc
  have HD:Hid(Xh s.data.toList(q+1)=d):=by rw[Hid,←HBB.out];exact hd
  have et:((q:Int)+1).toNat=q+1:=by omega
  by_cases e1:c=47
  focus
   have n1:((c:Int)==47)=true:=by rw[e1];rfl
   have n1':(c:Int)=47:=by omega
   by_cases e2:d=47
   focus
    have n2:((d:Int)==47)=true:=by rw[e2];rfl
    have n2':(d:Int)=47:=by omega
    have HTW:Hid((Xe s.data.toList q 47&&Xe s.data.toList(q+1)47)=true):=by
     rw[Hid,Bool.and_eq_true];exact⟨Xl.2⟨by rw[HLN.out];omega,by rw[HC.out,e1]⟩,Xl.2⟨by rw[HLN.out];omega,by rw[HD.out,e2]⟩⟩
    go_enter Tryz.func81,Tryz.ntmps81
    go_wp2_with fail
    refine HBK.out.mono ?_
    rintro e w1⟨rfl,h,b⟩
    have HF1:=Xa h
    have HB1:=Xa b
    obtain⟨c0,c1,c2⟩:=h.cells
    clear h b
    go_wp2_with fail
    go_quiet(fail)
   rotate_left
   focus
    have n2:((d:Int)==47)=false:=by simp;omega
    have n2':¬(d:Int)=47:=by omega
    have HTW:Hid((Xe s.data.toList q 47&&Xe s.data.toList(q+1)47)=false):=by
     rw[Hid,Bool.and_eq_false_iff];right;rw[X7];rintro⟨_,e⟩;rw[HD.out]at e;exact e2 e
    go_enter Tryz.func81,Tryz.ntmps81
    go_wp2_with fail
    refine HBK.out.mono ?_
    rintro e w1⟨rfl,h,b⟩
    have HF1:=Xa h
    have HB1:=Xa b
    obtain⟨c0,c1,c2⟩:=h.cells
    clear h b
    go_wp2_with fail
    go_quiet(fail)
  rotate_left 2
  focus
   have n1:((c:Int)==47)=false:=by simp;omega
   have n1':¬(c:Int)=47:=by omega
   have HTW:Hid((Xe s.data.toList q 47&&Xe s.data.toList(q+1)47)=false):=by
    rw[Hid,Bool.and_eq_false_iff];left;rw[X7];rintro⟨_,e⟩;rw[HC.out]at e;exact e1 e
   go_enter Tryz.func81,Tryz.ntmps81
   go_wp2_with fail
   refine HBK.out.mono ?_
   rintro e w1⟨rfl,h,b⟩
   have HF1:=Xa h
   have HB1:=Xa b
   obtain⟨c0,c1,c2⟩:=h.cells
   clear h b
   go_wp2_with fail
   go_quiet(fail)
 rotate_left 3
 focus
  have hlt1:¬(q:Int)+1<(s.size:Int):=by omega
  have hd1:decide((q:Int)+1<(s.size:Int))=false:=by simpa using hlt1
  have HTW:Hid((Xe s.data.toList q 47&&Xe s.data.toList(q+1)47)=false):=by
   rw[Hid,Bool.and_eq_false_iff];right;rw[X7];rintro⟨e,_⟩;rw[HLN.out]at e;omega
  go_enter Tryz.func81,Tryz.ntmps81
  go_wp2_with fail
  refine HBK.out.mono ?_
  rintro e w1⟨rfl,h,b⟩
  have HF1:=Xa h
  have HB1:=Xa b
  obtain⟨c0,c1,c2⟩:=h.cells
  clear h b
  go_wp2_with fail
  go_quiet(fail)
 all_goals
  have HDD:=Xa(Xq(w:=w1)nq)
  have HF2:=Xa(HF1.out.below HDD.out)
  have HB2:=Xa(HB1.out.trans(LB.of_below HDD.out))
  clear c0 c1 c2
  generalize w1.drewN nq=W0 at HDD HF2 HB2⊢
  clear nq
  have hi0:=Ke(u:=⟨#[44]⟩)HF2.out(by omega)(by show(1:Nat)≤100;omega)(.inl rfl)
  rw[HQQ.out]at hi0
  have HI0:=Xa hi0
  clear hi0
  go_wp2_with fail
  refine HI0.out.mono ?_
  rintro e v0⟨rfl,h3,b3⟩
  have HG0:=Xa h3
  have HC0:=Xa(HB2.out.trans b3)
  clear h3 b3
  go_wp2_with fail
  go_ret
  exact⟨rfl,HC0.out,HG0.out⟩
set_option maxRecDepth 100000 in
theorem Xqb{rb base p q:Nat}{Z:Nat→Prop}{s:ByteArray}{fs:List FN}{w:World}(h:LfAt w rb base Z s p true fs)(hs:s.size≤4000)(hq:skF s.data.toList p=q):
  Calls Tryz.prog 81 #[.pointer(some⟨rb,0,none⟩), .int .i64 3]w fun e w'=>e= .returned(.int .i64 0)∧LB rb base Z w w'∧LfAt w' rb base Z s q true fs:=by
 have HBK:=Xa(Yy h hs)
 have HLN:=Xa(Xm s)
 have HQQ:Hid(skF s.data.toList q=q):=by rw[Hid,←hq];exact Yh _ _
 have hql:q≤s.size:=by rw[←hq,←HLN.out];exact X1(by rw[HLN.out];exact h.le)
 rw[hq]at HBK
 clear h hq
 by_cases hlt:q+1<s.size
 focus
  have hlt0:(q:Int)<(s.size:Int):=by omega
  have hlt1:(q:Int)+1<(s.size:Int):=by omega
  have hd1:decide((q:Int)+1<(s.size:Int))=true:=by simpa using hlt1
  have HBA:=Xa(byS(show q<s.size by omega))
  have HBB:=Xa(byS hlt)
  obtain⟨c,hc⟩:∃c,s[q].toNat=c:=⟨_,rfl⟩
  obtain⟨d,hd⟩:∃d,s[q+1].toNat=d:=⟨_,rfl⟩
  have HC:Hid(Xh s.data.toList q=c):=by rw[Hid,←HBA.out];exact hc
  have HD:Hid(Xh s.data.toList(q+1)=d):=by rw[Hid,←HBB.out];exact hd
  have et:((q:Int)+1).toNat=q+1:=by omega
  by_cases e1:c=47
  focus
   have n1:((c:Int)==47)=true:=by rw[e1];rfl
   have n1':(c:Int)=47:=by omega
   by_cases e2:d=47
   focus
    have n2:((d:Int)==47)=true:=by rw[e2];rfl
    have n2':(d:Int)=47:=by omega
    have HTW:Hid((Xe s.data.toList q 47&&Xe s.data.toList(q+1)47)=true):=by
     rw[Hid,Bool.and_eq_true];exact⟨Xl.2⟨by rw[HLN.out];omega,by rw[HC.out,e1]⟩,Xl.2⟨by rw[HLN.out];omega,by rw[HD.out,e2]⟩⟩
    go_enter Tryz.func81,Tryz.ntmps81
    go_wp2_with fail
    refine HBK.out.mono ?_
    rintro e w1⟨rfl,h,b⟩
    have HF1:=Xa h
    have HB1:=Xa b
    obtain⟨c0,c1,c2⟩:=h.cells
    clear h b
    go_wp2_with fail
    go_quiet(fail)
   rotate_left
   focus
    have n2:((d:Int)==47)=false:=by simp;omega
    have n2':¬(d:Int)=47:=by omega
    have HTW:Hid((Xe s.data.toList q 47&&Xe s.data.toList(q+1)47)=false):=by
     rw[Hid,Bool.and_eq_false_iff];right;rw[X7];rintro⟨_,e⟩;rw[HD.out]at e;exact e2 e
    go_enter Tryz.func81,Tryz.ntmps81
    go_wp2_with fail
    refine HBK.out.mono ?_
    rintro e w1⟨rfl,h,b⟩
    have HF1:=Xa h
    have HB1:=Xa b
    obtain⟨c0,c1,c2⟩:=h.cells
    clear h b
    go_wp2_with fail
    go_quiet(fail)
  rotate_left 2
  focus
   have n1:((c:Int)==47)=false:=by simp;omega
   have n1':¬(c:Int)=47:=by omega
   have HTW:Hid((Xe s.data.toList q 47&&Xe s.data.toList(q+1)47)=false):=by
    rw[Hid,Bool.and_eq_false_iff];left;rw[X7];rintro⟨_,e⟩;rw[HC.out]at e;exact e1 e
   go_enter Tryz.func81,Tryz.ntmps81
   go_wp2_with fail
   refine HBK.out.mono ?_
   rintro e w1⟨rfl,h,b⟩
   have HF1:=Xa h
   have HB1:=Xa b
   obtain⟨c0,c1,c2⟩:=h.cells
   clear h b
   go_wp2_with fail
   go_quiet(fail)
 rotate_left 3
 focus
  have hlt1:¬(q:Int)+1<(s.size:Int):=by omega
  have hd1:decide((q:Int)+1<(s.size:Int))=false:=by simpa using hlt1
  have HTW:Hid((Xe s.data.toList q 47&&Xe s.data.toList(q+1)47)=false):=by
   rw[Hid,Bool.and_eq_false_iff];right;rw[X7];rintro⟨e,_⟩;rw[HLN.out]at e;omega
  go_enter Tryz.func81,Tryz.ntmps81
  go_wp2_with fail
  refine HBK.out.mono ?_
  rintro e w1⟨rfl,h,b⟩
  have HF1:=Xa h
  have HB1:=Xa b
  obtain⟨c0,c1,c2⟩:=h.cells
  clear h b
  go_wp2_with fail
  go_quiet(fail)
 all_goals
  have HDD:=Xa(Xq(w:=w1)nq)
  have HF2:=Xa(HF1.out.below HDD.out)
  have HB2:=Xa(HB1.out.trans(LB.of_below HDD.out))
  clear c0 c1 c2
  generalize w1.drewN nq=W0 at HDD HF2 HB2⊢
  clear nq
  have hi:=Ke(u:=⟨#[47,47]⟩)HF2.out(by omega)(by show(2:Nat)≤100;omega)(.inl rfl)
  rw[HQQ.out]at hi
  have HI:=Xa hi
  clear hi
  first
   | (go_wp2_with fail
      go_ret
      exact⟨rfl,HB2.out,HF2.out⟩)
   | (go_wp2_with fail
      refine HI.out.mono ?_
      rintro e w3⟨rfl,h3,b3⟩
      have HF3:=Xa h3
      have HB3:=Xa(HB2.out.trans b3)
      clear h3 b3
      go_wp2_with fail
      go_ret
      exact⟨rfl,HB3.out,HF3.out⟩)
set_option maxRecDepth 100000 in
theorem Xqc{rb base p q:Nat}{Z:Nat→Prop}{s:ByteArray}{fs:List FN}{w:World}(h:LfAt w rb base Z s p true fs)(hs:s.size≤4000)(hq:skF s.data.toList p=q):
  Calls Tryz.prog 81 #[.pointer(some⟨rb,0,none⟩), .int .i64 4]w fun e w'=>e= .returned(.int .i64 0)∧LB rb base Z w w'∧LfAt w' rb base Z s q true fs:=by
 have HBK:=Xa(Yy h hs)
 have HLN:=Xa(Xm s)
 have HQQ:Hid(skF s.data.toList q=q):=by rw[Hid,←hq];exact Yh _ _
 have hql:q≤s.size:=by rw[←hq,←HLN.out];exact X1(by rw[HLN.out];exact h.le)
 rw[hq]at HBK
 clear h hq
 by_cases hlt:q+1<s.size
 focus
  have hlt0:(q:Int)<(s.size:Int):=by omega
  have hlt1:(q:Int)+1<(s.size:Int):=by omega
  have hd1:decide((q:Int)+1<(s.size:Int))=true:=by simpa using hlt1
  have HBA:=Xa(byS(show q<s.size by omega))
  have HBB:=Xa(byS hlt)
  obtain⟨c,hc⟩:∃c,s[q].toNat=c:=⟨_,rfl⟩
  obtain⟨d,hd⟩:∃d,s[q+1].toNat=d:=⟨_,rfl⟩
  have HC:Hid(Xh s.data.toList q=c):=by rw[Hid,←HBA.out];exact hc
  have HD:Hid(Xh s.data.toList(q+1)=d):=by rw[Hid,←HBB.out];exact hd
  have et:((q:Int)+1).toNat=q+1:=by omega
  by_cases e1:c=47
  focus
   have n1:((c:Int)==47)=true:=by rw[e1];rfl
   have n1':(c:Int)=47:=by omega
   by_cases e2:d=47
   focus
    have n2:((d:Int)==47)=true:=by rw[e2];rfl
    have n2':(d:Int)=47:=by omega
    have HTW:Hid((Xe s.data.toList q 47&&Xe s.data.toList(q+1)47)=true):=by
     rw[Hid,Bool.and_eq_true];exact⟨Xl.2⟨by rw[HLN.out];omega,by rw[HC.out,e1]⟩,Xl.2⟨by rw[HLN.out];omega,by rw[HD.out,e2]⟩⟩
    go_enter Tryz.func81,Tryz.ntmps81
    go_wp2_with fail
    refine HBK.out.mono ?_
    rintro e w1⟨rfl,h,b⟩
    have HF1:=Xa h
    have HB1:=Xa b
    obtain⟨c0,c1,c2⟩:=h.cells
    clear h b
    go_wp2_with fail
    go_quiet(fail)
   rotate_left
   focus
    have n2:((d:Int)==47)=false:=by simp;omega
    have n2':¬(d:Int)=47:=by omega
    have HTW:Hid((Xe s.data.toList q 47&&Xe s.data.toList(q+1)47)=false):=by
     rw[Hid,Bool.and_eq_false_iff];right;rw[X7];rintro⟨_,e⟩;rw[HD.out]at e;exact e2 e
    go_enter Tryz.func81,Tryz.ntmps81
    go_wp2_with fail
    refine HBK.out.mono ?_
    rintro e w1⟨rfl,h,b⟩
    have HF1:=Xa h
    have HB1:=Xa b
    obtain⟨c0,c1,c2⟩:=h.cells
    clear h b
    go_wp2_with fail
    go_quiet(fail)
  rotate_left 2
  focus
   have n1:((c:Int)==47)=false:=by simp;omega
   have n1':¬(c:Int)=47:=by omega
   have HTW:Hid((Xe s.data.toList q 47&&Xe s.data.toList(q+1)47)=false):=by
    rw[Hid,Bool.and_eq_false_iff];left;rw[X7];rintro⟨_,e⟩;rw[HC.out]at e;exact e1 e
   go_enter Tryz.func81,Tryz.ntmps81
   go_wp2_with fail
   refine HBK.out.mono ?_
   rintro e w1⟨rfl,h,b⟩
   have HF1:=Xa h
   have HB1:=Xa b
   obtain⟨c0,c1,c2⟩:=h.cells
   clear h b
   go_wp2_with fail
   go_quiet(fail)
 rotate_left 3
 focus
  have hlt1:¬(q:Int)+1<(s.size:Int):=by omega
  have hd1:decide((q:Int)+1<(s.size:Int))=false:=by simpa using hlt1
  have HTW:Hid((Xe s.data.toList q 47&&Xe s.data.toList(q+1)47)=false):=by
   rw[Hid,Bool.and_eq_false_iff];right;rw[X7];rintro⟨e,_⟩;rw[HLN.out]at e;omega
  go_enter Tryz.func81,Tryz.ntmps81
  go_wp2_with fail
  refine HBK.out.mono ?_
  rintro e w1⟨rfl,h,b⟩
  have HF1:=Xa h
  have HB1:=Xa b
  obtain⟨c0,c1,c2⟩:=h.cells
  clear h b
  go_wp2_with fail
  go_quiet(fail)
 all_goals
  have HDD:=Xa(Xq(w:=w1)nq)
  have HF2:=Xa(HF1.out.below HDD.out)
  have HB2:=Xa(HB1.out.trans(LB.of_below HDD.out))
  clear c0 c1 c2
  generalize w1.drewN nq=W0 at HDD HF2 HB2⊢
  clear nq
  have hi0:=Ke(u:=⟨#[61,61]⟩)HF2.out(by omega)(by show(2:Nat)≤100;omega)(.inl rfl)
  rw[HQQ.out]at hi0
  have HI0:=Xa hi0
  clear hi0
  go_wp2_with fail
  refine HI0.out.mono ?_
  rintro e v0⟨rfl,h3,b3⟩
  have HG0:=Xa h3
  have HC0:=Xa(HB2.out.trans b3)
  clear h3 b3
  have hi1:=Ke(u:=⟨#[33,61]⟩)HG0.out(by omega)(by show(2:Nat)≤100;omega)(.inl rfl)
  rw[HQQ.out]at hi1
  have HI1:=Xa hi1
  clear hi1
  go_wp2_with fail
  refine HI1.out.mono ?_
  rintro e v1⟨rfl,h3,b3⟩
  have HG1:=Xa h3
  have HC1:=Xa(HC0.out.trans b3)
  clear h3 b3
  have hi2:=Ke(u:=⟨#[60,61]⟩)HG1.out(by omega)(by show(2:Nat)≤100;omega)(.inl rfl)
  rw[HQQ.out]at hi2
  have HI2:=Xa hi2
  clear hi2
  go_wp2_with fail
  refine HI2.out.mono ?_
  rintro e v2⟨rfl,h3,b3⟩
  have HG2:=Xa h3
  have HC2:=Xa(HC1.out.trans b3)
  clear h3 b3
  have hi3:=Ke(u:=⟨#[60]⟩)HG2.out(by omega)(by show(1:Nat)≤100;omega)(.inl rfl)
  rw[HQQ.out]at hi3
  have HI3:=Xa hi3
  clear hi3
  go_wp2_with fail
  refine HI3.out.mono ?_
  rintro e v3⟨rfl,h3,b3⟩
  have HG3:=Xa h3
  have HC3:=Xa(HC2.out.trans b3)
  clear h3 b3
  go_wp2_with fail
  go_ret
  exact⟨rfl,HC3.out,HG3.out⟩
set_option maxRecDepth 100000 in
theorem Xqd{rb base p q:Nat}{Z:Nat→Prop}{s:ByteArray}{fs:List FN}{w:World}(h:LfAt w rb base Z s p true fs)(hs:s.size≤4000)(hq:skF s.data.toList p=q):
  Calls Tryz.prog 81 #[.pointer(some⟨rb,0,none⟩), .int .i64 5]w fun e w'=>e= .returned(.int .i64 0)∧LB rb base Z w w'∧LfAt w' rb base Z s q true fs:=by
 have HBK:=Xa(Yy h hs)
 have HLN:=Xa(Xm s)
 have HQQ:Hid(skF s.data.toList q=q):=by rw[Hid,←hq];exact Yh _ _
 have hql:q≤s.size:=by rw[←hq,←HLN.out];exact X1(by rw[HLN.out];exact h.le)
 rw[hq]at HBK
 clear h hq
 by_cases hlt:q+1<s.size
 focus
  have hlt0:(q:Int)<(s.size:Int):=by omega
  have hlt1:(q:Int)+1<(s.size:Int):=by omega
  have hd1:decide((q:Int)+1<(s.size:Int))=true:=by simpa using hlt1
  have HBA:=Xa(byS(show q<s.size by omega))
  have HBB:=Xa(byS hlt)
  obtain⟨c,hc⟩:∃c,s[q].toNat=c:=⟨_,rfl⟩
  obtain⟨d,hd⟩:∃d,s[q+1].toNat=d:=⟨_,rfl⟩
  have HC:Hid(Xh s.data.toList q=c):=by rw[Hid,←HBA.out];exact hc
  have HD:Hid(Xh s.data.toList(q+1)=d):=by rw[Hid,←HBB.out];exact hd
  have et:((q:Int)+1).toNat=q+1:=by omega
  by_cases e1:c=47
  focus
   have n1:((c:Int)==47)=true:=by rw[e1];rfl
   have n1':(c:Int)=47:=by omega
   by_cases e2:d=47
   focus
    have n2:((d:Int)==47)=true:=by rw[e2];rfl
    have n2':(d:Int)=47:=by omega
    have HTW:Hid((Xe s.data.toList q 47&&Xe s.data.toList(q+1)47)=true):=by
     rw[Hid,Bool.and_eq_true];exact⟨Xl.2⟨by rw[HLN.out];omega,by rw[HC.out,e1]⟩,Xl.2⟨by rw[HLN.out];omega,by rw[HD.out,e2]⟩⟩
    go_enter Tryz.func81,Tryz.ntmps81
    go_wp2_with fail
    refine HBK.out.mono ?_
    rintro e w1⟨rfl,h,b⟩
    have HF1:=Xa h
    have HB1:=Xa b
    obtain⟨c0,c1,c2⟩:=h.cells
    clear h b
    go_wp2_with fail
    go_quiet(fail)
   rotate_left
   focus
    have n2:((d:Int)==47)=false:=by simp;omega
    have n2':¬(d:Int)=47:=by omega
    have HTW:Hid((Xe s.data.toList q 47&&Xe s.data.toList(q+1)47)=false):=by
     rw[Hid,Bool.and_eq_false_iff];right;rw[X7];rintro⟨_,e⟩;rw[HD.out]at e;exact e2 e
    go_enter Tryz.func81,Tryz.ntmps81
    go_wp2_with fail
    refine HBK.out.mono ?_
    rintro e w1⟨rfl,h,b⟩
    have HF1:=Xa h
    have HB1:=Xa b
    obtain⟨c0,c1,c2⟩:=h.cells
    clear h b
    go_wp2_with fail
    go_quiet(fail)
  rotate_left 2
  focus
   have n1:((c:Int)==47)=false:=by simp;omega
   have n1':¬(c:Int)=47:=by omega
   have HTW:Hid((Xe s.data.toList q 47&&Xe s.data.toList(q+1)47)=false):=by
    rw[Hid,Bool.and_eq_false_iff];left;rw[X7];rintro⟨_,e⟩;rw[HC.out]at e;exact e1 e
   go_enter Tryz.func81,Tryz.ntmps81
   go_wp2_with fail
   refine HBK.out.mono ?_
   rintro e w1⟨rfl,h,b⟩
   have HF1:=Xa h
   have HB1:=Xa b
   obtain⟨c0,c1,c2⟩:=h.cells
   clear h b
   go_wp2_with fail
   go_quiet(fail)
 rotate_left 3
 focus
  have hlt1:¬(q:Int)+1<(s.size:Int):=by omega
  have hd1:decide((q:Int)+1<(s.size:Int))=false:=by simpa using hlt1
  have HTW:Hid((Xe s.data.toList q 47&&Xe s.data.toList(q+1)47)=false):=by
   rw[Hid,Bool.and_eq_false_iff];right;rw[X7];rintro⟨e,_⟩;rw[HLN.out]at e;omega
  go_enter Tryz.func81,Tryz.ntmps81
  go_wp2_with fail
  refine HBK.out.mono ?_
  rintro e w1⟨rfl,h,b⟩
  have HF1:=Xa h
  have HB1:=Xa b
  obtain⟨c0,c1,c2⟩:=h.cells
  clear h b
  go_wp2_with fail
  go_quiet(fail)
 all_goals
  have HDD:=Xa(Xq(w:=w1)nq)
  have HF2:=Xa(HF1.out.below HDD.out)
  have HB2:=Xa(HB1.out.trans(LB.of_below HDD.out))
  clear c0 c1 c2
  generalize w1.drewN nq=W0 at HDD HF2 HB2⊢
  clear nq
  have hi0:=Ke(u:=⟨#[43]⟩)HF2.out(by omega)(by show(1:Nat)≤100;omega)(.inl rfl)
  rw[HQQ.out]at hi0
  have HI0:=Xa hi0
  clear hi0
  go_wp2_with fail
  refine HI0.out.mono ?_
  rintro e v0⟨rfl,h3,b3⟩
  have HG0:=Xa h3
  have HC0:=Xa(HB2.out.trans b3)
  clear h3 b3
  have hi1:=Ke(u:=⟨#[45]⟩)HG0.out(by omega)(by show(1:Nat)≤100;omega)(.inl rfl)
  rw[HQQ.out]at hi1
  have HI1:=Xa hi1
  clear hi1
  go_wp2_with fail
  refine HI1.out.mono ?_
  rintro e v1⟨rfl,h3,b3⟩
  have HG1:=Xa h3
  have HC1:=Xa(HC0.out.trans b3)
  clear h3 b3
  go_wp2_with fail
  go_ret
  exact⟨rfl,HC1.out,HG1.out⟩
theorem Xnb{rb base p:Nat}{Z:Nat→Prop}{s:ByteArray}{fs:List FN}{w:World}(h:LfAt w rb base Z s p true fs)(hs:s.size≤4000)(l:Nat)(h1:1≤l)(h5:l≤5):
  Calls Tryz.prog 81 #[.pointer(some⟨rb,0,none⟩), .int .i64(l:Int)]w fun e w'=>e= .returned(.int .i64 0)∧LB rb base Z w w'∧LfAt w' rb base Z s(skF s.data.toList p)true fs:=by
 rcases(show l=1∨l=2∨l=3∨l=4∨l=5 by omega)with rfl|rfl|rfl|rfl|rfl
 ·exact Xp9 h hs rfl
 ·exact Xqa h hs rfl
 ·exact Xqb h hs rfl
 ·exact Xqc h hs rfl
 ·exact Xqd h hs rfl
end Go.Proofs.YtehihemfepbmfaaGreatDoor
