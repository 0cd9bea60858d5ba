import Derived.Test.YtehihemfepbmfaaGreatDoorSgD
import Derived.Test.YtehihemfepbmfaaGreatDoorIFj
import Derived.Test.YtehihemfepbmfaaGreatDoorGupN
import Derived.Test.YtehihemfepbmfaaGreatDoorSLf
import Derived.Test.YtehihemfepbmfaaGreatDoorUneP
import Derived.Deep.RegionLaw
import Derived.Deep.AppendLies
import Derived.Test.YtehihemfepbmfaaGreatDoorFtD
namespace Go.Proofs.YtehihemfepbmfaaGreatDoor
set_option linter.unusedSectionVars false
set_option maxHeartbeats 12800000
open Go.RowKit
set_option linter.unusedSimpArgs false
set_option linter.unusedVariables false
theorem Gq {R:Ending→World→Prop} {a:Act} {W:World} {b:Nat} {c0 c1 c2 c3 c4 v:Value} {T:TypeId} {z:Nat×Nat} (hh:W.heap[b]? =some (.cells #[c0,c1,c2,c3,c4] T z)) (h2:a.tmps.getD 2 undef= .pointer (some ⟨b,0,none⟩)) (h3:a.tmps.getD 3 undef=v) (hd:a.defers= []) (hR:R (.returned (.tuple #[.agg #[c0,c1,c2,c3,c4],v])) W):bodyPost Tryz.prog Tryz.f111 R .ret a W:=by
 have x0:W.cell? ⟨b,0,none⟩=some c0:=cellAt hh (i:=0) rfl
 have x1:W.cell? ⟨b,1,none⟩=some c1:=cellAt hh (i:=1) rfl
 have x2:W.cell? ⟨b,2,none⟩=some c2:=cellAt hh (i:=2) rfl
 have x3:W.cell? ⟨b,3,none⟩=some c3:=cellAt hh (i:=3) rfl
 have x4:W.cell? ⟨b,4,none⟩=some c4:=cellAt hh (i:=4) rfl
 have h2':a.tmps[2]?.getD undef= .pointer (some ⟨b,0,none⟩):=by simpa using h2
 have h3':a.tmps[3]?.getD undef=v:=by simpa using h3
 refine bodyPost_ret ?_ hd hR
 simp[results,Tryz.results111,go_sem,h2',h3',x0,x1,x2,x3,x4]
theorem Xee (mb a b:Nat):∃k t l f r ok,(∀w:World,w.heap[mb]? =some (.map (Qr 10) 10)→(Instr.lookup 62 (.map (some mb)) (.agg #[.int .u8 (a:Int), .int .u8 (b:Int)]) true).run Tryz.prog w= .ok (.tuple #[.agg #[.int .i64 k, .string t, .int .i64 l, .int .i64 f, .int .i64 r], .bool ok]) w)∧((ok=true∧Ga a b=some k∧t=txt (Zo k)∧l=Xp k∧f=Zw k∧r=Yv k)∨(ok=false∧Ga a b=none)):=by
 cases hk:Ga a b with
 |none=>exact ⟨0,ByteArray.empty,0,0,0,false,fun w h=>by rw[Xii h,Xij,hk];rfl, .inr ⟨rfl,rfl⟩⟩
 |some k=>exact ⟨k,txt (Zo k),Xp k,Zw k,Yv k,true,fun w h=>by rw[Xii h,Xij,hk];rfl, .inl ⟨rfl,rfl,rfl,rfl,rfl,rfl⟩⟩
theorem Xa9 (mb a:Nat):∃k t l f r ok,(∀w:World,w.heap[mb]? =some (.map (Qr 10) 10)→(Instr.lookup 62 (.map (some mb)) (.agg #[.int .u8 (a:Int), .int .u8 0]) true).run Tryz.prog w= .ok (.tuple #[.agg #[.int .i64 k, .string t, .int .i64 l, .int .i64 f, .int .i64 r], .bool ok]) w)∧((ok=true∧Ga a 0=some k∧t=txt (Zo k)∧l=Xp k∧f=Zw k∧r=Yv k)∨(ok=false∧Ga a 0=none)):=Xee mb a 0
def jhV (o:Option (Int×Nat)):Value:=match o with
 |some (k,n)=> .tuple #[.agg #[.int .i64 k, .string (txt (Zo k)), .int .i64 (Xp k), .int .i64 (Zw k), .int .i64 (Yv k)], .int .i64 (n:Int)]
 |none=> .tuple #[.agg #[.int .i64 0, .string ⟨#[]⟩, .int .i64 0, .int .i64 0, .int .i64 0], .int .i64 0]

set_option maxRecDepth 100000 in
theorem Xht {rb mb base p:Nat} {Z:Nat→Prop} {s:ByteArray} {fs:List FN} {w:World} (h:FrAt w rb mb base Z s p fs) (hs:s.size≤4000) (hq:¬p+1<s.size):
  Calls Tryz.prog 111 #[.pointer (some ⟨rb,0,none⟩)] w fun e w'=>e= .returned (jhV (X0 s.data.toList p))∧Below w.heap.size w w':=by
 obtain ⟨W1,hW1⟩:∃W1,w.alloc (.cells #[.int .i64 0, .string ⟨#[]⟩, .int .i64 0, .int .i64 0, .int .i64 0] 91)=W1:=⟨_,rfl⟩
 have hb1:Below w.heap.size w W1:=by rw[←hW1];exact (Below.refl _ _).alloc (Nat.le_refl _) _
 have hx1:W1.heap[w.heap.size]? =some (.cells #[.int .i64 0, .string ⟨#[]⟩, .int .i64 0, .int .i64 0, .int .i64 0] 91 (0,0)):=by rw[←hW1];exact heap_alloc_new w _
 have hz1:w.heap.size<W1.heap.size:=by rw[←hW1];simp
 have HLN:=Xa (Xm s)
 have hp:=h.le
 have HJ:Hid (X0 s.data.toList p=Uj (Xh s.data.toList p) (Xh s.data.toList (p+1))):=by rw[Hid,Xoy,Xu7]
 obtain ⟨c,hc⟩:∃c,Xh s.data.toList p=c:=⟨_,rfl⟩
 obtain ⟨d,hd⟩:∃d,Xh s.data.toList (p+1)=d:=⟨_,rfl⟩
 have hc256:c<256:=by rw[←hc];exact Jt _ _
 have hd256:d<256:=by rw[←hd];exact Jt _ _
 rw[hc,hd] at HJ
 have HD:=Xa hd
 have HX1:=Xa hx1
 have HB1:=Xa hb1
 have HF1:=Xa (h.below hb1)
 have HPK:=Xa (Xax (let ⟨v,h1,_⟩:=HF1.out.ex;h1.br) (by omega))
 rw[hc] at HPK
 clear h hb1 hx1 hc hd
 go_enter Tryz.func111,Tryz.ntmps111
 go_wp2_with fail
 (try rw[hW1])
 refine HPK.out.mono ?_
 rintro e w1 ⟨rfl,hb2⟩
 have HB2:=Xa hb2
 have HF2:=Xa (HF1.out.below hb2)
 have hz2:w.heap.size<w1.heap.size:=Nat.lt_of_lt_of_le hz1 hb2.size
 have HX2:Hid (w1.heap[w.heap.size]? =_):=(hb2.block _ hz1).trans HX1.out
 obtain ⟨W2,hW2⟩:∃W2,w1.alloc (.cells #[.int .u8 (c:Int), .int .u8 0] 110)=W2:=⟨_,rfl⟩
 have hb3:Below w1.heap.size w1 W2:=by rw[←hW2];exact (Below.refl _ _).alloc (Nat.le_refl _) _
 have HB3:=Xa hb3
 have HF3:=Xa (HF2.out.below hb3)
 have HX3:Hid (W2.heap[w.heap.size]? =_):=(hb3.block _ hz2).trans HX2.out
 have HY3:Hid (W2.heap[w1.heap.size]? =some (.cells #[.int .u8 (c:Int), .int .u8 0] 110 (0,0))):=by rw[Hid,←hW2];exact heap_alloc_new w1 _
 have hz3:w1.heap.size<W2.heap.size:=by rw[←hW2];simp
 have HW2:=Xa hW2
 clear hb2 hb3 hW2
 go_wp2_with fail
 rw[HW2.out]
 obtain ⟨c0,c1,f1,lt0⟩:=HF3.out.cells
 have y0:W2.cell? ⟨w1.heap.size,0,none⟩=some (.int .u8 (c:Int)):=cellAt HY3.out rfl
 have y1:W2.cell? ⟨w1.heap.size,1,none⟩=some (.int .u8 0):=cellAt HY3.out rfl
 have g1:W2.frozen? ⟨w1.heap.size,1,none⟩=false:=Lib.frozen_of_heap HY3.out 1
 have hd0:(d:Int)=0:=by
  have:=Q2 (L:=s.data.toList) (p:=p+1) (by rw[HLN.out];omega)
  rw[HD.out] at this;omega
 have hq':¬(p:Int)+1<(s.size:Int):=by omega
 have hqd:decide ((p:Int)+1<(s.size:Int))=false:=by simpa using hq'
 have HD0:=Xa hd0
 clear hd0
 go_quiet (fail)
 have HD4:=Xa (Xq (w:=W2) nq)
 obtain ⟨WA,hWA⟩:∃WA,W2.drewN nq=WA:=⟨_,rfl⟩
 rw[hWA] at HD4⊢
 have HFA:=Xa (HF3.out.below HD4.out)
 have HXA:Hid (WA.heap[w.heap.size]? =_):=(HD4.out.block _ (by omega)).trans HX3.out
 have HYA:Hid (WA.heap[w1.heap.size]? =some (.cells #[.int .u8 (c:Int), .int .u8 (d:Int)] 110 (0,0))):=by rw[Hid,HD0.out];exact (HD4.out.block _ (by omega)).trans HY3.out
 have hzA:w1.heap.size<WA.heap.size:=Nat.lt_of_lt_of_le hz3 HD4.out.size
 have HBA:Hid (Below w.heap.size w WA):=((HB1.out.trans (HB2.out.mono (by omega))).trans (HB3.out.mono (by omega))).trans (HD4.out.mono (by omega))
 have m3:WA.cell? ⟨rb,3,none⟩=some (.map (some mb)):=by
  obtain ⟨v,h1,_⟩:=HFA.out.ex
  exact h1.bl 3 (by decide)
 have mmp:WA.heap[mb]? =some (.map (Qr 10) 10):=HFA.out.box.mp
 clear hWA c0 c1 f1 y0 y1 g1 hq hq' hqd HD4 HFA nq
 all_goals
  obtain ⟨k1,t1,l1,fl1,r1,ok1,hlk,hor1⟩:=Xee mb c d
  have hlk1:=hlk WA.drew mmp
  have hmb:mb<WA.heap.size:=Wy mmp
  have hlk2:=hlk ((WA.alloc (.cells #[.int .i64 0, .string ⟨#[]⟩, .int .i64 0, .int .i64 0, .int .i64 0] 91)).drew) ((heap_alloc_old WA _ hmb).trans mmp)
  have HOR1:=Xa hor1
  have HMP:=Xa mmp
  have hrl:rb<WA.heap.size:=by have:=HF2.out.cells.2.2.2;omega
  clear hor1 mmp hlk
  have y0:WA.cell? ⟨w1.heap.size,0,none⟩=some (.int .u8 (c:Int)):=cellAt HYA.out rfl
  have y1:WA.cell? ⟨w1.heap.size,1,none⟩=some (.int .u8 (d:Int)):=cellAt HYA.out rfl
  have HW2':=HW2
  clear HW2
  go_wp2_with fail
  go_region
 all_goals
  obtain ⟨WB,hWB⟩:∃WB,(WA.alloc (.cells #[.int .i64 k1, .string t1, .int .i64 l1, .int .i64 fl1, .int .i64 r1] 91)).drew=WB:=⟨_,rfl⟩
  rw[hWB]
  have hbB:Below WA.heap.size WA WB:=by rw[←hWB];exact ((Below.refl _ _).alloc (Nat.le_refl _) _).drew
  have hjB:WB.heap[WA.heap.size]? =some (.cells #[.int .i64 k1, .string t1, .int .i64 l1, .int .i64 fl1, .int .i64 r1] 91 (0,0)):=by rw[←hWB];exact heap_alloc_new WA _
  have HXB:Hid (WB.heap[w.heap.size]? =_):=(hbB.block _ (by omega)).trans HXA.out
  have HYB:Hid (WB.heap[w1.heap.size]? =_):=(hbB.block _ (by omega)).trans HYA.out
  have HMPB:Hid (WB.heap[mb]? =_):=(hbB.block _ hmb).trans HMP.out
  have HBB:=Xa (HBA.out.trans (hbB.mono (by omega)))
  have hzB:WA.heap.size<WB.heap.size:=by rw[←hWB];simp
  have hmbB:mb<WB.heap.size:=by omega
  have m3':WB.cell? ⟨rb,3,none⟩=some (.map (some mb)):=(Xcv (hbB.block rb hrl)).trans m3
  clear hWB hbB hlk1 hlk2 m3 y0 y1
  have m3:=m3'
  clear m3'
  have y0:WB.cell? ⟨w1.heap.size,0,none⟩=some (.int .u8 (c:Int)):=cellAt HYB.out rfl
  have y1:WB.cell? ⟨w1.heap.size,1,none⟩=some (.int .u8 (d:Int)):=cellAt HYB.out rfl
  have j0:=cellAt hjB (i:=0) rfl
  have j1:=cellAt hjB (i:=1) rfl
  have j2:=cellAt hjB (i:=2) rfl
  have j3:=cellAt hjB (i:=3) rfl
  have j4:=cellAt hjB (i:=4) rfl
  have u0:=cellAt HXB.out (i:=0) rfl
  have u1:=cellAt HXB.out (i:=1) rfl
  have u2:=cellAt HXB.out (i:=2) rfl
  have u3:=cellAt HXB.out (i:=3) rfl
  have u4:=cellAt HXB.out (i:=4) rfl
  have v0:WB.frozen? ⟨w.heap.size,0,none⟩=false:=Lib.frozen_of_heap HXB.out 0
  have v1:WB.frozen? ⟨w.heap.size,1,none⟩=false:=Lib.frozen_of_heap HXB.out 1
  have v2:WB.frozen? ⟨w.heap.size,2,none⟩=false:=Lib.frozen_of_heap HXB.out 2
  have v3:WB.frozen? ⟨w.heap.size,3,none⟩=false:=Lib.frozen_of_heap HXB.out 3
  have v4:WB.frozen? ⟨w.heap.size,4,none⟩=false:=Lib.frozen_of_heap HXB.out 4
  have hne2:¬w.heap.size=WA.heap.size:=by omega
  have hne3:¬WA.heap.size=w.heap.size:=by omega
  have hrlB:rb<WB.heap.size:=by omega
  have hw1B:w1.heap.size<WB.heap.size:=by omega
  clear hjB HXA HYA HMP hrl hmb
  by_cases hA:ok1=true∧d≠0
  ·obtain ⟨hok,hd0⟩:=hA
   subst hok
   have dne:((d:Int) !=0)=true:=by simp;omega
   have dne2:¬(d:Int)=0:=by omega
   have HR:Hid (jhV (X0 s.data.toList p)= .tuple #[.agg #[.int .i64 k1, .string t1, .int .i64 l1, .int .i64 fl1, .int .i64 r1], .int .i64 2]):=by
    rcases HOR1.out with ⟨_,hk,e1,e2,e3,e4⟩|⟨e,_⟩
    ·rw[Hid,HJ.out];unfold Uj;rw[if_neg hd0,hk,e1,e2,e3,e4];rfl
    ·cases e
   clear HOR1
   go_wp2_with fail
   refine Gq (Xac HXB.out) rfl rfl rfl ?_
   exact ⟨by rw[HR.out];rfl,((((HBB.out.setCell (p:=⟨w.heap.size,0,none⟩) (Nat.le_refl _) _).setCell (p:=⟨w.heap.size,1,none⟩) (Nat.le_refl _) _).setCell (p:=⟨w.heap.size,2,none⟩) (Nat.le_refl _) _).setCell (p:=⟨w.heap.size,3,none⟩) (Nat.le_refl _) _).setCell (p:=⟨w.heap.size,4,none⟩) (Nat.le_refl _) _⟩
  have HFST:Hid ((if d=0 then none else Ga c d)=none):=by
   rw[Hid]
   split
   ·rfl
   ·rename_i hd0
    rcases HOR1.out with ⟨e,_⟩|⟨_,hk⟩
    ·exact absurd ⟨e,hd0⟩ hA
    ·exact hk
  have hB:ok1=false∨(ok1=true∧(d:Int)=0):=by
   cases ok1
   ·exact .inl rfl
   ·refine .inr ⟨rfl, ?_⟩
    by_cases h:d=0
    ·omega
    ·exact absurd ⟨rfl,h⟩ hA
  clear HOR1 hA
  rcases hB with hB|⟨hB,hd0⟩
  ·subst hB
   obtain ⟨k2,t2,l2,fl2,r2,ok2,hlk,hor2⟩:=Xa9 mb c
   have hlk1:=hlk WB.drew HMPB.out
   have hlk2:=hlk ((WB.alloc (.cells #[.int .i64 0, .string ⟨#[]⟩, .int .i64 0, .int .i64 0, .int .i64 0] 91)).drew) ((heap_alloc_old WB _ hmbB).trans HMPB.out)
   clear hlk
   have HOR2:=Xa hor2
   clear hor2
   go_wp2_with fail
   go_region
   all_goals
    obtain ⟨WC,hWC⟩:∃WC,(WB.alloc (.cells #[.int .i64 k2, .string t2, .int .i64 l2, .int .i64 fl2, .int .i64 r2] 91)).drew=WC:=⟨_,rfl⟩
    rw[hWC]
    have hbC:Below WB.heap.size WB WC:=by rw[←hWC];exact ((Below.refl _ _).alloc (Nat.le_refl _) _).drew
    have hjC:WC.heap[WB.heap.size]? =some (.cells #[.int .i64 k2, .string t2, .int .i64 l2, .int .i64 fl2, .int .i64 r2] 91 (0,0)):=by rw[←hWC];exact heap_alloc_new WB _
    have HXC:Hid (WC.heap[w.heap.size]? =_):=(hbC.block _ (by omega)).trans HXB.out
    have HBC:=Xa (HBB.out.trans (hbC.mono (by omega)))
    have hzC:WB.heap.size<WC.heap.size:=by rw[←hWC];simp
    clear hWC hbC hlk1 hlk2 m3 y0 y1 u0 u1 u2 u3 u4 v0 v1 v2 v3 v4 j0 j1 j2 j3 j4
    have j0:=cellAt hjC (i:=0) rfl
    have j1:=cellAt hjC (i:=1) rfl
    have j2:=cellAt hjC (i:=2) rfl
    have j3:=cellAt hjC (i:=3) rfl
    have j4:=cellAt hjC (i:=4) rfl
    have u0:=cellAt HXC.out (i:=0) rfl
    have u1:=cellAt HXC.out (i:=1) rfl
    have u2:=cellAt HXC.out (i:=2) rfl
    have u3:=cellAt HXC.out (i:=3) rfl
    have u4:=cellAt HXC.out (i:=4) rfl
    have v0:WC.frozen? ⟨w.heap.size,0,none⟩=false:=Lib.frozen_of_heap HXC.out 0
    have v1:WC.frozen? ⟨w.heap.size,1,none⟩=false:=Lib.frozen_of_heap HXC.out 1
    have v2:WC.frozen? ⟨w.heap.size,2,none⟩=false:=Lib.frozen_of_heap HXC.out 2
    have v3:WC.frozen? ⟨w.heap.size,3,none⟩=false:=Lib.frozen_of_heap HXC.out 3
    have v4:WC.frozen? ⟨w.heap.size,4,none⟩=false:=Lib.frozen_of_heap HXC.out 4
    have hne2:¬w.heap.size=WB.heap.size:=by omega
    have hne3:¬WB.heap.size=w.heap.size:=by omega
    clear hjC
    rcases HOR2.out with ⟨e,hk,e1,e2,e3,e4⟩|⟨e,hk⟩
    ·subst e
     have HR:Hid (jhV (X0 s.data.toList p)= .tuple #[.agg #[.int .i64 k2, .string t2, .int .i64 l2, .int .i64 fl2, .int .i64 r2], .int .i64 1]):=by rw[Hid,HJ.out];unfold Uj;rw[HFST.out,hk,e1,e2,e3,e4];rfl
     clear hk e1 e2 e3 e4 HOR2
     go_wp2_with fail
     refine Gq (Xac HXC.out) rfl rfl rfl ?_
     exact ⟨by rw[HR.out];rfl,((((HBC.out.setCell (p:=⟨w.heap.size,0,none⟩) (Nat.le_refl _) _).setCell (p:=⟨w.heap.size,1,none⟩) (Nat.le_refl _) _).setCell (p:=⟨w.heap.size,2,none⟩) (Nat.le_refl _) _).setCell (p:=⟨w.heap.size,3,none⟩) (Nat.le_refl _) _).setCell (p:=⟨w.heap.size,4,none⟩) (Nat.le_refl _) _⟩
    ·subst e
     have HR:Hid (jhV (X0 s.data.toList p)= .tuple #[.agg #[.int .i64 0, .string ⟨#[]⟩, .int .i64 0, .int .i64 0, .int .i64 0], .int .i64 0]):=by rw[Hid,HJ.out];unfold Uj;rw[HFST.out,hk];rfl
     clear hk HOR2
     go_wp2_with fail
     refine Gq (Xac HXC.out) rfl rfl rfl ?_
     exact ⟨by rw[HR.out];rfl,((((HBC.out.setCell (p:=⟨w.heap.size,0,none⟩) (Nat.le_refl _) _).setCell (p:=⟨w.heap.size,1,none⟩) (Nat.le_refl _) _).setCell (p:=⟨w.heap.size,2,none⟩) (Nat.le_refl _) _).setCell (p:=⟨w.heap.size,3,none⟩) (Nat.le_refl _) _).setCell (p:=⟨w.heap.size,4,none⟩) (Nat.le_refl _) _⟩
  ·subst hB
   rw[hd0] at y1
   clear hd0
   obtain ⟨k2,t2,l2,fl2,r2,ok2,hlk,hor2⟩:=Xa9 mb c
   have hlk1:=hlk WB.drew HMPB.out
   have hlk2:=hlk ((WB.alloc (.cells #[.int .i64 0, .string ⟨#[]⟩, .int .i64 0, .int .i64 0, .int .i64 0] 91)).drew) ((heap_alloc_old WB _ hmbB).trans HMPB.out)
   clear hlk
   have HOR2:=Xa hor2
   clear hor2
   go_wp2_with fail
   go_region
   all_goals
    obtain ⟨WC,hWC⟩:∃WC,(WB.alloc (.cells #[.int .i64 k2, .string t2, .int .i64 l2, .int .i64 fl2, .int .i64 r2] 91)).drew=WC:=⟨_,rfl⟩
    rw[hWC]
    have hbC:Below WB.heap.size WB WC:=by rw[←hWC];exact ((Below.refl _ _).alloc (Nat.le_refl _) _).drew
    have hjC:WC.heap[WB.heap.size]? =some (.cells #[.int .i64 k2, .string t2, .int .i64 l2, .int .i64 fl2, .int .i64 r2] 91 (0,0)):=by rw[←hWC];exact heap_alloc_new WB _
    have HXC:Hid (WC.heap[w.heap.size]? =_):=(hbC.block _ (by omega)).trans HXB.out
    have HBC:=Xa (HBB.out.trans (hbC.mono (by omega)))
    have hzC:WB.heap.size<WC.heap.size:=by rw[←hWC];simp
    clear hWC hbC hlk1 hlk2 m3 y0 y1 u0 u1 u2 u3 u4 v0 v1 v2 v3 v4 j0 j1 j2 j3 j4
    have j0:=cellAt hjC (i:=0) rfl
    have j1:=cellAt hjC (i:=1) rfl
    have j2:=cellAt hjC (i:=2) rfl
    have j3:=cellAt hjC (i:=3) rfl
    have j4:=cellAt hjC (i:=4) rfl
    have u0:=cellAt HXC.out (i:=0) rfl
    have u1:=cellAt HXC.out (i:=1) rfl
    have u2:=cellAt HXC.out (i:=2) rfl
    have u3:=cellAt HXC.out (i:=3) rfl
    have u4:=cellAt HXC.out (i:=4) rfl
    have v0:WC.frozen? ⟨w.heap.size,0,none⟩=false:=Lib.frozen_of_heap HXC.out 0
    have v1:WC.frozen? ⟨w.heap.size,1,none⟩=false:=Lib.frozen_of_heap HXC.out 1
    have v2:WC.frozen? ⟨w.heap.size,2,none⟩=false:=Lib.frozen_of_heap HXC.out 2
    have v3:WC.frozen? ⟨w.heap.size,3,none⟩=false:=Lib.frozen_of_heap HXC.out 3
    have v4:WC.frozen? ⟨w.heap.size,4,none⟩=false:=Lib.frozen_of_heap HXC.out 4
    have hne2:¬w.heap.size=WB.heap.size:=by omega
    have hne3:¬WB.heap.size=w.heap.size:=by omega
    clear hjC
    rcases HOR2.out with ⟨e,hk,e1,e2,e3,e4⟩|⟨e,hk⟩
    ·subst e
     have HR:Hid (jhV (X0 s.data.toList p)= .tuple #[.agg #[.int .i64 k2, .string t2, .int .i64 l2, .int .i64 fl2, .int .i64 r2], .int .i64 1]):=by rw[Hid,HJ.out];unfold Uj;rw[HFST.out,hk,e1,e2,e3,e4];rfl
     clear hk e1 e2 e3 e4 HOR2
     go_wp2_with fail
     refine Gq (Xac HXC.out) rfl rfl rfl ?_
     exact ⟨by rw[HR.out];rfl,((((HBC.out.setCell (p:=⟨w.heap.size,0,none⟩) (Nat.le_refl _) _).setCell (p:=⟨w.heap.size,1,none⟩) (Nat.le_refl _) _).setCell (p:=⟨w.heap.size,2,none⟩) (Nat.le_refl _) _).setCell (p:=⟨w.heap.size,3,none⟩) (Nat.le_refl _) _).setCell (p:=⟨w.heap.size,4,none⟩) (Nat.le_refl _) _⟩
    ·subst e
     have HR:Hid (jhV (X0 s.data.toList p)= .tuple #[.agg #[.int .i64 0, .string ⟨#[]⟩, .int .i64 0, .int .i64 0, .int .i64 0], .int .i64 0]):=by rw[Hid,HJ.out];unfold Uj;rw[HFST.out,hk];rfl
     clear hk HOR2
     go_wp2_with fail
     refine Gq (Xac HXC.out) rfl rfl rfl ?_
     exact ⟨by rw[HR.out];rfl,((((HBC.out.setCell (p:=⟨w.heap.size,0,none⟩) (Nat.le_refl _) _).setCell (p:=⟨w.heap.size,1,none⟩) (Nat.le_refl _) _).setCell (p:=⟨w.heap.size,2,none⟩) (Nat.le_refl _) _).setCell (p:=⟨w.heap.size,3,none⟩) (Nat.le_refl _) _).setCell (p:=⟨w.heap.size,4,none⟩) (Nat.le_refl _) _⟩

set_option maxRecDepth 100000 in
theorem Xtz {rb base p:Nat} {Z:Nat→Prop} {s:ByteArray} {fs:List FN} {w:World} (h:LfAt w rb base Z s p false fs) (hs:s.size≤4000) (hl:fs.length≤40) (h1:Xe s.data.toList p 91=true):
  Calls Tryz.prog 113 #[.pointer (some ⟨rb,0,none⟩)] w (LfOr (Ym WSp s.data.toList fs p) rb base Z s p w):=by
 have HLN:=Xa (Xm s)
 have hlt:p<s.size:=by rw[←HLN.out];exact (Xl.1 h1).1
 have HE:Hid (Ym WSp s.data.toList fs p=Qo WSp s.data.toList fs (skF s.data.toList (p+1))):=by
  rw[Hid];unfold Ym
  rw[if_neg (fun e=>by unfold Yu at e;rw[(Xl.1 h1).2] at e;revert e;simp;intro _;decide),if_pos h1]
 obtain ⟨c0,c1,c2⟩:=h.cells
 have f1:=h.free 1
 have hple:=h.le
 have HF0:=Xa h
 have HB0:Hid (LB rb base Z w w):=LB.refl _ _ _ _
 clear h
 have hlt':(p:Int)<(s.size:Int):=by omega
 have HB:=Xa (byS hlt)
 obtain ⟨c,hc⟩:∃c,s[p].toNat=c:=⟨_,rfl⟩
 have HC:Hid (Xh s.data.toList p=c):=by rw[Hid,←HB.out];exact hc
 have n0:c=91:=by rw[←HC.out];exact (Xl.1 h1).2
 have n1:((c:Int)==91)=true:=by rw[n0];rfl
 have n2:(c:Int)=91:=by omega
 clear n0 h1
 go_enter Tryz.func113,Tryz.ntmps113
 go_wp2_with fail
 go_quiet (fail)
 have HD1:=Xa (Xq (w:=w) nq)
 have HF1:=Xa (HF0.out.below HD1.out)
 have HB1:=Xa (HB0.out.trans (LB.of_below HD1.out))
 clear c0 c1 c2 f1
 obtain ⟨c0,c1,c2⟩:=HF1.out.cells
 have f1:=HF1.out.free 1
 have lt1:=HF1.out.lt
 generalize w.drewN nq=W1 at HD1 HF1 HB1 c0 c1 c2 f1 lt1⊢
 clear nq
 have e1:((p+1:Nat):Int)=(p:Int)+1:=by omega
 have hset:=HF1.out.setP (q:=p+1) (by omega)
 have hbs:LB rb base Z w (W1.setCell ⟨rb,1,none⟩ (.int .i64 ((p:Int)+1))):=HB1.out.trans (LB.of_set 1 _)
 rw[e1] at hset
 have HI:=Xa (Zu 93 hset hs)
 have HB2:=Xa hbs
 have hsk:=Xw s.data.toList (p+1)
 obtain ⟨q,hq⟩:∃q,skF s.data.toList (p+1)=q:=⟨_,rfl⟩
 have HQI:Hid (skF s.data.toList q=q):=by rw[Hid,←hq];exact Yh _ _
 rw[hq] at HI HE hsk
 rw[show (93:UInt8).toNat=93 from rfl] at HI
 have hpq:p≤q:=by omega
 clear hset hbs e1 hq hsk
 cases hi:Xe s.data.toList q 93
 ·rw [hi] at HI
  have HE2:Hid (Qo WSp s.data.toList fs q=Qx WSp s.data.toList q fun n q=>Yj s.data.toList q 93 fun q=>Xu WSp ⟨3,ByteArray.empty,n,[],[],[]⟩ fs q):=by rw[Hid];unfold Qo;rw[if_neg (by rw[hi];simp)]
  clear hi
  go_wp2_with fail
  refine HI.out.mono ?_
  rintro e w2 ⟨rfl,h2,b2⟩
  have h2':LfAt w2 rb base Z s q false fs:=h2
  have HB3:=Xa (HB2.out.trans b2)
  have HN:=Xa (Xhj h2' hs)
  rw[HQI.out] at HN
  clear h2 h2' b2 c0 c1 c2 f1
  go_wp2_with fail
  refine HN.out.mono ?_
  rintro e w3 ⟨b3,n,rfl,⟨hd,h3⟩|⟨hd,rfl,h3⟩⟩
  ·have HB4:=Xa (HB3.out.trans b3)
   obtain ⟨D,hD⟩:∃D,dgJ s.data.toList (Yc s.data.toList q)=D:=⟨_,rfl⟩
   have hqD:q≤D:=by rw[←hD];exact Nat.le_trans (Wb _ _) (Zh _ _ _)
   have HR:Hid (Qo WSp s.data.toList fs q=Yj s.data.toList (skF s.data.toList D) 93 fun q=>Xu WSp ⟨3,ByteArray.empty,n,[],[],[]⟩ fs q):=by
    rw[Hid,HE2.out];unfold Qx;rw[show WSp.dec=Q6 from rfl,hd,hD]
   rw[hD] at h3
   have HWA:=Xa (Gi 93 h3 hs)
   have hsk:=Xw s.data.toList D
   obtain ⟨Q,hQ⟩:∃Q,skF s.data.toList D=Q:=⟨_,rfl⟩
   rw[hQ] at HWA HR hsk
   rw[show (93:UInt8).toNat=93 from rfl] at HWA
   have hpQ:p≤Q:=by omega
   clear h3 b3 hd hD hqD hsk hQ
   go_wp2_with fail
   refine HWA.out.mono ?_
   rintro e w4 ⟨rfl,b4,⟨_,hy,h4⟩|⟨hn,h4⟩⟩
   ·have HB5:=Xa (HB4.out.trans b4)
    have HY:Hid (Ym WSp s.data.toList fs p=Xu WSp ⟨3,ByteArray.empty,n,[],[],[]⟩ fs (skF s.data.toList (Q+1))):=by rw[Hid,HE.out,HR.out];unfold Yj;rw[if_pos hy]
    have HA:=Xa (Qn h4 (by omega) 3 ByteArray.empty n)
    clear h4 b4 hy
    go_wp2_with fail
    refine HA.out.mono ?_
    rintro e w9 ⟨rfl,h9,b9⟩
    have HF9:=Xa h9
    have HB9:=Xa (HB5.out.trans b9)
    clear h9 b9
    go_wp2_with fail
    go_ret
    exact LfOr.of HY.out (LfOr.add HF9.out hl (by omega) HB9.out)
   ·have HB5:=Xa (HB4.out.trans b4)
    have HY:Hid (Ym WSp s.data.toList fs p=none):=by
     rw[Hid,HE.out,HR.out];unfold Yj
     rcases hn with hn|hn
     ·cases hn
     ·rw[if_neg (by rw[hn];simp)]
    have HA:=Xa (Qn h4 (by omega) 3 ByteArray.empty n)
    clear h4 b4 hn
    go_wp2_with fail
    refine HA.out.mono ?_
    rintro e w9 ⟨rfl,h9,b9⟩
    have HF9:=Xa h9
    have HB9:=Xa (HB5.out.trans b9)
    clear h9 b9
    go_wp2_with fail
    go_ret
    exact LfOr.addB HY.out HF9.out (by omega) (by omega) HB9.out
  ·have HB4:=Xa (HB3.out.trans b3)
   have HY:Hid (Ym WSp s.data.toList fs p=none):=by
    rw[Hid,HE.out,HE2.out];unfold Qx;rw[show WSp.dec=Q6 from rfl,hd]
   have HWA:=Xa (Gi 93 h3 hs)
   rw[HQI.out] at HWA
   clear h3 b3 hd
   go_wp2_with fail
   refine HWA.out.mono ?_
   rintro e w4 ⟨rfl,b4,⟨hx,_,_⟩|⟨hn,h4⟩⟩
   ·cases hx
   ·have HB5:=Xa (HB4.out.trans b4)
    have HA:=Xa (Qn h4 (by omega) 3 ByteArray.empty 0)
    clear h4 b4 hn
    go_wp2_with fail
    refine HA.out.mono ?_
    rintro e w9 ⟨rfl,h9,b9⟩
    have HF9:=Xa h9
    have HB9:=Xa (HB5.out.trans b9)
    clear h9 b9
    go_wp2_with fail
    go_ret
    exact LfOr.addB HY.out HF9.out (by omega) (by omega) HB9.out
 ·rw[hi] at HI
  have HY:Hid (Ym WSp s.data.toList fs p=Xu WSp (Qw 4) fs (skF s.data.toList (q+1))):=by rw[Hid,HE.out];unfold Qo;rw[if_pos hi]
  clear hi
  go_wp2_with fail
  refine HI.out.mono ?_
  rintro e w2 ⟨rfl,h2,b2⟩
  have h2':LfAt w2 rb base Z s (q+1) false fs:=h2
  have HB3:=Xa (HB2.out.trans b2)
  have HA:=Xa (Qn h2' (by omega) 4 ByteArray.empty 0)
  clear h2 h2' b2 c0 c1 c2 f1
  go_wp2_with fail
  refine HA.out.mono ?_
  rintro e w9 ⟨rfl,h9,b9⟩
  have HF9:=Xa h9
  have HB9:=Xa (HB3.out.trans b9)
  clear h9 b9
  go_wp2_with fail
  go_ret
  exact LfOr.of HY.out (LfOr.add HF9.out hl (by omega) HB9.out)
theorem Xqy {rb base p:Nat} {Z:Nat→Prop} {s:ByteArray} {fs:List FN} {w:World} (h:LfAt w rb base Z s p false fs) (hs:s.size≤4000) (hl:fs.length≤40):
  Calls Tryz.prog 113 #[.pointer (some ⟨rb,0,none⟩)] w (LfOr (Ym WSp s.data.toList fs p) rb base Z s p w):=by
 cases h1:Xe s.data.toList p 91
 ·cases h2:Yu s.data.toList p
  ·exact Xox h hs hl h1 h2
  ·exact Xr4 h hs hl h2
 ·exact Xtz h hs hl h1

set_option maxRecDepth 100000 in
theorem Xko {rb base p:Nat} {Z:Nat→Prop} {s:ByteArray} {fs:List FN} {w:World} (h:LfAt w rb base Z s p true fs) (l:Int):
  Calls Tryz.prog 43 #[.pointer (some ⟨rb,0,none⟩), .int .i64 l] w fun e w'=>e= .returned (.int .i64 0)∧LfAt w' rb base Z s p true fs∧LB rb base Z w w':=by
 obtain ⟨c0,c1,c2⟩:=h.cells
 have HF0:=Xa h
 have HB0:Hid (LB rb base Z w w):=LB.refl _ _ _ _
 clear h
 go_enter Tryz.func43,Tryz.ntmps43
 go_wp2_with fail
 go_ret
 exact ⟨rfl,HF0.out,HB0.out⟩

abbrev CF:=Option (List FN×Nat)
def LfSt (r:CF) (rb base:Nat) (Z:Nat→Prop) (s:ByteArray) (p0:Nat) (w:World):Prop:=
 ∃(fs:List FN) (p:Nat),p0≤p∧((r=some (fs,skF s.data.toList p)∧LfAt w rb base Z s p false fs∧fs.length≤40)∨(r=none∧fs.length+p0≤42+p∧LfAt w rb base Z s p true fs))
theorem LfSt.good {fs:List FN} {rb base p p0:Nat} {Z:Nat→Prop} {s:ByteArray} {w:World} (h:LfAt w rb base Z s p false fs) (hl:fs.length≤40) (hp:p0≤p):LfSt (some (fs,skF s.data.toList p)) rb base Z s p0 w:=⟨fs,p,hp, .inl ⟨rfl,h,hl⟩⟩
theorem LfSt.bad {fs:List FN} {rb base p p0:Nat} {Z:Nat→Prop} {s:ByteArray} {w:World} (h:LfAt w rb base Z s p true fs) (hl:fs.length+p0≤42+p) (hp:p0≤p):LfSt none rb base Z s p0 w:=⟨fs,p,hp, .inr ⟨rfl,hl,h⟩⟩
theorem LfSt.of {r r':CF} {rb base p0:Nat} {Z:Nat→Prop} {s:ByteArray} {w:World} (e:r=r') (h:LfSt r rb base Z s p0 w):LfSt r' rb base Z s p0 w:=e▸h
theorem LfSt.less {r:CF} {rb base p0 p1:Nat} {Z:Nat→Prop} {s:ByteArray} {w:World} (h:LfSt r rb base Z s p0 w) (hp:p1≤p0):LfSt r rb base Z s p1 w:=by
 obtain ⟨fs,p,h1,h2|⟨h2,h3,h4⟩⟩:=h
 ·exact ⟨fs,p,by omega, .inl h2⟩
 ·exact ⟨fs,p,by omega, .inr ⟨h2,by omega,h4⟩⟩
theorem LfSt.fresh {r:CF} {rb base p0:Nat} {Z Z':Nat→Prop} {s:ByteArray} {w w':World} (h:LfSt r rb base Z s p0 w) (hb:Below w.heap.size w w') (hz:∀x,Z' x→Z x∨w.heap.size≤x) (hz2:∀x,Z' x→x<w'.heap.size):LfSt r rb base Z' s p0 w':=by
 obtain ⟨fs,p,h1,⟨h2,h3,h4⟩|⟨h2,h3,h4⟩⟩:=h
 ·exact ⟨fs,p,h1, .inl ⟨h2,h3.fresh hb hz hz2,h4⟩⟩
 ·exact ⟨fs,p,h1, .inr ⟨h2,h3,h4.fresh hb hz hz2⟩⟩
theorem LfSt.zb {r:CF} {rb base p0:Nat} {Z:Nat→Prop} {s:ByteArray} {w:World} (h:LfSt r rb base Z s p0 w):∀x,Z x→x<w.heap.size:=by
 obtain ⟨fs,p,h1,⟨h2,h3,h4⟩|⟨h2,h3,h4⟩⟩:=h
 ·exact h3.zb
 ·exact h4.zb
theorem LfSt.below {r:CF} {rb base p0:Nat} {Z:Nat→Prop} {s:ByteArray} {w w':World} (h:LfSt r rb base Z s p0 w) (hb:Below w.heap.size w w'):LfSt r rb base Z s p0 w':=h.fresh hb (fun x hx=> .inl hx) (fun x hx=>Nat.lt_of_lt_of_le (h.zb x hx) hb.size)
theorem LfSt.at {r:CF} {rb base p0:Nat} {Z:Nat→Prop} {s:ByteArray} {w:World} (h:LfSt r rb base Z s p0 w):∃b fs p,LfAt w rb base Z s p b fs∧p0≤p∧fs.length+p0≤42+p∧(b=true→r=none)∧(b=false→r=some (fs,skF s.data.toList p)∧fs.length≤40):=by
 obtain ⟨fs,p,h1,⟨h2,h3,h4⟩|⟨h2,h3,h4⟩⟩:=h
 ·exact ⟨false,fs,p,h3,h1,by omega,fun e=>(by cases e),fun _=>⟨h2,h4⟩⟩
 ·exact ⟨true,fs,p,h4,h1,h3,fun _=>h2,fun e=>by cases e⟩
theorem LfOr.st {r:RF} {rb base p0:Nat} {Z:Nat→Prop} {s:ByteArray} {w w':World} {e:Ending} (h:LfOr r rb base Z s p0 w e w'):∃n,e= .returned (.int .i64 n)∧LB rb base Z w w'∧LfSt (r.map (·.2)) rb base Z s p0 w'∧∀y,r=some y→y.1=n:=by
 obtain ⟨hb,n,fs,p,he,hp,⟨h1,h2,h3⟩|⟨h1,h2,h3⟩⟩:=h
 ·exact ⟨n,he,hb,⟨fs,p,hp, .inl ⟨by rw[h1];rfl,h2,h3⟩⟩,fun y hy=>by rw[h1] at hy;cases hy;rfl⟩
 ·exact ⟨n,he,hb,⟨fs,p,hp, .inr ⟨by rw[h1];rfl,h2,h3⟩⟩,fun y hy=>by rw[h1] at hy;cases hy⟩
theorem LfSt.or {r:CF} {r':RF} {n:Int} {rb base p0 p1:Nat} {Z:Nat→Prop} {s:ByteArray} {w w':World} (h:LfSt r rb base Z s p1 w') (hp:p0≤p1) (hb:LB rb base Z w w') (hr:r'=r.map fun x=>(n,x)):LfOr r' rb base Z s p0 w (.returned (.int .i64 n)) w':=by
 obtain ⟨fs,p,h1,⟨h2,h3,h4⟩|⟨h2,h3,h4⟩⟩:=h
 ·exact ⟨hb,n,fs,p,rfl,by omega, .inl ⟨by rw[hr,h2];rfl,h3,h4⟩⟩
 ·exact ⟨hb,n,fs,p,rfl,by omega, .inr ⟨by rw[hr,h2];rfl,by omega,h4⟩⟩
def Xgj (R:RD) (f rb base:Nat) (s:ByteArray):Prop:=∀(l:Int) (Z:Nat→Prop) (fs:List FN) (p:Nat) (w:World),1≤l→l≤6→(∀x,Z x→x<w.heap.size)→LfAt w rb base Z s p false fs→fs.length≤40→s.size<p+f→Calls Tryz.prog 43 #[.pointer (some ⟨rb,0,none⟩), .int .i64 l] w (LfOr (R l fs (skF s.data.toList p)) rb base Z s p w)
theorem Xcb {R:RD} {f rb base p0:Nat} {s:ByteArray} {r:CF} {Z:Nat→Prop} {w:World} (HR:Xgj R f rb base s) (l:Int) (h1:1≤l) (h6:l≤6) (hZ:∀x,Z x→x<w.heap.size) (hf:s.size<p0+f) (h:LfSt r rb base Z s p0 w):
  Calls Tryz.prog 43 #[.pointer (some ⟨rb,0,none⟩), .int .i64 l] w fun e w'=>∃n,e= .returned (.int .i64 n)∧LB rb base Z w w'∧LfSt (r.bind fun x=>(R l x.1 x.2).map (·.2)) rb base Z s p0 w'∧∀fs q y,r=some (fs,q)→R l fs q=some y→y.1=n:=by
 obtain ⟨fs,p,hp,⟨hr,ha,hl⟩|⟨hr,hl,ha⟩⟩:=h
 ·subst hr
  refine (HR l Z fs p w h1 h6 hZ ha hl (by omega)).mono ?_
  intro e w' h
  obtain ⟨n,he,hb,hs,hy⟩:=h.st
  exact ⟨n,he,hb,hs.less hp,fun fs' q y e1 e2=>by cases e1;exact hy y e2⟩
 ·subst hr
  refine (Xko ha l).mono ?_
  rintro e w' ⟨he,ha',hb⟩
  exact ⟨0,he,hb,LfSt.bad ha' hl hp,fun fs' q y e1=>by cases e1⟩
theorem Xbs {rb base p0:Nat} {s:ByteArray} {r:CF} {Z:Nat→Prop} {w:World} (c:UInt8) (hs:s.size≤4000) (h:LfSt r rb base Z s p0 w):
  Calls Tryz.prog 114 #[.pointer (some ⟨rb,0,none⟩), .string ⟨#[c]⟩] w fun e w'=>e= .returned (.tuple #[])∧LB rb base Z w w'∧LfSt (r.bind fun x=>if Xe s.data.toList x.2 c.toNat=true then some (x.1,skF s.data.toList (x.2+1)) else none) rb base Z s p0 w':=by
 obtain ⟨fs,p,hp,⟨hr,ha,hl⟩|⟨hr,hl,ha⟩⟩:=h
 ·have hsk:=Xw s.data.toList p
  subst hr
  refine (Gi c ha hs).mono ?_
  rintro e w' ⟨he,hb,⟨_,hy,h'⟩|⟨hn,h'⟩⟩
  ·refine ⟨he,hb,LfSt.of ?_ (LfSt.good h' hl (by omega))⟩
   show _=if Xe s.data.toList (skF s.data.toList p) c.toNat=true then _ else _
   rw[if_pos hy]
  ·refine ⟨he,hb,LfSt.of ?_ (LfSt.bad h' (by omega) (by omega))⟩
   show _=if Xe s.data.toList (skF s.data.toList p) c.toNat=true then _ else _
   rcases hn with hn|hn
   ·cases hn
   ·rw[if_neg (by rw[hn];simp)]
 ·have hsk:=Xw s.data.toList p
  subst hr
  refine (Gi c ha hs).mono ?_
  rintro e w' ⟨he,hb,⟨hx,_,h'⟩|⟨hn,h'⟩⟩
  ·cases hx
  ·exact ⟨he,hb,LfSt.bad h' (by omega) (by omega)⟩
theorem X0l {rb base p0:Nat} {s:ByteArray} {r:CF} {Z:Nat→Prop} {w:World} (c:UInt8) (hs:s.size≤4000) (h:LfSt r rb base Z s p0 w):
  Calls Tryz.prog 79 #[.pointer (some ⟨rb,0,none⟩), .string ⟨#[c]⟩] w fun e w'=>LB rb base Z w w'∧((e= .returned (.bool true)∧∃fs q,r=some (fs,q)∧Xe s.data.toList q c.toNat=true∧LfSt (some (fs,skF s.data.toList (q+1))) rb base Z s (p0+1) w')∨(e= .returned (.bool false)∧(∀fs q,r=some (fs,q)→Xe s.data.toList q c.toNat=false)∧LfSt r rb base Z s p0 w')):=by
 obtain ⟨fs,p,hp,⟨hr,ha,hl⟩|⟨hr,hl,ha⟩⟩:=h
 ·have hsk:=Xw s.data.toList p
  have hid:=Yh s.data.toList p
  subst hr
  refine (Zu c ha hs).mono ?_
  rintro e w' ⟨he,h',hb⟩
  cases hi:Xe s.data.toList (skF s.data.toList p) c.toNat
  ·rw[hi] at he h'
   have h2:LfAt w' rb base Z s (skF s.data.toList p) false fs:=h'
   refine ⟨hb, .inr ⟨he,fun fs' q e1=>(by cases e1;exact hi), ?_⟩⟩
   have:=LfSt.good (p0:=p0) h2 hl (by omega)
   rw[hid] at this
   exact this
  ·rw[hi] at he h'
   have h2:LfAt w' rb base Z s (skF s.data.toList p+1) false fs:=h'
   exact ⟨hb, .inl ⟨he,fs,_,rfl,hi,LfSt.good h2 hl (by omega)⟩⟩
 ·have hsk:=Xw s.data.toList p
  subst hr
  refine (Zu c ha hs).mono ?_
  rintro e w' ⟨he,h',hb⟩
  have h2:LfAt w' rb base Z s (skF s.data.toList p) true fs:=h'
  exact ⟨hb, .inr ⟨he,fun fs' q e1=>(by cases e1),LfSt.bad h2 (by omega) (by omega)⟩⟩
theorem Xgk {rb base p0:Nat} {s u:ByteArray} {r:CF} {Z:Nat→Prop} {w:World} (hs:s.size≤4000) (hu:∃c l,u.data.toList=c::l∧Yt c.toNat=true) (h:LfSt r rb base Z s p0 w):
  Calls Tryz.prog 156 #[.pointer (some ⟨rb,0,none⟩), .string u] w fun e w'=>e= .returned (.tuple #[])∧LB rb base Z w w'∧LfSt (r.bind fun x=>if X9 s.data.toList x.2=u.data.toList then some (x.1,skF s.data.toList (nmJ s.data.toList x.2)) else none) rb base Z s p0 w':=by
 obtain ⟨fs,p,hp,⟨hr,ha,hl⟩|⟨hr,hl,ha⟩⟩:=h
 ·have hsk:=Xw s.data.toList p
  subst hr
  refine (Xfh ha hs hu).mono ?_
  rintro e w' ⟨he,hb,⟨_,hy,h'⟩|⟨hn,p',hp',h'⟩⟩
  ·refine ⟨he,hb,LfSt.of ?_ (LfSt.good h' hl (Nat.le_trans (show p0≤skF s.data.toList p by omega) (Zh _ _ _)))⟩
   show _=if X9 s.data.toList (skF s.data.toList p)=u.data.toList then _ else _
   rw[if_pos hy]
  ·refine ⟨he,hb,LfSt.of ?_ (LfSt.bad h' (by omega) (by omega))⟩
   show _=if X9 s.data.toList (skF s.data.toList p)=u.data.toList then _ else _
   rcases hn with hn|hn
   ·cases hn
   ·rw[if_neg hn]
 ·subst hr
  refine (Xfh ha hs hu).mono ?_
  rintro e w' ⟨he,hb,⟨hx,_,h'⟩|⟨hn,p',hp',h'⟩⟩
  ·cases hx
  ·exact ⟨he,hb,LfSt.bad h' (by omega) (by omega)⟩
theorem Xw0 {rb base p0:Nat} {s:ByteArray} {r:CF} {Z:Nat→Prop} {w:World} (hs:s.size≤4000) (h:LfSt r rb base Z s p0 w):
  Calls Tryz.prog 119 #[.pointer (some ⟨rb,0,none⟩)] w fun e w'=>∃T,e= .returned (.string T)∧LB rb base Z w w'∧LfSt (r.bind fun x=>some (x.1,skF s.data.toList (wdJ s.data.toList x.2))) rb base Z s p0 w'∧∀fs q,r=some (fs,q)→T=txt ((s.data.toList.drop q).take (wdJ s.data.toList q-q)):=by
 have hwd:∀q,q≤wdJ s.data.toList q:=fun q=>by
  unfold wdJ;split
  ·exact Zh _ _ _
  ·exact Nat.le_refl _
 obtain ⟨fs,p,hp,⟨hr,ha,hl⟩|⟨hr,hl,ha⟩⟩:=h
 ·have hsk:=Xw s.data.toList p
  have hw2:=hwd (skF s.data.toList p)
  subst hr
  refine (Uv ha hs).mono ?_
  rintro e w' ⟨hb,he,h'⟩
  rw[if_neg (by decide)] at he h'
  exact ⟨_,he,hb,LfSt.good h' hl (show p0≤wdJ s.data.toList (skF s.data.toList p) by omega),fun fs' q e1=>by cases e1;rfl⟩
 ·have hsk:=Xw s.data.toList p
  subst hr
  refine (Uv ha hs).mono ?_
  rintro e w' ⟨hb,he,h'⟩
  rw[if_pos rfl] at he h'
  exact ⟨_,he,hb,LfSt.bad h' (by omega) (by omega),fun fs' q e1=>by cases e1⟩
theorem Xgl {rb base p0 p1:Nat} {s:ByteArray} {r:CF} {Z:Nat→Prop} {w:World} (h:LfSt r rb base Z s p1 w) (hs:s.size≤1000) (hp:p0+1≤p1) (hZ:∀x,Z x→x<w.heap.size) (k:Int) (ks:List Int) (hn:ks.length≤1000):
  Calls Tryz.prog 80 #[.pointer (some ⟨rb,0,none⟩), .agg #[.int .i64 k, .string ByteArray.empty, .int .i64 0, .slice none 0 0, .slice none 0 0, .slice (some ⟨w.heap.size,0,none⟩) ks.length ks.length]] (w.alloc (.cells (ks.map (Value.int .i64)).toArray 2)) (LfOr (r.bind fun x=>Xu WSp (Yw k ks) x.1 x.2) rb base Z s p0 w):=by
 obtain ⟨fs,p,hp1,⟨hr,ha,hl⟩|⟨hr,hl,ha⟩⟩:=h
 ·subst hr
  refine (Xad ha hZ (by omega) k ks hn).mono ?_
  rintro e w' ⟨rfl,h',hb⟩
  exact LfOr.add h' hl (by omega) hb
 ·subst hr
  have:=ha.le
  refine (Xad ha hZ (by omega) k ks hn).mono ?_
  rintro e w' ⟨rfl,h',hb⟩
  exact LfOr.addB rfl h' (by omega) (by omega) hb

theorem Va {rb base p:Nat} {Z:Nat→Prop} {s:ByteArray} {bad:Bool} {fs:List FN} {w w1:World} {k n:Int} {t:ByteArray} (h:LfAt w rb base Z s p bad fs) (hZ:∀x,Z x→x<w.heap.size) (hl:fs.length≤4000) (hb:Below w.heap.size w w1) (hn:Nest w.heap.size w1 (.slice (some ⟨w.heap.size,0,none⟩) 1 1) (U1 k n t) (fun _=> .slice none 0 0) (fun _=> .slice none 0 0)):
  Calls Tryz.prog 117 #[.pointer (some ⟨rb,0,none⟩), .slice (some ⟨w.heap.size,0,none⟩) 1 1] w1 fun e w'=>e= .returned (.int .i64 (fs.length:Int))∧LfAt w' rb base Z s p (bad||decide (40<fs.length+1)) (fs++ [Zt ⟨k,n,t,[],[]⟩])∧LB rb base Z w w':=by
 refine (Xkm (Z:=fun x=>Z x∨x=w.heap.size) (Z':=Z) (v:=⟨k,n,t,[],[]⟩) (h.fresh hb (fun x hx=>by rcases hx with hx|hx;exact .inl hx;exact .inr (by omega)) (fun x hx=>by rcases hx with hx|hx;have:=hZ x hx;have:=hb.size;omega;exact hx▸(hn.row.lt _ rfl).2)) (Xu8 hn h.sz) (fun y hy=> ?_) (fun y hy=>⟨.inl hy,fun e=> ?_⟩) hl).mono ?_
 ·simp[Value.ownBlock] at hy;exact .inr hy.symm
 ·simp[Value.ownBlock] at e;have:=hZ y hy;omega
 ·rintro e w' ⟨rfl,h1,h2⟩
  exact ⟨rfl,h1,(LB.of_below hb).trans (h2.mono fun x hx=> .inl hx)⟩

theorem Xk2 {R:RD} {L:List UInt8} {w:List UInt8} {fs:List FN} {p:Nat} (h_null:w≠ [110,117,108,108]) (h_true:w≠ [116,114,117,101]) (h_false:w≠ [102,97,108,115,101]) (h_length:w≠ [108,101,110,103,116,104]) (h_keys:w≠ [107,101,121,115]) (h_not:w≠ [110,111,116]) (h_empty:w≠ [101,109,112,116,121]) (h_select:w≠ [115,101,108,101,99,116]) (h_if:w≠ [105,102]):X4 WSp R L w fs p=none:=by
 unfold X4
 rw[if_neg (show w≠Xic from h_null),if_neg (show w≠Xid from h_true),if_neg (show w≠Xfl from h_false),if_neg h_select,if_neg h_if,if_neg h_length,if_neg h_keys,if_neg h_not,if_neg h_empty]
theorem Xi6 {L:List UInt8} {w:List UInt8} {q:Nat} {k:Nat→RF} (h:X9 L q=w):Jn L w q k=k (skF L (nmJ L q)):=by unfold Jn;rw[if_pos h]
theorem Xi7 {L:List UInt8} {w:List UInt8} {q:Nat} {k:Nat→RF} (h:X9 L q≠w):Jn L w q k=none:=by unfold Jn;rw[if_neg h]
theorem Xyy {R:RD} {L:List UInt8} {fs:List FN} {p:Nat} {a b c:Int} {ra rb' rc:CF} {sa sb se:CF}
  (ha:ra=(R 1 fs p).map (·.2)) (hn:∀y,R 1 fs p=some y→y.1=a) (hsa:sa=ra.bind fun x=>if X9 L x.2= [116,104,101,110] then some (x.1,skF L (nmJ L x.2)) else none)
  (hb:rb'=sa.bind fun x=>(R 1 x.1 x.2).map (·.2)) (hnb:∀fs q y,sa=some (fs,q)→R 1 fs q=some y→y.1=b) (hsb:sb=rb'.bind fun x=>if X9 L x.2= [101,108,115,101] then some (x.1,skF L (nmJ L x.2)) else none)
  (hc:rc=sb.bind fun x=>(R 1 x.1 x.2).map (·.2)) (hnc:∀fs q y,sb=some (fs,q)→R 1 fs q=some y→y.1=c) (hse:se=rc.bind fun x=>if X9 L x.2= [101,110,100] then some (x.1,skF L (nmJ L x.2)) else none):
  ifF WSp R L fs p=se.bind fun x=>Xu WSp (Yw 22 [a,b,c]) x.1 x.2:=by
 unfold ifF
 cases h1:R 1 fs p with
 |none=>rw[h1] at ha;subst ha;subst hsa;subst hb;subst hsb;subst hc;subst hse;rfl
 | some y =>
  obtain ⟨a',f1,q1⟩:=y
  obtain rfl:a'=a:=hn _ h1
  rw[h1] at ha
  subst ha
  rw[X2]
  by_cases e1:X9 L q1= [116,104,101,110]
  ·rw [Xi6 e1]
   obtain rfl:sa=some (f1,skF L (nmJ L q1)):=by rw[hsa];show (if _ then _ else _)=_;rw[if_pos e1]
   clear hsa
   cases h2:R 1 f1 (skF L (nmJ L q1)) with
   | none =>
    have:rb'=none:=by rw[hb];show (R 1 f1 (skF L (nmJ L q1))).map (·.2)=none;rw[h2];rfl
    subst this;subst hsb;subst hc;subst hse;rw[Jm];rfl
   | some y =>
    obtain ⟨b',f2,q2⟩:=y
    obtain rfl:b'=b:=hnb _ _ _ rfl h2
    obtain rfl:rb'=some (f2,q2):=by rw[hb];show (R 1 f1 (skF L (nmJ L q1))).map (·.2)=_;rw[h2];rfl
    clear hb
    rw[X2]
    by_cases e2:X9 L q2= [101,108,115,101]
    ·rw[Xi6 e2]
     obtain rfl:sb=some (f2,skF L (nmJ L q2)):=by rw[hsb];show (if _ then _ else _)=_;rw[if_pos e2]
     clear hsb
     cases h3:R 1 f2 (skF L (nmJ L q2)) with
     | none =>
      have:rc=none:=by rw[hc];show (R 1 f2 (skF L (nmJ L q2))).map (·.2)=none;rw[h3];rfl
      subst this;subst hse;rfl
     | some y =>
      obtain ⟨c',f3,q3⟩:=y
      obtain rfl:c'=c:=hnc _ _ _ rfl h3
      obtain rfl:rc=some (f3,q3):=by rw[hc];show (R 1 f2 (skF L (nmJ L q2))).map (·.2)=_;rw[h3];rfl
      clear hc
      rw[X2]
      by_cases e3:X9 L q3= [101,110,100]
      ·rw[Xi6 e3]
       obtain rfl:se=some (f3,skF L (nmJ L q3)):=by rw[hse];show (if _ then _ else _)=_;rw[if_pos e3]
       rfl
      ·rw[Xi7 e3]
       have:se=none:=by rw[hse];show (if _ then _ else _)=_;rw[if_neg e3]
       rw[this];rfl
    ·rw[Xi7 e2]
     have:sb=none:=by rw[hsb];show (if _ then _ else _)=_;rw[if_neg e2]
     subst this;subst hc;subst hse;rfl
  ·rw[Xi7 e1]
   have:sa=none:=by rw[hsa];show (if _ then _ else _)=_;rw[if_neg e1]
   subst this;subst hb;subst hsb;subst hc;subst hse;rfl
theorem Xb9 {R:RD} {L:List UInt8} {c:Nat} {fs:List FN} {p:Nat} {a:Int} {ra se:CF}
  (ha:ra=(R 1 fs p).map (·.2)) (hn:∀y,R 1 fs p=some y→y.1=a) (hse:se=ra.bind fun x=>if Xe L x.2 c=true then some (x.1,skF L (x.2+1)) else none):
  Zl R L c fs p=se.map fun x=>(a,x):=by
 unfold Zl
 cases h1:R 1 fs p with
 |none=>rw[h1] at ha;subst ha;subst hse;rfl
 | some y =>
  obtain ⟨a',f1,q1⟩:=y
  obtain rfl:a'=a:=hn _ h1
  rw[h1] at ha
  subst ha
  rw[X2]
  unfold Yj
  by_cases e1:Xe L q1 c=true
  ·rw[if_pos e1]
   have:se=some (f1,skF L (q1+1)):=by rw[hse];show (if _ then _ else _)=_;rw[if_pos e1]
   rw[this];rfl
  ·rw[if_neg e1]
   have:se=none:=by rw[hse];show (if _ then _ else _)=_;rw[if_neg e1]
   rw[this];rfl
theorem Xhf {a:CF} {n:Int} {k:Int→List FN→Nat→RF}:Xy (a.map fun x=>(n,x)) k=a.bind fun x=>k n x.1 x.2:=by
 cases a with
 |none=>rfl
 |some x=>rfl
theorem Xi8 {L:List UInt8} {q c:Nat} {k:Nat→RF} (h:Xe L q c=true):Yj L q c k=k (skF L (q+1)):=by unfold Yj;rw[if_pos h]
theorem Xi9 {L:List UInt8} {q c:Nat} {k:Nat→RF} (h:¬Xe L q c=true):Yj L q c k=none:=by unfold Yj;rw[if_neg h]
theorem Xwy {R:RD} {L:List UInt8} {fs:List FN} {p:Nat} {n:Int} {c1 c2 c3:CF} (h1:c1=if Xe L p 40=true then some (fs,skF L (p+1)) else none) (h2:c2=c1.bind fun x=>(R 1 x.1 x.2).map (·.2))
  (hn:∀fs q y,c1=some (fs,q)→R 1 fs q=some y→y.1=n) (h3:c3=c2.bind fun x=>if Xe L x.2 41=true then some (x.1,skF L (x.2+1)) else none):
  Vy WSp R L fs p=c3.bind fun x=>Xu WSp (Yw 10 [n]) x.1 x.2:=by
 unfold Vy
 by_cases e:Xe L p 40=true
 ·rw[if_pos e] at h1
  have ha:=Xb9 (c:=41) (ra:=c2) (se:=c3) (a:=n) (by rw[h2,h1];rfl) (fun y hy=>hn _ _ y h1 hy) h3
  rw[Xi8 e,ha,Xhf]
 ·rw[if_neg e] at h1
  subst h1;subst h2;subst h3
  rw[Xi9 e];rfl
section
variable {R:RD} {f rb base:Nat} {s:ByteArray} (HR:Xgj R f rb base s)
include HR
set_option maxRecDepth 100000 in
theorem Xja {p:Nat} {Z:Nat→Prop} {fs:List FN} {w:World} {T:ByteArray} (h:LfAt w rb base Z s p false fs) (hZ:∀x,Z x→x<w.heap.size) (hs:s.size≤1000) (hl:fs.length≤40) (hf:s.size<p+f) (hp:1≤p) (HTW:T.data.toList= [110,117,108,108]):
  Calls Tryz.prog 120 #[.pointer (some ⟨rb,0,none⟩), .string T] w (LfOr (X4 WSp R s.data.toList T.data.toList fs (skF s.data.toList p)) rb base Z s (p-1) w):=by
 have HT:Hid (T.toList=T.data.toList):=by rw[Hid,ByteArray.toList_eq]
 have HF0:=Xa h
 have HZ:Hid (∀x,Z x→x<w.heap.size):=hZ
 have HHR:=Xa HR
 have HE:Hid (X4 WSp R s.data.toList T.data.toList fs (skF s.data.toList p)=Xu WSp (Zt ⟨1,0,ByteArray.empty,[],[]⟩) fs (skF s.data.toList p)):=by rw[Hid,HTW];rfl
 have q_null:(T.toList== [110,117,108,108])=true:=by rw[HT.out,HTW];rfl
 clear h hZ HR HTW
 go_enter Tryz.func120,Tryz.ntmps120
 go_wp2_with fail
 refine (Xr3 w).mono ?_
 rintro e w1 ⟨rfl,hn,b1⟩
 have HC:=Xa (Va HF0.out HZ.out (by omega) b1 hn)
 clear hn b1
 go_wp2_with fail
 refine HC.out.mono ?_
 rintro e w9 ⟨rfl,h9,b9⟩
 have HF9:=Xa h9
 have HB9:=Xa b9
 clear h9 b9
 go_wp2_with fail
 go_ret
 exact LfOr.of HE.out (LfOr.add HF9.out hl (by omega) HB9.out)
set_option maxRecDepth 100000 in
theorem Xjb {p:Nat} {Z:Nat→Prop} {fs:List FN} {w:World} {T:ByteArray} (h:LfAt w rb base Z s p false fs) (hZ:∀x,Z x→x<w.heap.size) (hs:s.size≤1000) (hl:fs.length≤40) (hf:s.size<p+f) (hp:1≤p) (HTW:T.data.toList= [116,114,117,101]):
  Calls Tryz.prog 120 #[.pointer (some ⟨rb,0,none⟩), .string T] w (LfOr (X4 WSp R s.data.toList T.data.toList fs (skF s.data.toList p)) rb base Z s (p-1) w):=by
 have HT:Hid (T.toList=T.data.toList):=by rw[Hid,ByteArray.toList_eq]
 have HF0:=Xa h
 have HZ:Hid (∀x,Z x→x<w.heap.size):=hZ
 have HHR:=Xa HR
 have HE:Hid (X4 WSp R s.data.toList T.data.toList fs (skF s.data.toList p)=Xu WSp (Zt ⟨2,1,ByteArray.empty,[],[]⟩) fs (skF s.data.toList p)):=by rw[Hid,HTW];rfl
 have q_null:(T.toList== [110,117,108,108])=false:=by rw[HT.out,HTW];rfl
 have q_true:(T.toList== [116,114,117,101])=true:=by rw[HT.out,HTW];rfl
 clear h hZ HR HTW
 go_enter Tryz.func120,Tryz.ntmps120
 go_wp2_with fail
 refine (Xhr true w).mono ?_
 rintro e w1 ⟨rfl,hn,b1⟩
 have HC:=Xa (Va HF0.out HZ.out (by omega) b1 hn)
 clear hn b1
 go_wp2_with fail
 refine HC.out.mono ?_
 rintro e w9 ⟨rfl,h9,b9⟩
 have HF9:=Xa h9
 have HB9:=Xa b9
 clear h9 b9
 go_wp2_with fail
 go_ret
 exact LfOr.of HE.out (LfOr.add HF9.out hl (by omega) HB9.out)
set_option maxRecDepth 100000 in
theorem Xhx {p:Nat} {Z:Nat→Prop} {fs:List FN} {w:World} {T:ByteArray} (h:LfAt w rb base Z s p false fs) (hZ:∀x,Z x→x<w.heap.size) (hs:s.size≤1000) (hl:fs.length≤40) (hf:s.size<p+f) (hp:1≤p) (HTW:T.data.toList= [102,97,108,115,101]):
  Calls Tryz.prog 120 #[.pointer (some ⟨rb,0,none⟩), .string T] w (LfOr (X4 WSp R s.data.toList T.data.toList fs (skF s.data.toList p)) rb base Z s (p-1) w):=by
 have HT:Hid (T.toList=T.data.toList):=by rw[Hid,ByteArray.toList_eq]
 have HF0:=Xa h
 have HZ:Hid (∀x,Z x→x<w.heap.size):=hZ
 have HHR:=Xa HR
 have HE:Hid (X4 WSp R s.data.toList T.data.toList fs (skF s.data.toList p)=Xu WSp (Zt ⟨2,0,ByteArray.empty,[],[]⟩) fs (skF s.data.toList p)):=by rw[Hid,HTW];rfl
 have q_null:(T.toList== [110,117,108,108])=false:=by rw[HT.out,HTW];rfl
 have q_true:(T.toList== [116,114,117,101])=false:=by rw[HT.out,HTW];rfl
 have q_false:(T.toList== [102,97,108,115,101])=true:=by rw[HT.out,HTW];rfl
 clear h hZ HR HTW
 go_enter Tryz.func120,Tryz.ntmps120
 go_wp2_with fail
 refine (Xhr false w).mono ?_
 rintro e w1 ⟨rfl,hn,b1⟩
 have HC:=Xa (Va HF0.out HZ.out (by omega) b1 hn)
 clear hn b1
 go_wp2_with fail
 refine HC.out.mono ?_
 rintro e w9 ⟨rfl,h9,b9⟩
 have HF9:=Xa h9
 have HB9:=Xa b9
 clear h9 b9
 go_wp2_with fail
 go_ret
 exact LfOr.of HE.out (LfOr.add HF9.out hl (by omega) HB9.out)
set_option maxRecDepth 100000 in
theorem Xgg {p:Nat} {Z:Nat→Prop} {fs:List FN} {w:World} {T:ByteArray} (h:LfAt w rb base Z s p false fs) (hZ:∀x,Z x→x<w.heap.size) (hs:s.size≤1000) (hl:fs.length≤40) (hf:s.size<p+f) (hp:1≤p) (HTW:T.data.toList= [108,101,110,103,116,104]):
  Calls Tryz.prog 120 #[.pointer (some ⟨rb,0,none⟩), .string T] w (LfOr (X4 WSp R s.data.toList T.data.toList fs (skF s.data.toList p)) rb base Z s (p-1) w):=by
 have HT:Hid (T.toList=T.data.toList):=by rw[Hid,ByteArray.toList_eq]
 have HF0:=Xa h
 have HZ:Hid (∀x,Z x→x<w.heap.size):=hZ
 have HHR:=Xa HR
 have HE:Hid (X4 WSp R s.data.toList T.data.toList fs (skF s.data.toList p)=Xu WSp (Qw 11) fs (skF s.data.toList p)):=by rw[Hid,HTW];rfl
 have q_null:(T.toList== [110,117,108,108])=false:=by rw[HT.out,HTW];rfl
 have q_true:(T.toList== [116,114,117,101])=false:=by rw[HT.out,HTW];rfl
 have q_false:(T.toList== [102,97,108,115,101])=false:=by rw[HT.out,HTW];rfl
 have q_length:(T.toList== [108,101,110,103,116,104])=true:=by rw[HT.out,HTW];rfl
 clear h hZ HR HTW
 go_enter Tryz.func120,Tryz.ntmps120
 have HA:=Xa (Qn HF0.out (by omega) 11 ByteArray.empty 0)
 go_wp2_with fail
 refine HA.out.mono ?_
 rintro e w9 ⟨rfl,h9,b9⟩
 have HF9:=Xa h9
 have HB9:=Xa b9
 clear h9 b9
 go_wp2_with fail
 go_ret
 exact LfOr.of HE.out (LfOr.add HF9.out hl (by omega) HB9.out)
set_option maxRecDepth 100000 in
theorem Xjc {p:Nat} {Z:Nat→Prop} {fs:List FN} {w:World} {T:ByteArray} (h:LfAt w rb base Z s p false fs) (hZ:∀x,Z x→x<w.heap.size) (hs:s.size≤1000) (hl:fs.length≤40) (hf:s.size<p+f) (hp:1≤p) (HTW:T.data.toList= [107,101,121,115]):
  Calls Tryz.prog 120 #[.pointer (some ⟨rb,0,none⟩), .string T] w (LfOr (X4 WSp R s.data.toList T.data.toList fs (skF s.data.toList p)) rb base Z s (p-1) w):=by
 have HT:Hid (T.toList=T.data.toList):=by rw[Hid,ByteArray.toList_eq]
 have HF0:=Xa h
 have HZ:Hid (∀x,Z x→x<w.heap.size):=hZ
 have HHR:=Xa HR
 have HE:Hid (X4 WSp R s.data.toList T.data.toList fs (skF s.data.toList p)=Xu WSp (Qw 12) fs (skF s.data.toList p)):=by rw[Hid,HTW];rfl
 have q_null:(T.toList== [110,117,108,108])=false:=by rw[HT.out,HTW];rfl
 have q_true:(T.toList== [116,114,117,101])=false:=by rw[HT.out,HTW];rfl
 have q_false:(T.toList== [102,97,108,115,101])=false:=by rw[HT.out,HTW];rfl
 have q_length:(T.toList== [108,101,110,103,116,104])=false:=by rw[HT.out,HTW];rfl
 have q_keys:(T.toList== [107,101,121,115])=true:=by rw[HT.out,HTW];rfl
 clear h hZ HR HTW
 go_enter Tryz.func120,Tryz.ntmps120
 have HA:=Xa (Qn HF0.out (by omega) 12 ByteArray.empty 0)
 go_wp2_with fail
 refine HA.out.mono ?_
 rintro e w9 ⟨rfl,h9,b9⟩
 have HF9:=Xa h9
 have HB9:=Xa b9
 clear h9 b9
 go_wp2_with fail
 go_ret
 exact LfOr.of HE.out (LfOr.add HF9.out hl (by omega) HB9.out)
set_option maxRecDepth 100000 in
theorem Xk3 {p:Nat} {Z:Nat→Prop} {fs:List FN} {w:World} {T:ByteArray} (h:LfAt w rb base Z s p false fs) (hZ:∀x,Z x→x<w.heap.size) (hs:s.size≤1000) (hl:fs.length≤40) (hf:s.size<p+f) (hp:1≤p) (HTW:T.data.toList= [110,111,116]):
  Calls Tryz.prog 120 #[.pointer (some ⟨rb,0,none⟩), .string T] w (LfOr (X4 WSp R s.data.toList T.data.toList fs (skF s.data.toList p)) rb base Z s (p-1) w):=by
 have HT:Hid (T.toList=T.data.toList):=by rw[Hid,ByteArray.toList_eq]
 have HF0:=Xa h
 have HZ:Hid (∀x,Z x→x<w.heap.size):=hZ
 have HHR:=Xa HR
 have HE:Hid (X4 WSp R s.data.toList T.data.toList fs (skF s.data.toList p)=Xu WSp (Qw 13) fs (skF s.data.toList p)):=by rw[Hid,HTW];rfl
 have q_null:(T.toList== [110,117,108,108])=false:=by rw[HT.out,HTW];rfl
 have q_true:(T.toList== [116,114,117,101])=false:=by rw[HT.out,HTW];rfl
 have q_false:(T.toList== [102,97,108,115,101])=false:=by rw[HT.out,HTW];rfl
 have q_length:(T.toList== [108,101,110,103,116,104])=false:=by rw[HT.out,HTW];rfl
 have q_keys:(T.toList== [107,101,121,115])=false:=by rw[HT.out,HTW];rfl
 have q_not:(T.toList== [110,111,116])=true:=by rw[HT.out,HTW];rfl
 clear h hZ HR HTW
 go_enter Tryz.func120,Tryz.ntmps120
 have HA:=Xa (Qn HF0.out (by omega) 13 ByteArray.empty 0)
 go_wp2_with fail
 refine HA.out.mono ?_
 rintro e w9 ⟨rfl,h9,b9⟩
 have HF9:=Xa h9
 have HB9:=Xa b9
 clear h9 b9
 go_wp2_with fail
 go_ret
 exact LfOr.of HE.out (LfOr.add HF9.out hl (by omega) HB9.out)
set_option maxRecDepth 100000 in
theorem Xhy {p:Nat} {Z:Nat→Prop} {fs:List FN} {w:World} {T:ByteArray} (h:LfAt w rb base Z s p false fs) (hZ:∀x,Z x→x<w.heap.size) (hs:s.size≤1000) (hl:fs.length≤40) (hf:s.size<p+f) (hp:1≤p) (HTW:T.data.toList= [101,109,112,116,121]):
  Calls Tryz.prog 120 #[.pointer (some ⟨rb,0,none⟩), .string T] w (LfOr (X4 WSp R s.data.toList T.data.toList fs (skF s.data.toList p)) rb base Z s (p-1) w):=by
 have HT:Hid (T.toList=T.data.toList):=by rw[Hid,ByteArray.toList_eq]
 have HF0:=Xa h
 have HZ:Hid (∀x,Z x→x<w.heap.size):=hZ
 have HHR:=Xa HR
 have HE:Hid (X4 WSp R s.data.toList T.data.toList fs (skF s.data.toList p)=Xu WSp (Qw 14) fs (skF s.data.toList p)):=by rw[Hid,HTW];rfl
 have q_null:(T.toList== [110,117,108,108])=false:=by rw[HT.out,HTW];rfl
 have q_true:(T.toList== [116,114,117,101])=false:=by rw[HT.out,HTW];rfl
 have q_false:(T.toList== [102,97,108,115,101])=false:=by rw[HT.out,HTW];rfl
 have q_length:(T.toList== [108,101,110,103,116,104])=false:=by rw[HT.out,HTW];rfl
 have q_keys:(T.toList== [107,101,121,115])=false:=by rw[HT.out,HTW];rfl
 have q_not:(T.toList== [110,111,116])=false:=by rw[HT.out,HTW];rfl
 have q_empty:(T.toList== [101,109,112,116,121])=true:=by rw[HT.out,HTW];rfl
 clear h hZ HR HTW
 go_enter Tryz.func120,Tryz.ntmps120
 have HA:=Xa (Qn HF0.out (by omega) 14 ByteArray.empty 0)
 go_wp2_with fail
 refine HA.out.mono ?_
 rintro e w9 ⟨rfl,h9,b9⟩
 have HF9:=Xa h9
 have HB9:=Xa b9
 clear h9 b9
 go_wp2_with fail
 go_ret
 exact LfOr.of HE.out (LfOr.add HF9.out hl (by omega) HB9.out)
set_option maxRecDepth 100000 in
theorem Xgh {p:Nat} {Z:Nat→Prop} {fs:List FN} {w:World} {T:ByteArray} (h:LfAt w rb base Z s p false fs) (hZ:∀x,Z x→x<w.heap.size) (hs:s.size≤1000) (hl:fs.length≤40) (hf:s.size<p+f) (hp:1≤p) (HTW:T.data.toList= [115,101,108,101,99,116]):
  Calls Tryz.prog 120 #[.pointer (some ⟨rb,0,none⟩), .string T] w (LfOr (X4 WSp R s.data.toList T.data.toList fs (skF s.data.toList p)) rb base Z s (p-1) w):=by
 have HT:Hid (T.toList=T.data.toList):=by rw[Hid,ByteArray.toList_eq]
 have HF0:=Xa h
 have HZ:Hid (∀x,Z x→x<w.heap.size):=hZ
 have HHR:=Xa HR
 have HE:Hid (X4 WSp R s.data.toList T.data.toList fs (skF s.data.toList p)=Vy WSp R s.data.toList fs (skF s.data.toList p)):=by rw[Hid,HTW];rfl
 have q_null:(T.toList== [110,117,108,108])=false:=by rw[HT.out,HTW];rfl
 have q_true:(T.toList== [116,114,117,101])=false:=by rw[HT.out,HTW];rfl
 have q_false:(T.toList== [102,97,108,115,101])=false:=by rw[HT.out,HTW];rfl
 have q_length:(T.toList== [108,101,110,103,116,104])=false:=by rw[HT.out,HTW];rfl
 have q_keys:(T.toList== [107,101,121,115])=false:=by rw[HT.out,HTW];rfl
 have q_not:(T.toList== [110,111,116])=false:=by rw[HT.out,HTW];rfl
 have q_empty:(T.toList== [101,109,112,116,121])=false:=by rw[HT.out,HTW];rfl
 have q_select:(T.toList== [115,101,108,101,99,116])=true:=by rw[HT.out,HTW];rfl
 clear h hZ HR HTW
 go_enter Tryz.func120,Tryz.ntmps120
 have HS0:=Xa (LfSt.good (p0:=p) HF0.out hl (Nat.le_refl _))
 have HW:=Xa (Xbs 40 (by omega) HS0.out)
 go_wp2_with fail
 refine HW.out.mono ?_
 rintro e w1 ⟨rfl,b1,s1⟩
 have HB1:=Xa b1
 have HZ1:Hid (∀x,Z x→x<w1.heap.size):=fun x hx=>Nat.lt_of_lt_of_le (HZ.out x hx) b1.size
 obtain ⟨c1,hc1⟩:∃c1:CF,((some (fs,skF s.data.toList p):CF).bind fun x=>if Xe s.data.toList x.2 (40:UInt8).toNat=true then some (x.1,skF s.data.toList (x.2+1)) else none)=c1:=⟨_,rfl⟩
 rw[hc1] at s1
 have HC1:=Xa hc1
 have HL:=Xa (Xcb HHR.out 1 (by decide) (by decide) HZ1.out hf s1)
 clear b1 s1 hc1
 go_wp2_with fail
 refine HL.out.mono ?_
 rintro e w2 ⟨n,rfl,b2,s2,hn⟩
 have HB2:=Xa (HB1.out.trans b2)
 have HZ2:Hid (∀x,Z x→x<w2.heap.size):=fun x hx=>Nat.lt_of_lt_of_le (HZ1.out x hx) b2.size
 have HN:=Xa hn
 obtain ⟨c2,hc2⟩:∃c2:CF,(c1.bind fun x=>(R 1 x.1 x.2).map (·.2))=c2:=⟨_,rfl⟩
 rw[hc2] at s2
 have HC2:=Xa hc2
 have HW2:=Xa (Xbs 41 (by omega) s2)
 clear b2 s2 hn hc2
 go_wp2_with fail
 refine HW2.out.mono ?_
 rintro e w3 ⟨rfl,b3,s3⟩
 have HB3:=Xa (HB2.out.trans b3)
 have HZ3:Hid (∀x,Z x→x<w3.heap.size):=fun x hx=>Nat.lt_of_lt_of_le (HZ2.out x hx) b3.size
 obtain ⟨c3,hc3⟩:∃c3:CF,(c2.bind fun x=>if Xe s.data.toList x.2 (41:UInt8).toNat=true then some (x.1,skF s.data.toList (x.2+1)) else none)=c3:=⟨_,rfl⟩
 rw[hc3] at s3
 have HC3:=Xa hc3
 have HA:=Xa (Xgl (p0:=p-1) s3 (by omega) (by omega) HZ3.out 10 [n] (by simp))
 clear b3 s3 hc3
 go_wp2_with fail
 refine HA.out.mono ?_
 intro e w9 h9
 obtain ⟨n9,rfl,b9,s9,hn9⟩:=h9.st
 have HO9:=Xa h9
 clear h9 b9 s9 hn9
 go_wp2_with fail
 go_ret
 exact LfOr.of (HE.out.trans (Xwy HC1.out.symm HC2.out.symm HN.out HC3.out.symm)) (LfOr.after HB3.out (Nat.le_refl _) HO9.out)
set_option maxRecDepth 100000 in
theorem Xno {p:Nat} {Z:Nat→Prop} {fs:List FN} {w:World} {T:ByteArray} (h:LfAt w rb base Z s p false fs) (hZ:∀x,Z x→x<w.heap.size) (hs:s.size≤1000) (hl:fs.length≤40) (hf:s.size<p+f) (hp:1≤p) (HTW:T.data.toList= [105,102]):
  Calls Tryz.prog 120 #[.pointer (some ⟨rb,0,none⟩), .string T] w (LfOr (X4 WSp R s.data.toList T.data.toList fs (skF s.data.toList p)) rb base Z s (p-1) w):=by
 have HT:Hid (T.toList=T.data.toList):=by rw[Hid,ByteArray.toList_eq]
 have HF0:=Xa h
 have HZ:Hid (∀x,Z x→x<w.heap.size):=hZ
 have HHR:=Xa HR
 have HE:Hid (X4 WSp R s.data.toList T.data.toList fs (skF s.data.toList p)=ifF WSp R s.data.toList fs (skF s.data.toList p)):=by rw[Hid,HTW];rfl
 have q_null:(T.toList== [110,117,108,108])=false:=by rw[HT.out,HTW];rfl
 have q_true:(T.toList== [116,114,117,101])=false:=by rw[HT.out,HTW];rfl
 have q_false:(T.toList== [102,97,108,115,101])=false:=by rw[HT.out,HTW];rfl
 have q_length:(T.toList== [108,101,110,103,116,104])=false:=by rw[HT.out,HTW];rfl
 have q_keys:(T.toList== [107,101,121,115])=false:=by rw[HT.out,HTW];rfl
 have q_not:(T.toList== [110,111,116])=false:=by rw[HT.out,HTW];rfl
 have q_empty:(T.toList== [101,109,112,116,121])=false:=by rw[HT.out,HTW];rfl
 have q_select:(T.toList== [115,101,108,101,99,116])=false:=by rw[HT.out,HTW];rfl
 have q_if:(T.toList== [105,102])=true:=by rw[HT.out,HTW];rfl
 clear h hZ HR HTW
 go_enter Tryz.func120,Tryz.ntmps120
 have HL:=Xa (HHR.out 1 Z fs p w (by decide) (by decide) HZ.out HF0.out hl hf)
 go_wp2_with fail
 refine HL.out.mono ?_
 intro e w1 h1
 obtain ⟨a,rfl,b1,s1,hn⟩:=h1.st
 have HB1:=Xa b1
 have HZ1:Hid (∀x,Z x→x<w1.heap.size):=fun x hx=>Nat.lt_of_lt_of_le (HZ.out x hx) b1.size
 have HNA:=Xa hn
 obtain ⟨ca,hca⟩:∃ca:CF,(R 1 fs (skF s.data.toList p)).map (·.2)=ca:=⟨_,rfl⟩
 rw[hca] at s1
 have HCA:=Xa hca
 have HT1:=Xa (Xgk (u:=⟨#[116,104,101,110]⟩) (by omega) ⟨116,[104,101,110],rfl,by decide⟩ s1)
 clear h1 b1 s1 hn hca
 go_wp2_with fail
 refine HT1.out.mono ?_
 rintro e w2 ⟨rfl,b2,s2⟩
 have HB2:=Xa (HB1.out.trans b2)
 have HZ2:Hid (∀x,Z x→x<w2.heap.size):=fun x hx=>Nat.lt_of_lt_of_le (HZ1.out x hx) b2.size
 obtain ⟨sa,hsa⟩:∃sa:CF,(ca.bind fun x=>if X9 s.data.toList x.2=(⟨#[116,104,101,110]⟩:ByteArray).data.toList then some (x.1,skF s.data.toList (nmJ s.data.toList x.2)) else none)=sa:=⟨_,rfl⟩
 rw[hsa] at s2
 have HSA:=Xa hsa
 have HL2:=Xa (Xcb HHR.out 1 (by decide) (by decide) HZ2.out hf s2)
 clear b2 s2 hsa
 go_wp2_with fail
 refine HL2.out.mono ?_
 rintro e w3 ⟨b,rfl,b3,s3,hn⟩
 have HB3:=Xa (HB2.out.trans b3)
 have HZ3:Hid (∀x,Z x→x<w3.heap.size):=fun x hx=>Nat.lt_of_lt_of_le (HZ2.out x hx) b3.size
 have HNB:=Xa hn
 obtain ⟨cb,hcb⟩:∃cb:CF,(sa.bind fun x=>(R 1 x.1 x.2).map (·.2))=cb:=⟨_,rfl⟩
 rw[hcb] at s3
 have HCB:=Xa hcb
 have HT2:=Xa (Xgk (u:=⟨#[101,108,115,101]⟩) (by omega) ⟨101,[108,115,101],rfl,by decide⟩ s3)
 clear b3 s3 hn hcb
 go_wp2_with fail
 refine HT2.out.mono ?_
 rintro e w4 ⟨rfl,b4,s4⟩
 have HB4:=Xa (HB3.out.trans b4)
 have HZ4:Hid (∀x,Z x→x<w4.heap.size):=fun x hx=>Nat.lt_of_lt_of_le (HZ3.out x hx) b4.size
 obtain ⟨sb,hsb⟩:∃sb:CF,(cb.bind fun x=>if X9 s.data.toList x.2=(⟨#[101,108,115,101]⟩:ByteArray).data.toList then some (x.1,skF s.data.toList (nmJ s.data.toList x.2)) else none)=sb:=⟨_,rfl⟩
 rw[hsb] at s4
 have HSB:=Xa hsb
 have HL3:=Xa (Xcb HHR.out 1 (by decide) (by decide) HZ4.out hf s4)
 clear b4 s4 hsb
 go_wp2_with fail
 refine HL3.out.mono ?_
 rintro e w5 ⟨c,rfl,b5,s5,hn⟩
 have HB5:=Xa (HB4.out.trans b5)
 have HZ5:Hid (∀x,Z x→x<w5.heap.size):=fun x hx=>Nat.lt_of_lt_of_le (HZ4.out x hx) b5.size
 have HNC:=Xa hn
 obtain ⟨cc,hcc⟩:∃cc:CF,(sb.bind fun x=>(R 1 x.1 x.2).map (·.2))=cc:=⟨_,rfl⟩
 rw[hcc] at s5
 have HCC:=Xa hcc
 have HT3:=Xa (Xgk (u:=⟨#[101,110,100]⟩) (by omega) ⟨101,[110,100],rfl,by decide⟩ s5)
 clear b5 s5 hn hcc
 go_wp2_with fail
 refine HT3.out.mono ?_
 rintro e w6 ⟨rfl,b6,s6⟩
 have HB6:=Xa (HB5.out.trans b6)
 have HZ6:Hid (∀x,Z x→x<w6.heap.size):=fun x hx=>Nat.lt_of_lt_of_le (HZ5.out x hx) b6.size
 obtain ⟨se,hse⟩:∃se:CF,(cc.bind fun x=>if X9 s.data.toList x.2=(⟨#[101,110,100]⟩:ByteArray).data.toList then some (x.1,skF s.data.toList (nmJ s.data.toList x.2)) else none)=se:=⟨_,rfl⟩
 rw[hse] at s6
 have HSE:=Xa hse
 have HA:=Xa (Xgl (p0:=p-1) s6 (by omega) (by omega) HZ6.out 22 [a,b,c] (by simp))
 clear b6 s6 hse
 go_wp2_with fail
 refine HA.out.mono ?_
 intro e w9 h9
 obtain ⟨n9,rfl,b9,s9,hn9⟩:=h9.st
 have HO9:=Xa h9
 clear h9 b9 s9 hn9
 go_wp2_with fail
 go_ret
 exact LfOr.of (HE.out.trans (Xyy HCA.out.symm HNA.out HSA.out.symm HCB.out.symm HNB.out HSB.out.symm HCC.out.symm HNC.out HSE.out.symm)) (LfOr.after HB6.out (Nat.le_refl _) HO9.out)
set_option maxRecDepth 100000 in
theorem Xjd {p:Nat} {Z:Nat→Prop} {fs:List FN} {w:World} {T:ByteArray} (h:LfAt w rb base Z s p false fs) (hZ:∀x,Z x→x<w.heap.size) (hs:s.size≤1000) (hl:fs.length≤40) (hf:s.size<p+f) (hp:1≤p) (n_null:T.data.toList≠ [110,117,108,108]) (n_true:T.data.toList≠ [116,114,117,101]) (n_false:T.data.toList≠ [102,97,108,115,101]) (n_length:T.data.toList≠ [108,101,110,103,116,104]) (n_keys:T.data.toList≠ [107,101,121,115]) (n_not:T.data.toList≠ [110,111,116]) (n_empty:T.data.toList≠ [101,109,112,116,121]) (n_select:T.data.toList≠ [115,101,108,101,99,116]) (n_if:T.data.toList≠ [105,102]):
  Calls Tryz.prog 120 #[.pointer (some ⟨rb,0,none⟩), .string T] w (LfOr (X4 WSp R s.data.toList T.data.toList fs (skF s.data.toList p)) rb base Z s (p-1) w):=by
 have HT:Hid (T.toList=T.data.toList):=by rw[Hid,ByteArray.toList_eq]
 have HF0:=Xa h
 have HZ:Hid (∀x,Z x→x<w.heap.size):=hZ
 have HHR:=Xa HR
 have HE:Hid (X4 WSp R s.data.toList T.data.toList fs (skF s.data.toList p)=none):=Xk2 n_null n_true n_false n_length n_keys n_not n_empty n_select n_if
 have q_null:(T.toList== [110,117,108,108])=false:=by rw[HT.out];exact beq_false_of_ne n_null
 have q_true:(T.toList== [116,114,117,101])=false:=by rw[HT.out];exact beq_false_of_ne n_true
 have q_false:(T.toList== [102,97,108,115,101])=false:=by rw[HT.out];exact beq_false_of_ne n_false
 have q_length:(T.toList== [108,101,110,103,116,104])=false:=by rw[HT.out];exact beq_false_of_ne n_length
 have q_keys:(T.toList== [107,101,121,115])=false:=by rw[HT.out];exact beq_false_of_ne n_keys
 have q_not:(T.toList== [110,111,116])=false:=by rw[HT.out];exact beq_false_of_ne n_not
 have q_empty:(T.toList== [101,109,112,116,121])=false:=by rw[HT.out];exact beq_false_of_ne n_empty
 have q_select:(T.toList== [115,101,108,101,99,116])=false:=by rw[HT.out];exact beq_false_of_ne n_select
 have q_if:(T.toList== [105,102])=false:=by rw[HT.out];exact beq_false_of_ne n_if
 clear h hZ HR n_null n_true n_false n_length n_keys n_not n_empty n_select n_if
 have HFB:=Xa (HF0.out.setB true)
 have HBB:Hid (LB rb base Z w (w.setCell ⟨rb,2,none⟩ (.bool true))):=LB.of_set 2 _
 obtain ⟨c0,c1,c2⟩:=HF0.out.cells
 have f2:=HF0.out.free 2
 go_enter Tryz.func120,Tryz.ntmps120
 go_wp2_with fail
 go_ret
 exact LfOr.of HE.out (LfOr.no rfl HFB.out (by omega) (by omega) HBB.out)
theorem Xk4 {p:Nat} {Z:Nat→Prop} {fs:List FN} {w:World} {T:ByteArray} (h:LfAt w rb base Z s p false fs) (hZ:∀x,Z x→x<w.heap.size) (hs:s.size≤1000) (hl:fs.length≤40) (hf:s.size<p+f) (hp:1≤p):
  Calls Tryz.prog 120 #[.pointer (some ⟨rb,0,none⟩), .string T] w (LfOr (X4 WSp R s.data.toList T.data.toList fs (skF s.data.toList p)) rb base Z s (p-1) w):=by
 by_cases n_null:T.data.toList= [110,117,108,108]
 ·exact Xja HR h hZ hs hl hf hp n_null
 by_cases n_true:T.data.toList= [116,114,117,101]
 ·exact Xjb HR h hZ hs hl hf hp n_true
 by_cases n_false:T.data.toList= [102,97,108,115,101]
 ·exact Xhx HR h hZ hs hl hf hp n_false
 by_cases n_length:T.data.toList= [108,101,110,103,116,104]
 ·exact Xgg HR h hZ hs hl hf hp n_length
 by_cases n_keys:T.data.toList= [107,101,121,115]
 ·exact Xjc HR h hZ hs hl hf hp n_keys
 by_cases n_not:T.data.toList= [110,111,116]
 ·exact Xk3 HR h hZ hs hl hf hp n_not
 by_cases n_empty:T.data.toList= [101,109,112,116,121]
 ·exact Xhy HR h hZ hs hl hf hp n_empty
 by_cases n_select:T.data.toList= [115,101,108,101,99,116]
 ·exact Xgh HR h hZ hs hl hf hp n_select
 by_cases n_if:T.data.toList= [105,102]
 ·exact Xno HR h hZ hs hl hf hp n_if
 exact Xjd HR h hZ hs hl hf hp n_null n_true n_false n_length n_keys n_not n_empty n_select n_if
end

theorem Xya:(Tryz.prog.info? 9).map (fun i=>(i.zero,i.size,i.bytes))=some (some (.string ByteArray.empty),1,16):=by kernel_rfl
theorem Xyb:(Tryz.prog.info? 2).map (fun i=>(i.zero,i.size,i.bytes))=some (some (.int .i64 0),1,8):=by kernel_rfl
def Xvb (w:World) (rb:Nat):Bool:=match w.cell? ⟨rb,2,none⟩ with|some (.bool b)=>b|_=>false
def Ye (w:World) (rb n:Nat):Nat:=if Xvb w rb=true then 0 else n+1-placeOf w rb
theorem LfAt.meas {w:World} {rb base:Nat} {Z:Nat→Prop} {s:ByteArray} {p n:Nat} {bad:Bool} {fs:List FN} (h:LfAt w rb base Z s p bad fs):Ye w rb n=if bad=true then 0 else n+1-p:=by
 unfold Ye Xvb;rw[h.cells.2.2,h.placeOf]
theorem LfAt.grown {a b:World} {rb base b0 e0 s0 n0:Nat} {Z Z':Nat→Prop} {s:ByteArray} {p:Nat} {bad:Bool} {fs:List FN} {v:Value} {xs:List Value} (h:LfAt a rb base Z s p bad fs) (hv:a.ownsRow b0 e0 s0 v n0 xs) (he:51≠e0) (hb:base≤b0) (hZ:∀x,v.ownBlock=some x→Z x) (hg:a.grownBy b v.ownBlock)
  (hz:∀x,Z' x→Z x∨a.heap.size≤x) (hz2:∀x,Z' x→x<b.heap.size):LfAt b rb base Z' s p bad fs:=by
 obtain ⟨u,h1,⟨C,N,I,hN,hS⟩,h3⟩:=h.blk
 have hne:∀x,v.ownBlock=some x→base≤x:=fun x hx=>Nat.le_trans hb (hv.lt x hx).1
 refine ⟨⟨u,(hg.block rb h.lt (fun e=>by have:=hne rb e.symm;have:=h.rb_lt;omega)).trans h1,⟨C,N,I,hN.keep (fun x hx=>hg.block x (hN.row.lt x hx).2 (fun e=> ?_)) (fun x hx=>hg.block x (hN.sub hx).2 (fun e=>hS x hx (hZ x e.symm))),fun x hx hzx=> ?_⟩,fun x hx hzx=> ?_⟩,h.le,h.rb_lt,Nat.le_trans h.sz hg.size,hz2⟩
 ·rcases J4 hN.row hv he with e2|e2
  ·rw[hx] at e2;cases e2
  ·exact e2 (hx.trans e)
 ·rcases hz x hzx with h4|h4
  ·exact hS x hx h4
  ·have:=(hN.sub hx).2;omega
 ·rcases hz x hzx with h4|h4
  ·exact h3 x hx h4
  ·have:=(hN.row.lt x hx).2;omega
theorem LfAt.setX {w:World} {rb base xb o:Nat} {Z:Nat→Prop} {s:ByteArray} {p:Nat} {bad:Bool} {fs:List FN} {u:Value} (h:LfAt w rb base Z s p bad fs) (hx:Z xb) (hne:rb≠xb):LfAt (w.setCell ⟨xb,o,none⟩ u) rb base Z s p bad fs:=by
 obtain ⟨v,h1,⟨C,N,I,hN,hS⟩,h3⟩:=h.blk
 refine ⟨⟨v,(Below.heap_setCell _ _ _ _ hne).trans h1,⟨C,N,I,hN.keep (fun x hx'=>Below.heap_setCell _ _ _ _ (fun e=> ?_)) (fun x hx'=>Below.heap_setCell _ _ _ _ (fun e=> ?_)),hS⟩,h3⟩,h.le,h.rb_lt,by simpa using h.sz,fun x hx=>by simpa using h.zb x hx⟩
 ·have e':x=xb:=e
  rw[e'] at hx';exact h3 xb hx' hx
 ·have e':x=xb:=e
  rw[e'] at hx';exact hS xb hx' hx
theorem LfSt.grown {a b:World} {rb base b0 e0 s0 n0 p0:Nat} {Z Z':Nat→Prop} {s:ByteArray} {r:CF} {v:Value} {xs:List Value} (h:LfSt r rb base Z s p0 a) (hv:a.ownsRow b0 e0 s0 v n0 xs) (he:51≠e0) (hb:base≤b0) (hZ:∀x,v.ownBlock=some x→Z x) (hg:a.grownBy b v.ownBlock)
  (hz:∀x,Z' x→Z x∨a.heap.size≤x) (hz2:∀x,Z' x→x<b.heap.size):LfSt r rb base Z' s p0 b:=by
 obtain ⟨fs,p,h1,⟨h2,h3,h4⟩|⟨h2,h3,h4⟩⟩:=h
 ·exact ⟨fs,p,h1, .inl ⟨h2,h3.grown hv he hb hZ hg hz hz2,h4⟩⟩
 ·exact ⟨fs,p,h1, .inr ⟨h2,h3,h4.grown hv he hb hZ hg hz hz2⟩⟩
theorem LfSt.setX {w:World} {rb base xb o p0:Nat} {Z:Nat→Prop} {s:ByteArray} {r:CF} {u:Value} (h:LfSt r rb base Z s p0 w) (hx:Z xb) (hne:rb≠xb):LfSt r rb base Z s p0 (w.setCell ⟨xb,o,none⟩ u):=by
 obtain ⟨fs,p,h1,⟨h2,h3,h4⟩|⟨h2,h3,h4⟩⟩:=h
 ·exact ⟨fs,p,h1, .inl ⟨h2,h3.setX hx hne,h4⟩⟩
 ·exact ⟨fs,p,h1, .inr ⟨h2,h3,h4.setX hx hne⟩⟩
theorem ButF.setN {rb base xb o:Nat} {w a:World} {u:Value} (h:ButF rb base w a) (hx:w.heap.size≤xb):ButF rb base w (a.setCell ⟨xb,o,none⟩ u):=
 ⟨h.os,h.tape,h.output,by have:=h.size;simpa using this,fun c hc hn ht=>(Below.heap_setCell _ _ _ _ (show c≠xb by omega)).trans (h.block c hc hn ht)⟩
theorem ButF.grownS {rb base:Nat} {w a b:World} {row:Option Nat} (h:ButF rb base w a) (hg:a.grownBy b row) (hr:∀x,row=some x→w.heap.size≤x):ButF rb base w b:=
 ⟨hg.os.trans h.os,hg.tape.trans h.tape,hg.output.trans h.output,Nat.le_trans h.size hg.size,fun x hx hn ht=>(hg.block x (Nat.lt_of_lt_of_le hx h.size) (fun e=>by have:=hr x e.symm;omega)).trans (h.block x hx hn ht)⟩
theorem LB.setN {rb base xb o:Nat} {Z:Nat→Prop} {w a:World} {u:Value} (h:LB rb base Z w a) (hx:w.heap.size≤xb):LB rb base Z w (a.setCell ⟨xb,o,none⟩ u):=
 ⟨h.bf.setN hx,fun c hz hc hn=>(Below.heap_setCell _ _ _ _ (show c≠xb by omega)).trans (h.av c hz hc hn)⟩
theorem LB.grownN {rb base:Nat} {Z:Nat→Prop} {w a b:World} {row:Option Nat} (h:LB rb base Z w a) (hg:a.grownBy b row) (hr:∀x,row=some x→w.heap.size≤x):LB rb base Z w b:=
 ⟨h.bf.grownS hg hr,fun c hz hc hn=>(hg.block c (Nat.lt_of_lt_of_le hc h.size) (fun e=>by have:=hr c e.symm;omega)).trans (h.av c hz hc hn)⟩
theorem Xst {rb base p0:Nat} {s:ByteArray} {r:CF} {Z:Nat→Prop} {w:World} (c:UInt8) (hs:s.size≤4000) (h:LfSt r rb base Z s p0 w):
  Calls Tryz.prog 114 #[.pointer (some ⟨rb,0,none⟩), .string ⟨#[c]⟩] w fun e w'=>e= .returned (.tuple #[])∧LB rb base Z w w'∧∃d,d≤1∧LfSt (r.bind fun x=>if Xe s.data.toList x.2 c.toNat=true then some (x.1,skF s.data.toList (x.2+1)) else none) rb base Z s (p0+d) w'∧(d=0→(r.bind fun x=>if Xe s.data.toList x.2 c.toNat=true then some (x.1,skF s.data.toList (x.2+1)) else none)=none):=by
 obtain ⟨fs,p,hp,⟨hr,ha,hl⟩|⟨hr,hl,ha⟩⟩:=h
 ·have hsk:=Xw s.data.toList p
  subst hr
  refine (Gi c ha hs).mono ?_
  rintro e w' ⟨he,hb,⟨_,hy,h'⟩|⟨hn,h'⟩⟩
  ·refine ⟨he,hb,1,by omega,LfSt.of ?_ (LfSt.good h' hl (by omega)),by omega⟩
   show _=if Xe s.data.toList (skF s.data.toList p) c.toNat=true then _ else _
   rw[if_pos hy]
  ·have hno:(some (fs,skF s.data.toList p)).bind (fun x=>if Xe s.data.toList x.2 c.toNat=true then some (x.1,skF s.data.toList (x.2+1)) else none)=none:=by
    show (if Xe s.data.toList (skF s.data.toList p) c.toNat=true then _ else _)=_
    rcases hn with hn|hn
    ·cases hn
    ·rw[if_neg (by rw[hn];simp)]
   exact ⟨he,hb,0,by omega,LfSt.of hno.symm (LfSt.bad h' (by omega) (by omega)),fun _=>hno⟩
 ·have hsk:=Xw s.data.toList p
  subst hr
  refine (Gi c ha hs).mono ?_
  rintro e w' ⟨he,hb,⟨hx,_,h'⟩|⟨hn,h'⟩⟩
  ·cases hx
  ·exact ⟨he,hb,0,by omega,LfSt.bad h' (by omega) (by omega),fun _=>rfl⟩
theorem Xsu {R:RD} {L:List UInt8} {g:Nat} {names:List ByteArray} {kids:List Int} {fs:List FN} {q:Nat} {n:Int} {T:ByteArray} {r1 r2 r3:CF} (hT:T=txt ((L.drop q).take (wdJ L q-q)))
  (h1:r1=some (fs,skF L (wdJ L q))) (h2:r2=r1.bind fun x=>if Xe L x.2 58=true then some (x.1,skF L (x.2+1)) else none) (h3:r3=r2.bind fun x=>(R 3 x.1 x.2).map (·.2)) (hn:∀fs q y,r2=some (fs,q)→R 3 fs q=some y→y.1=n):
  Zm WSp R L (g+1) names kids fs q=r3.bind fun x=>if Xe L x.2 125=true then Xu WSp (Vv (names++ [T]) (kids++ [n])) x.1 (skF L (x.2+1)) else Yj L x.2 44 fun q=>Zm WSp R L g (names++ [T]) (kids++ [n]) x.1 q:=by
 rw[Zm,Xzz,←hT]
 subst h1
 by_cases e:Xe L (skF L (wdJ L q)) 58=true
 ·have h2':r2=some (fs,skF L (skF L (wdJ L q)+1)):=by rw[h2];show (if _ then _ else _)=_;rw[if_pos e]
  rw[Xi8 e]
  cases h4:R 3 fs (skF L (skF L (wdJ L q)+1)) with
  | none =>
   have:r3=none:=by rw[h3,h2'];show (R 3 fs (skF L (skF L (wdJ L q)+1))).map (·.2)=_;rw[h4];rfl
   rw[this];rfl
  | some y =>
   obtain ⟨n',f3,q3⟩:=y
   obtain rfl:n'=n:=hn _ _ _ h2' h4
   have:r3=some (f3,q3):=by rw[h3,h2'];show (R 3 fs (skF L (skF L (wdJ L q)+1))).map (·.2)=_;rw[h4];rfl
   rw[this,X2];rfl
 ·have h2':r2=none:=by rw[h2];show (if _ then _ else _)=_;rw[if_neg e]
  rw[Xi9 e]
  have:r3=none:=by rw[h3,h2'];rfl
  rw[this];rfl

theorem Xm3 (v:Value) (w:World):(callFunc 119 #[v]).run Tryz.prog w= .ok (.enter 119 #[v]) w:=by
 have h:=Tryz.func119
 go_simp
theorem Xky (v u:Value) (w:World):(callFunc 43 #[v,u]).run Tryz.prog w= .ok (.enter 43 #[v,u]) w:=by
 have h:=Tryz.func43
 go_simp
theorem Xkz {P:Program} {w:World} {ops:Array Oper} {o:Oper} {a:Act} {K:Act→World→Prop} {Q:Exit→Act→World→Prop} {E:Prop} (hgd:o.guard=none) (F:FuncId) (x y:Operand) (T U:TypeId)
  (ho:o.op= .call {callee:= .value (.func F),args:= #[x,y],argTypes:= #[T,U]}) (v u:Value) (hx:a.eval x=v) (hy:a.eval y=u) (hcf:∀w,(callFunc F #[v,u]).run P w= .ok (.enter F #[v,u]) w) {R:Ending→World→Prop} (hc:Calls P F #[v,u] w R)
  (h:∀e w',R e w'→∃u,e= .returned u∧K (a.put o.dst u) w'):
  if Region.wanted o (yielded ops a.tmps)=true then Oper.wp P o a w K Q else E:=by
 have hw:Region.wanted o (yielded ops a.tmps)=true:=by simp[Region.wanted,hgd]
 rw[if_pos hw]
 unfold Oper.wp execOp
 have e1:a.eval (.func F)= .func (.func F) #[] #[]:=rfl
 simp[ho,resolve,invoke,hx,hy,e1,Deferred.ofValue,hcf,Result.andThen,Oper.upon_enter]
 refine hc.mono fun e w' hr=> ?_
 obtain ⟨u,rfl,hk⟩:=h e w' hr
 exact hk
def XB (w:World) (xb:Nat) (kv it:Value):Prop:=w.heap[xb]? =some (.cells #[.int .i64 9, .string ⟨#[]⟩, .int .i64 0, .slice none 0 0,kv,it] 51 (0,0))
def ZR (Z:Nat→Prop) (xb:Nat) (kv it:Value) (x:Nat):Prop:=Z x∨x=xb∨kv.ownBlock=some x∨it.ownBlock=some x
theorem Xfa {w:World} {b e s n xb o:Nat} {v u:Value} {xs:List Value} (h:w.ownsRow b e s v n xs) (hx:xb<b):(w.setCell ⟨xb,o,none⟩ u).ownsRow b e s v n xs:=J0 h fun x hx'=>Below.heap_setCell _ _ _ _ (show x≠xb by have:=(h.lt x hx').1;omega)
theorem XB.keep {rb base xb:Nat} {Z:Nat→Prop} {w w':World} {kv it:Value} (h:XB w xb kv it) (hb:LB rb base Z w w') (hz:Z xb) (hne:xb≠rb):XB w' xb kv it:=(hb.av xb hz (ltH h) hne).trans h
structure Bhd (lo et:Nat) (w1:World) (iv u:Value) (k xb:Nat) (xs:List Value):Prop where
 base:lo≤(w1.alloc (.cells #[u] et)).heap.size
 row:(w1.alloc (.cells #[u] et)).ownsRow lo et 1 iv k xs
 top:(w1.alloc (.cells #[u] et)).heap.size=w1.heap.size+1
 news:∀j x,[u][j]? =some x→(w1.alloc (.cells #[u] et)).cell? ((⟨w1.heap.size,0,none⟩:Addr).add j)=some x
 lt:xb<(w1.alloc (.cells #[u] et)).heap.size
theorem Bhd.of {lo et:Nat} {w1:World} {iv u:Value} {k xb:Nat} {xs:List Value} (h:w1.ownsRow lo et 1 iv k xs) (hlo:lo≤w1.heap.size) (hx:xb<w1.heap.size):Bhd lo et w1 iv u k xb xs:=
 ⟨by simp;omega,h.alloc _,by simp,World.news_of_block (cs:= #[u]) (t:=et) (fr:=(0,0)) (heap_alloc_new w1 _),by simp;omega⟩
section
variable {R:RD} {f rb base:Nat} {s:ByteArray} (HR:Xgj R f rb base s)
include HR
set_option maxRecDepth 100000 in
theorem Xpx {p:Nat} {Z:Nat→Prop} {fs:List FN} {w:World} (h:LfAt w rb base Z s p false fs) (hZ:∀x,Z x→x<w.heap.size) (hs:s.size≤1000) (hl:fs.length≤40) (hf:s.size<p+f):
  Calls Tryz.prog 115 #[.pointer (some ⟨rb,0,none⟩)] w (LfOr (Jf WSp R s.data.toList fs (skF s.data.toList p)) rb base Z s p w):=by
 obtain ⟨i1,hi1,hz1,hs1,hy1⟩:=info_parts Xyb
 obtain ⟨j1,hj1,hzj,hsj,hyj⟩:=info_parts Xya
 have HLN:=Xa (Xm s)
 have HZ:Hid (∀x,Z x→x<w.heap.size):=hZ
 have HHR:=Xa HR
 have hrbb:=h.rb_lt
 have hbs:=h.sz
 have HF0:=Xa h
 obtain ⟨q,hq⟩:∃q,skF s.data.toList p=q:=⟨_,rfl⟩
 have HPQ:=Xa hq
 have hpq:p≤q:=by rw[←hq];exact Xw _ _
 have HQQ:Hid (skF s.data.toList q=q):=by rw[Hid,←hq];exact Yh _ _
 rw[hq]
 obtain ⟨xb,hxb⟩:∃xb,w.heap.size=xb:=⟨_,rfl⟩
 obtain ⟨W1,hW1⟩:∃W1,w.alloc (.cells #[.int .i64 9, .string ⟨#[]⟩, .int .i64 0, .slice none 0 0, .slice none 0 0, .slice none 0 0] 51)=W1:=⟨_,rfl⟩
 have hb1:Below w.heap.size w W1:=by rw[←hW1];exact (Below.refl _ _).alloc (Nat.le_refl _) _
 have hz1':W1.heap.size=xb+1:=by rw[←hW1,←hxb];simp
 have HX1:Hid (XB W1 xb (.slice none 0 0) (.slice none 0 0)):=by rw[Hid,←hW1,←hxb];exact heap_alloc_new w _
 have hF1:LfAt W1 rb base (ZR Z xb (.slice none 0 0) (.slice none 0 0)) s p false fs:=HF0.out.fresh hb1 (fun x hx=>by rcases hx with hx|hx|hx|hx;exact .inl hx;exact .inr (by omega);cases hx;cases hx) (fun x hx=>by rcases hx with hx|hx|hx|hx;have:=HZ.out x hx;omega;omega;cases hx;cases hx)
 have HB1:Hid (LB rb base Z w W1):=LB.of_below hb1
 have hi:=Zu 125 hF1 (by omega)
 rw[HPQ.out,show (125:UInt8).toNat=125 from rfl] at hi
 have HW1:=Xb hW1
 have HZ1:=Xb hz1'
 have hrx:rb<xb:=by omega
 have HXB:=Xb hxb
 have HZX:Hid (∀x,Z x→x<xb):=fun x hx=>by have:=HZ.out x hx;omega
 have hbx:base≤xb:=by omega
 clear h hZ HR hq hb1 hF1 hW1 hz1' hbs
 cases a125:Xe s.data.toList q 125
 rotate_left
 ·have HE:Hid (Jf WSp R s.data.toList fs q=Xu WSp (Qw 9) fs (skF s.data.toList (q+1))):=by rw[Hid];unfold Jf;rw[if_pos a125]
  rw[a125] at hi
  have HI:=Xa hi
  clear hi a125
  go_enter Tryz.func115,Tryz.ntmps115
  go_wp2_with fail
  rw[HW1.out]
  (try rw[HXB.out])
  refine HI.out.mono ?_
  rintro e w2 ⟨rfl,h,b⟩
  have h9:LfAt w2 rb base (ZR Z xb (.slice none 0 0) (.slice none 0 0)) s (q+1) false fs:=h
  have h10:LfAt w2 rb base Z s (q+1) false fs:=h9.fresh (Below.refl _ _) (fun x hx=> .inl (.inl hx)) (fun x hx=>by have:=HZX.out x hx;have:=b.size;have:=HZ1.out;omega)
  have hx2:=HX1.out.keep b (.inr (.inl rfl)) (by omega)
  have x0:w2.cell? ⟨xb,0,none⟩=some (.int .i64 9):=cellAt hx2 rfl
  have x1:w2.cell? ⟨xb,1,none⟩=some (.string ⟨#[]⟩):=cellAt hx2 rfl
  have x2:w2.cell? ⟨xb,2,none⟩=some (.int .i64 0):=cellAt hx2 rfl
  have x3:w2.cell? ⟨xb,3,none⟩=some (.slice none 0 0):=cellAt hx2 rfl
  have x4:w2.cell? ⟨xb,4,none⟩=some (.slice none 0 0):=cellAt hx2 rfl
  have x5:w2.cell? ⟨xb,5,none⟩=some (.slice none 0 0):=cellAt hx2 rfl
  have HB2:=Xa (HB1.out.trans (b.mono fun x hx=> .inl hx))
  have HA:=Xa (Qn h10 (by omega) 9 ByteArray.empty 0)
  clear h h9 h10 b hx2
  go_wp2_with fail
  refine HA.out.mono ?_
  rintro e w9 ⟨rfl,h9,b9⟩
  have HF9:=Xa h9
  have HB9:=Xa (HB2.out.trans b9)
  clear h9 b9
  go_wp2_with fail
  go_ret
  exact LfOr.of HE.out (LfOr.add HF9.out hl (by omega) HB9.out)
 have HE:Hid (Jf WSp R s.data.toList fs q=Zm WSp R s.data.toList (s.size+1) [] [] fs q):=by rw[Hid];unfold Jf;rw[if_neg (by rw[a125];decide),HLN.out]
 rw[a125] at hi
 have HI:=Xa hi
 clear hi a125
 obtain ⟨tg,htg⟩:∃tg,Jf WSp R s.data.toList fs q=tg:=⟨_,rfl⟩
 rw[htg] at HE⊢
 clear htg
 go_enter Tryz.func115,Tryz.ntmps115
 go_wp2_with fail
 rw[HW1.out]
 (try rw[HXB.out])
 refine HI.out.mono ?_
 rintro e w2 ⟨rfl,h,b⟩
 have h9:LfAt w2 rb base (ZR Z xb (.slice none 0 0) (.slice none 0 0)) s q false fs:=h
 have HF2:=Xa h9
 have HX2:=Xa (HX1.out.keep b (.inr (.inl rfl)) (by omega))
 have HB2:=Xa (HB1.out.trans (b.mono fun x hx=> .inl hx))
 clear h h9 b
 go_wp2_with fail
 go_loopw [] (fun wr=>∃(g y:Nat) (b:Bool) (names:List ByteArray) (kids:List Int) (fs':List FN) (kv it:Value),names.length+g=s.size+1∧kids.length=names.length∧p≤y∧fs'.length+p≤42+y∧LfAt wr rb base (ZR Z xb kv it) s y b fs'∧LB rb base Z w wr∧XB wr xb kv it∧wr.ownsRow (xb+1) 9 1 kv names.length (names.map .string)∧wr.ownsRow (xb+1) 2 1 it kids.length (kids.map (.int .i64))∧Hid ((b=true→tg=none)∧(b=false→fs'.length≤40∧names.length+p≤y∧tg=Zm WSp R s.data.toList g names kids fs' (skF s.data.toList y)))) (fun wr=>Ye wr rb s.size)
 case atStart=>exact ⟨s.size+1,q,false,[],[],fs,_,_,by simp,rfl,hpq,by omega,HF2.out,HB2.out,HX2.out,World.ownsRow_nil _ _ _ _,World.ownsRow_nil _ _ _ _,fun e=>(by cases e),fun _=>⟨hl,by simpa using hpq,by rw[HQQ.out];exact HE.out⟩⟩
 case round =>
  obtain ⟨g,y,b,names,kids,fs',kv,it,hng,hkl,hpy,hfl,hfr,hbt,hxx,hrn,hrk,HEQ⟩:=hrel
  have hys:=hfr.le
  have HS:=Xb hfr
  have HBT:=Xb hbt
  have HXX:=Xb hxx
  have HRN:=Xb hrn
  have HRK:=Xb hrk
  have zr:xb≤wr.heap.size:=by have:=hbt.size;have:=HXB.out;omega
  have zx:xb<wr.heap.size:=ltH hxx
  obtain ⟨c0,c1,c2⟩:=hfr.cells
  clear HF2 HX2 HB2 HE
  cases b
  rotate_left
  ·have h1:LfAt wr rb base Z s y true fs':=hfr.fresh (Below.refl _ _) (fun x hx=> .inl (.inl hx)) (fun x hx=>by have:=HZX.out x hx;omega)
   have HS1:=Xb h1
   have HTN:=Xb (HEQ.out.1 rfl)
   clear hfr hbt hxx hrn hrk h1 HEQ
   go_wp2_with fail
   go_ret
   exact LfOr.no HTN.out HS1.out hfl hpy HBT.out
  obtain ⟨hfl40,hny,hTG⟩:=HEQ.out.2 rfl
  have HTG:=Xb hTG
  obtain ⟨g,rfl⟩:∃g',g=g'+1:=⟨g-1,by omega⟩
  obtain ⟨ak,ck,ek⟩:=Ki hrn
  obtain ⟨ai,ci,ei⟩:=Ki hrk
  obtain ⟨k,hlen⟩:∃k,names.length=k:=⟨_,rfl⟩
  have HKL:Hid (kids.length=k):=by rw[Hid,hkl,hlen]
  rw[hkl,hlen] at ei
  rw[hlen] at ek hng hny hkl
  have HLEN:=Xb hlen
  subst ek ei
  obtain ⟨q0,hq0⟩:∃q0,skF s.data.toList y=q0:=⟨_,rfl⟩
  rw[hq0] at HTG
  have HQ0:=Xb hq0
  have hbd:Below wr.heap.size wr wr.drew:=(Below.refl _ _).drew
  have hst0:LfSt (some (fs',q0)) rb base (ZR Z xb (.slice ak k ck) (.slice ai k ci)) s y wr.drew:=by rw[←hq0];exact LfSt.good (hfr.below hbd) hfl40 (Nat.le_refl _)
  have HWD:=Xb (Xw0 (by omega) hst0)
  have HXD:Hid (XB wr.drew xb (.slice ak k ck) (.slice ai k ci)):=(hbd.block xb zx).trans hxx
  have HRND:Hid (wr.drew.ownsRow (xb+1) 9 1 (.slice ak k ck) k (names.map Value.string)):=by rw[hlen] at hrn;exact J0 hrn fun x hx=>hbd.block x (hrn.lt x hx).2
  have HRKD:Hid (wr.drew.ownsRow (xb+1) 2 1 (.slice ai k ci) k (kids.map (Value.int .i64))):=by rw[HKL.out] at hrk;exact J0 hrk fun x hx=>hbd.block x (hrk.lt x hx).2
  have HBD:Hid (LB rb base Z w wr.drew):=hbt.trans (LB.of_below hbd)
  have zxd:xb<wr.drew.heap.size:=by simpa using zx
  have x4:wr.cell? ⟨xb,4,none⟩=some (.slice ak k ck):=cellAt hxx rfl
  have y4:wr.frozen? ⟨xb,4,none⟩=false:=Lib.frozen_of_heap hxx 4
  have hone:∀(T:ByteArray),∀u∈ [Value.string T],u.oneCell'=true:=fun T u hu=>by simp at hu;subst hu;rfl
  have hml:k+1≤maxLen:=by unfold maxLen;omega
  have hby:(k+1) *16≤140737488355328:=by omega
  have hnr:(Value.slice ak k ck).ownBlock≠some xb:=fun e=>by have:=(HRND.out.lt _ e).1;omega
  clear hfr hbt hxx hrn hrk hlen hkl hq0 hst0 hbd hTG HEQ
  go_wp2_with fail
  go_region_law
   (first
    |(refine Xae (by rfl) 119 _ _ (by rfl) (.pointer (some ⟨rb,0,none⟩)) (by rfl) (Xm3 _) HWD.out ?_;rintro e w1 ⟨T,rfl,hb1,hst1,hT1⟩;have hx1:=HXD.out.keep hb1 (.inr (.inl rfl)) (by omega);have zx1:=ltH hx1;have hS1:w1.cell? ⟨xb,4,none⟩=some (.slice ak k ck):=cellAt hx1 rfl;have hf1:w1.frozen? ⟨xb,4,none⟩=false:=Lib.frozen_of_heap hx1 4;have hbh:=Bhd.of (u:= .string T) (xb:=xb) (hb1.own HRND.out (by decide) (by omega)) (by omega) zx1;refine ⟨_,rfl, ?_⟩)
    |(refine step_append_lies _ (by rfl) _ _ _ (by rfl) (xb+1) 9 j1 (.string ByteArray.empty) 1 16 Tryz.underlying48 hj1 hzj hsj hyj rfl (by omega) (.slice ak k ck) k (names.map .string) (by rfl) hbh.row ⟨w1.heap.size,0,none⟩ 1 1 [.string T] (by rfl) (by rfl) hbh.news (hone T) (by omega) hml hby hbh.base (w1.heap.size+1) hbh.top ?_;intro g5 cap5 w5 hown hgrow hat hlt5;have hx5:XB w5 xb (.slice ak k ck) (.slice ai k ci):=(hgrow.block xb hbh.lt (Ne.symm hnr)).trans ((heap_alloc_old w1 _ zx1).trans hx1);have hS3:w5.cell? ⟨xb,4,none⟩=some (.slice ak k ck):=cellAt hx5 rfl;have hf3:w5.frozen? ⟨xb,4,none⟩=false:=Lib.frozen_of_heap hx5 4))
  all_goals
   -- the row of names has grown
   have hba:Below w1.heap.size w1 (w1.alloc (.cells #[.string T] 9)):=(Below.refl _ _).alloc (Nat.le_refl _) _
   have hza:(w1.alloc (.cells #[.string T] 9)).heap.size=w1.heap.size+1:=by simp
   have hg5:=hgrow.size
   obtain ⟨r1,hr1⟩:∃r1:CF,((some (fs',q0):CF).bind fun x=>some (x.1,skF s.data.toList (wdJ s.data.toList x.2)))=r1:=⟨_,rfl⟩
   rw[hr1] at hst1
   have HR1:Hid (r1=some (fs',skF s.data.toList (wdJ s.data.toList q0))):=by rw[Hid,←hr1];rfl
   have HTT:Hid (T=txt ((s.data.toList.drop q0).take (wdJ s.data.toList q0-q0))):=hT1 _ _ rfl
   obtain ⟨W6,hW6⟩:∃W6,w5.setCell ⟨xb,4,none⟩ (.slice (some ⟨g5,0,none⟩) (k+1) cap5)=W6:=⟨_,rfl⟩
   have hz6:W6.heap.size=w5.heap.size:=by rw[←hW6];simp
   have HX6:Hid (XB W6 xb (.slice (some ⟨g5,0,none⟩) (k+1) cap5) (.slice ai k ci)):=by rw[Hid,←hW6];exact setH hx5 _
   have HN6:Hid (W6.ownsRow (xb+1) 9 1 (.slice (some ⟨g5,0,none⟩) (k+1) cap5) (names++ [T]).length ((names++ [T]).map .string)):=by
    rw[Hid,←hW6,List.length_append,List.length_singleton,HLEN.out,List.map_append];exact Xfa hown (by omega)
   have hrk1:=hb1.own HRKD.out (by decide) (by omega)
   have HK6:Hid (W6.ownsRow (xb+1) 2 1 (.slice ai k ci) k (kids.map (Value.int .i64))):=by
    rw[Hid,←hW6]
    exact Xfa ((hrk1.alloc _).kept hgrow (J4 (hrk1.alloc _) hbh.row (by decide))) (by omega)
   have HST6:Hid (LfSt r1 rb base (ZR Z xb (.slice (some ⟨g5,0,none⟩) (k+1) cap5) (.slice ai k ci)) s y W6):=by
    rw[Hid,←hW6]
    refine LfSt.setX (LfSt.grown (hst1.below hba) hbh.row (by decide) (by omega) (fun x hx=> .inr (.inr (.inl hx))) hgrow (fun x hx=> ?_) (fun x hx=> ?_)) (.inr (.inl rfl)) (by omega)
    ·rcases hx with hx|hx|hx|hx
     ·exact .inl (.inl hx)
     ·exact .inl (.inr (.inl hx))
     ·have e:g5=x:=by simpa [Value.ownBlock] using hx
      rcases hat with h|h
      ·exact .inl (.inr (.inr (.inl (by rw[←e];exact h))))
      ·exact .inr (by rw[hza];omega)
     ·exact .inl (.inr (.inr (.inr hx)))
    ·rcases hx with hx|hx|hx|hx
     ·have:=HZX.out x hx;omega
     ·omega
     ·have e:g5=x:=by simpa [Value.ownBlock] using hx
      omega
     ·have:=(hrk1.lt x hx).2;omega
   have HB6:Hid (LB rb base Z w W6):=by
    rw[Hid,←hW6]
    exact (((HBD.out.trans (hb1.mono fun x hx=> .inl hx)).trans (LB.of_below hba)).grownN hgrow (fun x hx=>by have:=(HRND.out.lt x hx).1;have:=HXB.out;omega)).setN (by have:=HXB.out;omega)
   have HW6:=Xb hW6
   have zx6:xb<W6.heap.size:=by omega
   clear hb1 hst1 hT1 hx1 zx1 hS1 hf1 hbh hown hgrow hat hlt5 hx5 hS3 hf3 hba hza hg5 hr1 hW6 hz6 hrk1 x4 y4 c0 c1 c2 hone hml hby hnr
   have HWA:=Xb (Xst 58 (by omega) HST6.out)
   go_wp2_with fail
   rw[HW6.out]
   refine HWA.out.mono ?_
   rintro e w7 ⟨rfl,b7,d,hd1,st7,hd0⟩
   obtain ⟨r2,hr2⟩:∃r2:CF,(r1.bind fun x=>if Xe s.data.toList x.2 (58:UInt8).toNat=true then some (x.1,skF s.data.toList (x.2+1)) else none)=r2:=⟨_,rfl⟩
   rw[hr2] at st7 hd0
   have HR2:=Xb hr2
   have HD0:=Xb hd0
   have HX7:=Xb (HX6.out.keep b7 (.inr (.inl rfl)) (by omega))
   have HN7:=Xb (b7.own HN6.out (by decide) (by omega))
   have HK7:=Xb (b7.own HK6.out (by decide) (by omega))
   have HB7:=Xb (HB6.out.trans (b7.mono fun x hx=> .inl hx))
   have zx7:=ltH HX7.out
   have hbd7:Below w7.heap.size w7 w7.drew:=(Below.refl _ _).drew
   have st7d:=st7.below hbd7
   have HXD7:Hid (XB w7.drew xb (.slice (some ⟨g5,0,none⟩) (k+1) cap5) (.slice ai k ci)):=(hbd7.block xb zx7).trans HX7.out
   have HND7:Hid (w7.drew.ownsRow (xb+1) 9 1 (.slice (some ⟨g5,0,none⟩) (k+1) cap5) (names++ [T]).length ((names++ [T]).map .string)):=J0 HN7.out fun x hx=>hbd7.block x (HN7.out.lt x hx).2
   have HKD7:Hid (w7.drew.ownsRow (xb+1) 2 1 (.slice ai k ci) k (kids.map (Value.int .i64))):=J0 HK7.out fun x hx=>hbd7.block x (HK7.out.lt x hx).2
   have HBD7:Hid (LB rb base Z w w7.drew):=HB7.out.trans (LB.of_below hbd7)
   have HLV:=Xb (Xcb HHR.out 3 (by decide) (by decide) st7d.zb (by omega) st7d)
   have x5:w7.cell? ⟨xb,5,none⟩=some (.slice ai k ci):=cellAt HX7.out rfl
   have y5:w7.frozen? ⟨xb,5,none⟩=false:=Lib.frozen_of_heap HX7.out 5
   have zxd7:xb<w7.drew.heap.size:=by simpa using zx7
   have hone2:∀(n:Int),∀u∈ [Value.int .i64 n],u.oneCell'=true:=fun n u hu=>by simp at hu;subst hu;rfl
   have hml2:k+1≤maxLen:=by unfold maxLen;omega
   have hby2:(k+1) *8≤140737488355328:=by omega
   have hnr2:(Value.slice ai k ci).ownBlock≠some xb:=fun e=>by have:=(HKD7.out.lt _ e).1;omega
   clear b7 st7 hr2 hd0 hbd7 st7d
   go_wp2_with fail
   go_region_law
    (first
     |(refine Xkz (by rfl) 43 _ _ _ _ (by rfl) (.pointer (some ⟨rb,0,none⟩)) (.int .i64 3) (by rfl) (by rfl) (Xky _ _) HLV.out ?_;rintro e w8 ⟨n,rfl,hb8,hst8,hn8⟩;have hx8:=HXD7.out.keep hb8 (.inr (.inl rfl)) (by omega);have zx8:=ltH hx8;have hS8:w8.cell? ⟨xb,5,none⟩=some (.slice ai k ci):=cellAt hx8 rfl;have hf8:w8.frozen? ⟨xb,5,none⟩=false:=Lib.frozen_of_heap hx8 5;have hbh8:=Bhd.of (u:= .int .i64 n) (xb:=xb) (hb8.own HKD7.out (by decide) (by omega)) (by omega) zx8;refine ⟨_,rfl, ?_⟩)
     |(refine step_append_lies _ (by rfl) _ _ _ (by rfl) (xb+1) 2 i1 (.int .i64 0) 1 8 Tryz.underlying49 hi1 hz1 hs1 hy1 rfl (by omega) (.slice ai k ci) k (kids.map (Value.int .i64)) (by rfl) hbh8.row ⟨w8.heap.size,0,none⟩ 1 1 [.int .i64 n] (by rfl) (by rfl) hbh8.news (hone2 n) (by omega) hml2 hby2 hbh8.base (w8.heap.size+1) hbh8.top ?_;intro g9 cap9 w9 hown hgrow hat hlt9;have hx9:XB w9 xb (.slice (some ⟨g5,0,none⟩) (k+1) cap5) (.slice ai k ci):=(hgrow.block xb hbh8.lt (Ne.symm hnr2)).trans ((heap_alloc_old w8 _ zx8).trans hx8);have hS9:w9.cell? ⟨xb,5,none⟩=some (.slice ai k ci):=cellAt hx9 rfl;have hf9:w9.frozen? ⟨xb,5,none⟩=false:=Lib.frozen_of_heap hx9 5))
   all_goals
    have hba:Below w8.heap.size w8 (w8.alloc (.cells #[.int .i64 n] 2)):=(Below.refl _ _).alloc (Nat.le_refl _) _
    have hza:(w8.alloc (.cells #[.int .i64 n] 2)).heap.size=w8.heap.size+1:=by simp
    have hg9:=hgrow.size
    obtain ⟨r3,hr3⟩:∃r3:CF,(r2.bind fun x=>(R 3 x.1 x.2).map (·.2))=r3:=⟨_,rfl⟩
    rw[hr3] at hst8
    have HSTEP:Hid (tg=r3.bind fun x=>if Xe s.data.toList x.2 125=true then Xu WSp (Vv (names++ [T]) (kids++ [n])) x.1 (skF s.data.toList (x.2+1)) else Yj s.data.toList x.2 44 fun q=>Zm WSp R s.data.toList g (names++ [T]) (kids++ [n]) x.1 q):=by
     rw[Hid,HTG.out]
     exact Xsu HTT.out HR1.out HR2.out.symm hr3.symm hn8
    have HD3:Hid (r3≠none→d=1):=fun hne=>by
     have:r2≠none:=fun e=>hne (by rw[←hr3,e];rfl)
     have:d≠0:=fun e=>this (HD0.out e)
     omega
    obtain ⟨WA,hWA⟩:∃WA,w9.setCell ⟨xb,5,none⟩ (.slice (some ⟨g9,0,none⟩) (k+1) cap9)=WA:=⟨_,rfl⟩
    have hzA:WA.heap.size=w9.heap.size:=by rw[←hWA];simp
    have HXA:Hid (XB WA xb (.slice (some ⟨g5,0,none⟩) (k+1) cap5) (.slice (some ⟨g9,0,none⟩) (k+1) cap9)):=by rw[Hid,←hWA];exact setH hx9 _
    have HKA:Hid (WA.ownsRow (xb+1) 2 1 (.slice (some ⟨g9,0,none⟩) (k+1) cap9) (kids++ [n]).length ((kids++ [n]).map (Value.int .i64))):=by
     rw[Hid,←hWA,List.length_append,List.length_singleton,HKL.out,List.map_append];exact Xfa hown (by omega)
    have hrn8:=hb8.own HND7.out (by decide) (by omega)
    have HNA:Hid (WA.ownsRow (xb+1) 9 1 (.slice (some ⟨g5,0,none⟩) (k+1) cap5) (names++ [T]).length ((names++ [T]).map .string)):=by
     rw[Hid,←hWA]
     exact Xfa ((hrn8.alloc _).kept hgrow (J4 (hrn8.alloc _) hbh8.row (by decide))) (by omega)
    have HSTA:Hid (LfSt r3 rb base (ZR Z xb (.slice (some ⟨g5,0,none⟩) (k+1) cap5) (.slice (some ⟨g9,0,none⟩) (k+1) cap9)) s (y+d) WA):=by
     rw[Hid,←hWA]
     refine LfSt.setX (LfSt.grown (hst8.below hba) hbh8.row (by decide) (by omega) (fun x hx=> .inr (.inr (.inr hx))) hgrow (fun x hx=> ?_) (fun x hx=> ?_)) (.inr (.inl rfl)) (by omega)
     ·rcases hx with hx|hx|hx|hx
      ·exact .inl (.inl hx)
      ·exact .inl (.inr (.inl hx))
      ·exact .inl (.inr (.inr (.inl hx)))
      ·have e:g9=x:=by simpa [Value.ownBlock] using hx
       rcases hat with h|h
       ·exact .inl (.inr (.inr (.inr (by rw[←e];exact h))))
       ·exact .inr (by rw[hza];omega)
     ·rcases hx with hx|hx|hx|hx
      ·have:=HZX.out x hx;omega
      ·omega
      ·have:=(hrn8.lt x hx).2;omega
      ·have e:g9=x:=by simpa [Value.ownBlock] using hx
       omega
    have HBA:Hid (LB rb base Z w WA):=by
     rw[Hid,←hWA]
     exact (((HBD7.out.trans (hb8.mono fun x hx=> .inl hx)).trans (LB.of_below hba)).grownN hgrow (fun x hx=>by have:=(HKD7.out.lt x hx).1;have:=HXB.out;omega)).setN (by have:=HXB.out;omega)
    have HWA2:=Xb hWA
    have zxA:xb<WA.heap.size:=by omega
    clear hb8 hst8 hn8 hx8 zx8 hS8 hf8 hbh8 hown hgrow hat hlt9 hx9 hS9 hf9 hba hza hg9 hr3 hWA hzA hrn8 x5 y5 hone2 hml2 hby2 hnr2
    have HIS:=Xb (X0l 125 (by omega) HSTA.out)
    go_wp2_with fail
    rw[HWA2.out]
    refine HIS.out.mono ?_
    rintro e w10 ⟨b10,⟨rfl,fs3,q3,hr,hi,st10⟩|⟨rfl,hno,st10⟩⟩
    ·have HY:Hid (tg=Xu WSp (Vv (names++ [T]) (kids++ [n])) fs3 (skF s.data.toList (q3+1))):=by
      rw[Hid,HSTEP.out,hr];show (if Xe s.data.toList q3 125=true then _ else _)=_;rw[if_pos (show Xe s.data.toList q3 125=true from hi)]
     have HX10:=Xb (HXA.out.keep b10 (.inr (.inl rfl)) (by omega))
     have HN10:=Xb (b10.own HNA.out (by decide) (by omega))
     have HK10:=Xb (b10.own HKA.out (by decide) (by omega))
     have HB10:=Xb (HBA.out.trans (b10.mono fun x hx=> .inl hx))
     obtain ⟨bb,fs4,y4,ha4,hp4,hl4,hb4,hg4⟩:=st10.at
     have hbb:bb=false:=by
      cases bb
      ·rfl
      ·exact absurd (hb4 rfl) (by simp)
     subst hbb
     obtain ⟨e4,hl40⟩:=hg4 rfl
     have e5:fs3=fs4∧skF s.data.toList (q3+1)=skF s.data.toList y4:=by simpa using e4
     have HY2:Hid (tg=Xu WSp (Vv (names++ [T]) (kids++ [n])) fs4 (skF s.data.toList y4)):=by rw[Hid,HY.out,e5.2,e5.1]
     have hx10:=HX10.out
     have x0:w10.cell? ⟨xb,0,none⟩=some (.int .i64 9):=cellAt hx10 rfl
     have x1:w10.cell? ⟨xb,1,none⟩=some (.string ⟨#[]⟩):=cellAt hx10 rfl
     have x2:w10.cell? ⟨xb,2,none⟩=some (.int .i64 0):=cellAt hx10 rfl
     have x3:w10.cell? ⟨xb,3,none⟩=some (.slice none 0 0):=cellAt hx10 rfl
     have x4:w10.cell? ⟨xb,4,none⟩=some (.slice (some ⟨g5,0,none⟩) (k+1) cap5):=cellAt hx10 rfl
     have x5:w10.cell? ⟨xb,5,none⟩=some (.slice (some ⟨g9,0,none⟩) (k+1) cap9):=cellAt hx10 rfl
     have HA:=Xb (Xbg (Z':=Z) (x:=Vv (names++ [T]) (kids++ [n])) (kc:= .slice none 0 0) (kn:= .slice (some ⟨g5,0,none⟩) (k+1) cap5) (ki:= .slice (some ⟨g9,0,none⟩) (k+1) cap9) ha4 (U2 _ _) (Xaq HN10.out (by omega)) (Xaq HK10.out (by omega)) (fun x hx=>by
      rcases hx with hx|hx|hx
      ·cases hx
      ·exact .inr (.inr (.inl hx))
      ·exact .inr (.inr (.inr hx))) (fun x hx=>⟨.inl hx,fun e=>by
      have h0:=HZX.out x hx
      rcases e with e|e|e
      ·cases e
      ·have:=(HN10.out.lt x e).1;omega
      ·have:=(HK10.out.lt x e).1;omega⟩) (by omega))
     clear b10 st10 hr hi ha4 hl4 hb4 hg4 e4 e5 hx10
     go_wp2_with fail
     refine HA.out.mono ?_
     rintro e w11 ⟨rfl,h11,b11⟩
     have HF11:=Xa h11
     have HB11:=Xa (HB10.out.trans (b11.mono fun x hx=> .inl hx))
     clear h11 b11
     go_wp2_with fail
     go_ret
     exact LfOr.of HY2.out (LfOr.add HF11.out hl40 (by omega) HB11.out)
    ·have HX10:=Xb (HXA.out.keep b10 (.inr (.inl rfl)) (by omega))
     have HN10:=Xb (b10.own HNA.out (by decide) (by omega))
     have HK10:=Xb (b10.own HKA.out (by decide) (by omega))
     have HB10:=Xb (HBA.out.trans (b10.mono fun x hx=> .inl hx))
     have HNO:=Xb hno
     have HWB:=Xb (Xbs 44 (by omega) st10)
     clear b10 st10 hno
     go_wp2_with fail
     refine HWB.out.mono ?_
     rintro e w11 ⟨rfl,b11,st11⟩
     obtain ⟨r4,hr4⟩:∃r4:CF,(r3.bind fun x=>if Xe s.data.toList x.2 (44:UInt8).toNat=true then some (x.1,skF s.data.toList (x.2+1)) else none)=r4:=⟨_,rfl⟩
     rw[hr4] at st11
     have HR4:Hid (tg=r4.bind fun x=>Zm WSp R s.data.toList g (names++ [T]) (kids++ [n]) x.1 x.2):=by
      rw[Hid,HSTEP.out,←hr4]
      cases e3:r3 with
      |none=>rfl
      | some x =>
       obtain ⟨f3,q3⟩:=x
       show (if Xe s.data.toList q3 125=true then _ else Yj s.data.toList q3 44 fun q=>Zm WSp R s.data.toList g (names++ [T]) (kids++ [n]) f3 q)=Option.bind (if Xe s.data.toList q3 44=true then _ else _) _
       rw[if_neg (show ¬Xe s.data.toList q3 125=true by rw[show Xe s.data.toList q3 125=false from HNO.out f3 q3 e3];decide)]
       by_cases e44:Xe s.data.toList q3 44=true
       ·rw[if_pos e44,Xi8 e44];rfl
       ·rw[if_neg e44,Xi9 e44];rfl
     have HD4:Hid (r4≠none→d=1):=fun hne=>HD3.out (fun e=>hne (by rw[←hr4,e];rfl))
     have HX11:=Xb (HX10.out.keep b11 (.inr (.inl rfl)) (by omega))
     have HN11:=Xb (b11.own HN10.out (by decide) (by omega))
     have HK11:=Xb (b11.own HK10.out (by decide) (by omega))
     have HB11:=Xb (HB10.out.trans (b11.mono fun x hx=> .inl hx))
     obtain ⟨bb,fs5,y5,ha5,hp5,hl5,hb5,hg5⟩:=st11.at
     have HA5:=Xb ha5
     have HB5:=Xb hb5
     have HG5:=Xb hg5
     have hms:Ye w11 rb s.size<s.size+1-y:=by
      rw[ha5.meas]
      have:=ha5.le
      cases bb
      ·have h4:r4≠none:=by rw[(hg5 rfl).1];simp
       have:=HD4.out h4
       rw[if_neg (by decide)];omega
      ·rw[if_pos rfl];omega
     have HMS:=Xb hms
     clear b11 st11 hr4 ha5 hb5 hg5 hms
     go_wp2_with fail
     go_roundw
     case rel=>
      refine ⟨g,y5,bb,names++ [T],kids++ [n],fs5,_,_, ?_, ?_,by omega,by omega,HA5.out,HB11.out,HX11.out, ?_, ?_, ?_⟩
      ·rw[List.length_append,List.length_singleton,HLEN.out];omega
      ·rw[List.length_append,List.length_append,List.length_singleton,List.length_singleton,HLEN.out,HKL.out]
      ·exact HN11.out
      ·exact HK11.out
      ·refine ⟨fun e=>by rw[HR4.out,HB5.out e];rfl,fun e=> ?_⟩
       obtain ⟨e4,hl4⟩:=HG5.out e
       have:=HD4.out (by rw[e4];simp)
       refine ⟨hl4, ?_,by rw[HR4.out,e4];rfl⟩
       rw[List.length_append,List.length_singleton,HLEN.out];omega
     case measure=>
      rw[HS.out.meas,if_neg (by decide)]
      exact HMS.out
end

end Go.Proofs.YtehihemfepbmfaaGreatDoor
