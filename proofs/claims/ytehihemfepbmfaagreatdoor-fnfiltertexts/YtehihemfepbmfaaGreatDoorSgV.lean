import Derived.Test.YtehihemfepbmfaaGreatDoorMkG
import Derived.Test.YtehihemfepbmfaaGreatDoorFtH
import Derived.Test.YtehihemfepbmfaaGreatDoorSgS
namespace Go.Proofs.YtehihemfepbmfaaGreatDoor
set_option linter.unusedSectionVars false
set_option maxHeartbeats 12800000
open Go.RowKit
set_option linter.unusedSimpArgs false
set_option linter.unusedVariables false
set_option maxRecDepth 100000 in
theorem Xhu {rb mb base p:Nat} {Z:Nat→Prop} {s:ByteArray} {fs:List FN} {w:World} (h:FrAt w rb mb base Z s p fs) (hs:s.size≤4000) (hq:p+1<s.size):
  Calls Tryz.prog 111 #[.pointer (some ⟨rb,0,none⟩)] w fun e w'=>e= .returned (jhV (X0 s.data.toList p))∧Below w.heap.size w w':=by
 obtain ⟨W1,hW1⟩:∃W1,w.alloc (.cells #[.int .i64 0, .string ⟨#[]⟩, .int .i64 0, .int .i64 0, .int .i64 0] 91)=W1:=⟨_,rfl⟩
 have hb1:Below w.heap.size w W1:=by rw[←hW1];exact (Below.refl _ _).alloc (Nat.le_refl _) _
 have hx1:W1.heap[w.heap.size]? =some (.cells #[.int .i64 0, .string ⟨#[]⟩, .int .i64 0, .int .i64 0, .int .i64 0] 91 (0,0)):=by rw[←hW1];exact heap_alloc_new w _
 have hz1:w.heap.size<W1.heap.size:=by rw[←hW1];simp
 have HLN:=Xa (Xm s)
 have hp:=h.le
 have HJ:Hid (X0 s.data.toList p=Uj (Xh s.data.toList p) (Xh s.data.toList (p+1))):=by rw[Hid,Xoy,Xu7]
 obtain ⟨c,hc⟩:∃c,Xh s.data.toList p=c:=⟨_,rfl⟩
 obtain ⟨d,hd⟩:∃d,Xh s.data.toList (p+1)=d:=⟨_,rfl⟩
 have hc256:c<256:=by rw[←hc];exact Jt _ _
 have hd256:d<256:=by rw[←hd];exact Jt _ _
 rw[hc,hd] at HJ
 have HD:=Xa hd
 have HX1:=Xa hx1
 have HB1:=Xa hb1
 have HF1:=Xa (h.below hb1)
 have HPK:=Xa (Xax (let ⟨v,h1,_⟩:=HF1.out.ex;h1.br) (by omega))
 rw[hc] at HPK
 clear h hb1 hx1 hc hd
 go_enter Tryz.func111,Tryz.ntmps111
 go_wp2_with fail
 (try rw[hW1])
 refine HPK.out.mono ?_
 rintro e w1 ⟨rfl,hb2⟩
 have HB2:=Xa hb2
 have HF2:=Xa (HF1.out.below hb2)
 have hz2:w.heap.size<w1.heap.size:=Nat.lt_of_lt_of_le hz1 hb2.size
 have HX2:Hid (w1.heap[w.heap.size]? =_):=(hb2.block _ hz1).trans HX1.out
 obtain ⟨W2,hW2⟩:∃W2,w1.alloc (.cells #[.int .u8 (c:Int), .int .u8 0] 110)=W2:=⟨_,rfl⟩
 have hb3:Below w1.heap.size w1 W2:=by rw[←hW2];exact (Below.refl _ _).alloc (Nat.le_refl _) _
 have HB3:=Xa hb3
 have HF3:=Xa (HF2.out.below hb3)
 have HX3:Hid (W2.heap[w.heap.size]? =_):=(hb3.block _ hz2).trans HX2.out
 have HY3:Hid (W2.heap[w1.heap.size]? =some (.cells #[.int .u8 (c:Int), .int .u8 0] 110 (0,0))):=by rw[Hid,←hW2];exact heap_alloc_new w1 _
 have hz3:w1.heap.size<W2.heap.size:=by rw[←hW2];simp
 have HW2:=Xa hW2
 clear hb2 hb3 hW2
 go_wp2_with fail
 rw[HW2.out]
 obtain ⟨c0,c1,f1,lt0⟩:=HF3.out.cells
 have y0:W2.cell? ⟨w1.heap.size,0,none⟩=some (.int .u8 (c:Int)):=cellAt HY3.out rfl
 have y1:W2.cell? ⟨w1.heap.size,1,none⟩=some (.int .u8 0):=cellAt HY3.out rfl
 have g1:W2.frozen? ⟨w1.heap.size,1,none⟩=false:=Lib.frozen_of_heap HY3.out 1
 have hq':(p:Int)+1<(s.size:Int):=by omega
 have hqd:decide ((p:Int)+1<(s.size:Int))=true:=by simpa using hq'
 have hby:s[p+1].toNat=d:=by rw[byS hq];exact HD.out
 have hte:((p:Int)+1).toNat=p+1:=by omega
 go_quiet (fail)
 have HD4:=Xa (Xq (w:=W2) nq)
 obtain ⟨W3,hW3⟩:∃W3,W2.drewN nq=W3:=⟨_,rfl⟩
 rw[hW3] at HD4⊢
 have HF4:=Xa (HF3.out.below HD4.out)
 have HX4:Hid (W3.heap[w.heap.size]? =_):=(HD4.out.block _ (by omega)).trans HX3.out
 have hy4:W3.heap[w1.heap.size]? =some (.cells #[.int .u8 (c:Int), .int .u8 0] 110 (0,0)):=(HD4.out.block _ (by omega)).trans HY3.out
 have hz4:w1.heap.size<W3.heap.size:=Nat.lt_of_lt_of_le hz3 HD4.out.size
 clear c0 c1 f1 lt0 y0 y1 g1 hW3 nq
 obtain ⟨c0,c1,f1,lt0⟩:=HF4.out.cells
 have y1:W3.cell? ⟨w1.heap.size,1,none⟩=some (.int .u8 0):=cellAt hy4 rfl
 have g1:W3.frozen? ⟨w1.heap.size,1,none⟩=false:=Lib.frozen_of_heap hy4 1
 have HY4:=Xa hy4
 clear hy4
 go_wp2_with fail
 go_region
 obtain ⟨WA,hWA⟩:∃WA,(W3.setCell ⟨w1.heap.size,1,none⟩ (.int .u8 (d:Int))).drew=WA:=⟨_,rfl⟩
 rw[hWA]
 have hbA:Below w1.heap.size W3 WA:=by rw[←hWA];exact ((Below.refl _ _).setCell (p:=⟨w1.heap.size,1,none⟩) (Nat.le_refl _) _).drew
 have HYA:Hid (WA.heap[w1.heap.size]? =some (.cells #[.int .u8 (c:Int), .int .u8 (d:Int)] 110 (0,0))):=by rw[Hid,←hWA];exact setH HY4.out _
 have HXA:Hid (WA.heap[w.heap.size]? =_):=(hbA.block _ (by omega)).trans HX4.out
 have hzA:w1.heap.size<WA.heap.size:=Nat.lt_of_lt_of_le hz4 hbA.size
 have HBA:Hid (Below w.heap.size w WA):=(((HB1.out.trans (HB2.out.mono (by omega))).trans (HB3.out.mono (by omega))).trans (HD4.out.mono (by omega))).trans (hbA.mono (by omega))
 have m3:WA.cell? ⟨rb,3,none⟩=some (.map (some mb)):=by
  obtain ⟨v,h1,_⟩:=HF4.out.ex
  rw[←hWA]
  simp only[World.cell?_drew]
  rw[World.cell?_setCell_other (h:=by have:=(HF2.out.cells).2.2.2;simp;try omega)]
  exact h1.bl 3 (by decide)
 have mmp:WA.heap[mb]? =some (.map (Qr 10) 10):=(hbA.block mb (by have:=HF2.out.box.mb_lt;have:=HF2.out.box.sz;omega)).trans HF4.out.box.mp
 clear hWA hbA c0 c1 f1 y1 g1 hq hq' hqd hby hte HD4 HF4 HX4 HY4 hz4
 all_goals
  obtain ⟨k1,t1,l1,fl1,r1,ok1,hlk,hor1⟩:=Xee mb c d
  have hlk1:=hlk WA.drew mmp
  have hmb:mb<WA.heap.size:=Wy mmp
  have hlk2:=hlk ((WA.alloc (.cells #[.int .i64 0, .string ⟨#[]⟩, .int .i64 0, .int .i64 0, .int .i64 0] 91)).drew) ((heap_alloc_old WA _ hmb).trans mmp)
  have HOR1:=Xa hor1
  have HMP:=Xa mmp
  have hrl:rb<WA.heap.size:=by have:=HF2.out.cells.2.2.2;omega
  clear hor1 mmp hlk
  have y0:WA.cell? ⟨w1.heap.size,0,none⟩=some (.int .u8 (c:Int)):=cellAt HYA.out rfl
  have y1:WA.cell? ⟨w1.heap.size,1,none⟩=some (.int .u8 (d:Int)):=cellAt HYA.out rfl
  have HW2':=HW2
  clear HW2
  go_wp2_with fail
  go_region
 all_goals
  obtain ⟨WB,hWB⟩:∃WB,(WA.alloc (.cells #[.int .i64 k1, .string t1, .int .i64 l1, .int .i64 fl1, .int .i64 r1] 91)).drew=WB:=⟨_,rfl⟩
  rw[hWB]
  have hbB:Below WA.heap.size WA WB:=by rw[←hWB];exact ((Below.refl _ _).alloc (Nat.le_refl _) _).drew
  have hjB:WB.heap[WA.heap.size]? =some (.cells #[.int .i64 k1, .string t1, .int .i64 l1, .int .i64 fl1, .int .i64 r1] 91 (0,0)):=by rw[←hWB];exact heap_alloc_new WA _
  have HXB:Hid (WB.heap[w.heap.size]? =_):=(hbB.block _ (by omega)).trans HXA.out
  have HYB:Hid (WB.heap[w1.heap.size]? =_):=(hbB.block _ (by omega)).trans HYA.out
  have HMPB:Hid (WB.heap[mb]? =_):=(hbB.block _ hmb).trans HMP.out
  have HBB:=Xa (HBA.out.trans (hbB.mono (by omega)))
  have hzB:WA.heap.size<WB.heap.size:=by rw[←hWB];simp
  have hmbB:mb<WB.heap.size:=by omega
  have m3':WB.cell? ⟨rb,3,none⟩=some (.map (some mb)):=(Xcv (hbB.block rb hrl)).trans m3
  clear hWB hbB hlk1 hlk2 m3 y0 y1
  have m3:=m3'
  clear m3'
  have y0:WB.cell? ⟨w1.heap.size,0,none⟩=some (.int .u8 (c:Int)):=cellAt HYB.out rfl
  have y1:WB.cell? ⟨w1.heap.size,1,none⟩=some (.int .u8 (d:Int)):=cellAt HYB.out rfl
  have j0:=cellAt hjB (i:=0) rfl
  have j1:=cellAt hjB (i:=1) rfl
  have j2:=cellAt hjB (i:=2) rfl
  have j3:=cellAt hjB (i:=3) rfl
  have j4:=cellAt hjB (i:=4) rfl
  have u0:=cellAt HXB.out (i:=0) rfl
  have u1:=cellAt HXB.out (i:=1) rfl
  have u2:=cellAt HXB.out (i:=2) rfl
  have u3:=cellAt HXB.out (i:=3) rfl
  have u4:=cellAt HXB.out (i:=4) rfl
  have v0:WB.frozen? ⟨w.heap.size,0,none⟩=false:=Lib.frozen_of_heap HXB.out 0
  have v1:WB.frozen? ⟨w.heap.size,1,none⟩=false:=Lib.frozen_of_heap HXB.out 1
  have v2:WB.frozen? ⟨w.heap.size,2,none⟩=false:=Lib.frozen_of_heap HXB.out 2
  have v3:WB.frozen? ⟨w.heap.size,3,none⟩=false:=Lib.frozen_of_heap HXB.out 3
  have v4:WB.frozen? ⟨w.heap.size,4,none⟩=false:=Lib.frozen_of_heap HXB.out 4
  have hne2:¬w.heap.size=WA.heap.size:=by omega
  have hne3:¬WA.heap.size=w.heap.size:=by omega
  have hrlB:rb<WB.heap.size:=by omega
  have hw1B:w1.heap.size<WB.heap.size:=by omega
  clear hjB HXA HYA HMP hrl hmb
  by_cases hA:ok1=true∧d≠0
  ·obtain ⟨hok,hd0⟩:=hA
   subst hok
   have dne:((d:Int) !=0)=true:=by simp;omega
   have dne2:¬(d:Int)=0:=by omega
   have HR:Hid (jhV (X0 s.data.toList p)= .tuple #[.agg #[.int .i64 k1, .string t1, .int .i64 l1, .int .i64 fl1, .int .i64 r1], .int .i64 2]):=by
    rcases HOR1.out with ⟨_,hk,e1,e2,e3,e4⟩|⟨e,_⟩
    ·rw[Hid,HJ.out];unfold Uj;rw[if_neg hd0,hk,e1,e2,e3,e4];rfl
    ·cases e
   clear HOR1
   go_wp2_with fail
   refine Gq (Xac HXB.out) rfl rfl rfl ?_
   exact ⟨by rw[HR.out];rfl,((((HBB.out.setCell (p:=⟨w.heap.size,0,none⟩) (Nat.le_refl _) _).setCell (p:=⟨w.heap.size,1,none⟩) (Nat.le_refl _) _).setCell (p:=⟨w.heap.size,2,none⟩) (Nat.le_refl _) _).setCell (p:=⟨w.heap.size,3,none⟩) (Nat.le_refl _) _).setCell (p:=⟨w.heap.size,4,none⟩) (Nat.le_refl _) _⟩
  have HFST:Hid ((if d=0 then none else Ga c d)=none):=by
   rw[Hid]
   split
   ·rfl
   ·rename_i hd0
    rcases HOR1.out with ⟨e,_⟩|⟨_,hk⟩
    ·exact absurd ⟨e,hd0⟩ hA
    ·exact hk
  have hB:ok1=false∨(ok1=true∧(d:Int)=0):=by
   cases ok1
   ·exact .inl rfl
   ·refine .inr ⟨rfl, ?_⟩
    by_cases h:d=0
    ·omega
    ·exact absurd ⟨rfl,h⟩ hA
  clear HOR1 hA
  rcases hB with hB|⟨hB,hd0⟩
  ·subst hB
   obtain ⟨k2,t2,l2,fl2,r2,ok2,hlk,hor2⟩:=Xa9 mb c
   have hlk1:=hlk WB.drew HMPB.out
   have hlk2:=hlk ((WB.alloc (.cells #[.int .i64 0, .string ⟨#[]⟩, .int .i64 0, .int .i64 0, .int .i64 0] 91)).drew) ((heap_alloc_old WB _ hmbB).trans HMPB.out)
   clear hlk
   have HOR2:=Xa hor2
   clear hor2
   go_wp2_with fail
   go_region
   all_goals
    obtain ⟨WC,hWC⟩:∃WC,(WB.alloc (.cells #[.int .i64 k2, .string t2, .int .i64 l2, .int .i64 fl2, .int .i64 r2] 91)).drew=WC:=⟨_,rfl⟩
    rw[hWC]
    have hbC:Below WB.heap.size WB WC:=by rw[←hWC];exact ((Below.refl _ _).alloc (Nat.le_refl _) _).drew
    have hjC:WC.heap[WB.heap.size]? =some (.cells #[.int .i64 k2, .string t2, .int .i64 l2, .int .i64 fl2, .int .i64 r2] 91 (0,0)):=by rw[←hWC];exact heap_alloc_new WB _
    have HXC:Hid (WC.heap[w.heap.size]? =_):=(hbC.block _ (by omega)).trans HXB.out
    have HBC:=Xa (HBB.out.trans (hbC.mono (by omega)))
    have hzC:WB.heap.size<WC.heap.size:=by rw[←hWC];simp
    clear hWC hbC hlk1 hlk2 m3 y0 y1 u0 u1 u2 u3 u4 v0 v1 v2 v3 v4 j0 j1 j2 j3 j4
    have j0:=cellAt hjC (i:=0) rfl
    have j1:=cellAt hjC (i:=1) rfl
    have j2:=cellAt hjC (i:=2) rfl
    have j3:=cellAt hjC (i:=3) rfl
    have j4:=cellAt hjC (i:=4) rfl
    have u0:=cellAt HXC.out (i:=0) rfl
    have u1:=cellAt HXC.out (i:=1) rfl
    have u2:=cellAt HXC.out (i:=2) rfl
    have u3:=cellAt HXC.out (i:=3) rfl
    have u4:=cellAt HXC.out (i:=4) rfl
    have v0:WC.frozen? ⟨w.heap.size,0,none⟩=false:=Lib.frozen_of_heap HXC.out 0
    have v1:WC.frozen? ⟨w.heap.size,1,none⟩=false:=Lib.frozen_of_heap HXC.out 1
    have v2:WC.frozen? ⟨w.heap.size,2,none⟩=false:=Lib.frozen_of_heap HXC.out 2
    have v3:WC.frozen? ⟨w.heap.size,3,none⟩=false:=Lib.frozen_of_heap HXC.out 3
    have v4:WC.frozen? ⟨w.heap.size,4,none⟩=false:=Lib.frozen_of_heap HXC.out 4
    have hne2:¬w.heap.size=WB.heap.size:=by omega
    have hne3:¬WB.heap.size=w.heap.size:=by omega
    clear hjC
    rcases HOR2.out with ⟨e,hk,e1,e2,e3,e4⟩|⟨e,hk⟩
    ·subst e
     have HR:Hid (jhV (X0 s.data.toList p)= .tuple #[.agg #[.int .i64 k2, .string t2, .int .i64 l2, .int .i64 fl2, .int .i64 r2], .int .i64 1]):=by rw[Hid,HJ.out];unfold Uj;rw[HFST.out,hk,e1,e2,e3,e4];rfl
     clear hk e1 e2 e3 e4 HOR2
     go_wp2_with fail
     refine Gq (Xac HXC.out) rfl rfl rfl ?_
     exact ⟨by rw[HR.out];rfl,((((HBC.out.setCell (p:=⟨w.heap.size,0,none⟩) (Nat.le_refl _) _).setCell (p:=⟨w.heap.size,1,none⟩) (Nat.le_refl _) _).setCell (p:=⟨w.heap.size,2,none⟩) (Nat.le_refl _) _).setCell (p:=⟨w.heap.size,3,none⟩) (Nat.le_refl _) _).setCell (p:=⟨w.heap.size,4,none⟩) (Nat.le_refl _) _⟩
    ·subst e
     have HR:Hid (jhV (X0 s.data.toList p)= .tuple #[.agg #[.int .i64 0, .string ⟨#[]⟩, .int .i64 0, .int .i64 0, .int .i64 0], .int .i64 0]):=by rw[Hid,HJ.out];unfold Uj;rw[HFST.out,hk];rfl
     clear hk HOR2
     go_wp2_with fail
     refine Gq (Xac HXC.out) rfl rfl rfl ?_
     exact ⟨by rw[HR.out];rfl,((((HBC.out.setCell (p:=⟨w.heap.size,0,none⟩) (Nat.le_refl _) _).setCell (p:=⟨w.heap.size,1,none⟩) (Nat.le_refl _) _).setCell (p:=⟨w.heap.size,2,none⟩) (Nat.le_refl _) _).setCell (p:=⟨w.heap.size,3,none⟩) (Nat.le_refl _) _).setCell (p:=⟨w.heap.size,4,none⟩) (Nat.le_refl _) _⟩
  ·subst hB
   rw[hd0] at y1
   clear hd0
   obtain ⟨k2,t2,l2,fl2,r2,ok2,hlk,hor2⟩:=Xa9 mb c
   have hlk1:=hlk WB.drew HMPB.out
   have hlk2:=hlk ((WB.alloc (.cells #[.int .i64 0, .string ⟨#[]⟩, .int .i64 0, .int .i64 0, .int .i64 0] 91)).drew) ((heap_alloc_old WB _ hmbB).trans HMPB.out)
   clear hlk
   have HOR2:=Xa hor2
   clear hor2
   go_wp2_with fail
   go_region
   all_goals
    obtain ⟨WC,hWC⟩:∃WC,(WB.alloc (.cells #[.int .i64 k2, .string t2, .int .i64 l2, .int .i64 fl2, .int .i64 r2] 91)).drew=WC:=⟨_,rfl⟩
    rw[hWC]
    have hbC:Below WB.heap.size WB WC:=by rw[←hWC];exact ((Below.refl _ _).alloc (Nat.le_refl _) _).drew
    have hjC:WC.heap[WB.heap.size]? =some (.cells #[.int .i64 k2, .string t2, .int .i64 l2, .int .i64 fl2, .int .i64 r2] 91 (0,0)):=by rw[←hWC];exact heap_alloc_new WB _
    have HXC:Hid (WC.heap[w.heap.size]? =_):=(hbC.block _ (by omega)).trans HXB.out
    have HBC:=Xa (HBB.out.trans (hbC.mono (by omega)))
    have hzC:WB.heap.size<WC.heap.size:=by rw[←hWC];simp
    clear hWC hbC hlk1 hlk2 m3 y0 y1 u0 u1 u2 u3 u4 v0 v1 v2 v3 v4 j0 j1 j2 j3 j4
    have j0:=cellAt hjC (i:=0) rfl
    have j1:=cellAt hjC (i:=1) rfl
    have j2:=cellAt hjC (i:=2) rfl
    have j3:=cellAt hjC (i:=3) rfl
    have j4:=cellAt hjC (i:=4) rfl
    have u0:=cellAt HXC.out (i:=0) rfl
    have u1:=cellAt HXC.out (i:=1) rfl
    have u2:=cellAt HXC.out (i:=2) rfl
    have u3:=cellAt HXC.out (i:=3) rfl
    have u4:=cellAt HXC.out (i:=4) rfl
    have v0:WC.frozen? ⟨w.heap.size,0,none⟩=false:=Lib.frozen_of_heap HXC.out 0
    have v1:WC.frozen? ⟨w.heap.size,1,none⟩=false:=Lib.frozen_of_heap HXC.out 1
    have v2:WC.frozen? ⟨w.heap.size,2,none⟩=false:=Lib.frozen_of_heap HXC.out 2
    have v3:WC.frozen? ⟨w.heap.size,3,none⟩=false:=Lib.frozen_of_heap HXC.out 3
    have v4:WC.frozen? ⟨w.heap.size,4,none⟩=false:=Lib.frozen_of_heap HXC.out 4
    have hne2:¬w.heap.size=WB.heap.size:=by omega
    have hne3:¬WB.heap.size=w.heap.size:=by omega
    clear hjC
    rcases HOR2.out with ⟨e,hk,e1,e2,e3,e4⟩|⟨e,hk⟩
    ·subst e
     have HR:Hid (jhV (X0 s.data.toList p)= .tuple #[.agg #[.int .i64 k2, .string t2, .int .i64 l2, .int .i64 fl2, .int .i64 r2], .int .i64 1]):=by rw[Hid,HJ.out];unfold Uj;rw[HFST.out,hk,e1,e2,e3,e4];rfl
     clear hk e1 e2 e3 e4 HOR2
     go_wp2_with fail
     refine Gq (Xac HXC.out) rfl rfl rfl ?_
     exact ⟨by rw[HR.out];rfl,((((HBC.out.setCell (p:=⟨w.heap.size,0,none⟩) (Nat.le_refl _) _).setCell (p:=⟨w.heap.size,1,none⟩) (Nat.le_refl _) _).setCell (p:=⟨w.heap.size,2,none⟩) (Nat.le_refl _) _).setCell (p:=⟨w.heap.size,3,none⟩) (Nat.le_refl _) _).setCell (p:=⟨w.heap.size,4,none⟩) (Nat.le_refl _) _⟩
    ·subst e
     have HR:Hid (jhV (X0 s.data.toList p)= .tuple #[.agg #[.int .i64 0, .string ⟨#[]⟩, .int .i64 0, .int .i64 0, .int .i64 0], .int .i64 0]):=by rw[Hid,HJ.out];unfold Uj;rw[HFST.out,hk];rfl
     clear hk HOR2
     go_wp2_with fail
     refine Gq (Xac HXC.out) rfl rfl rfl ?_
     exact ⟨by rw[HR.out];rfl,((((HBC.out.setCell (p:=⟨w.heap.size,0,none⟩) (Nat.le_refl _) _).setCell (p:=⟨w.heap.size,1,none⟩) (Nat.le_refl _) _).setCell (p:=⟨w.heap.size,2,none⟩) (Nat.le_refl _) _).setCell (p:=⟨w.heap.size,3,none⟩) (Nat.le_refl _) _).setCell (p:=⟨w.heap.size,4,none⟩) (Nat.le_refl _) _⟩

set_option maxRecDepth 100000 in
theorem Xp9 {rb base p q:Nat} {Z:Nat→Prop} {s:ByteArray} {fs:List FN} {w:World} (h:LfAt w rb base Z s p true fs) (hs:s.size≤4000) (hq:skF s.data.toList p=q):
  Calls Tryz.prog 81 #[.pointer (some ⟨rb,0,none⟩), .int .i64 1] w fun e w'=>e= .returned (.int .i64 0)∧LB rb base Z w w'∧LfAt w' rb base Z s q true fs:=by
 have HBK:=Xa (Yy h hs)
 have HLN:=Xa (Xm s)
 have HQQ:Hid (skF s.data.toList q=q):=by rw[Hid,←hq];exact Yh _ _
 have hql:q≤s.size:=by rw[←hq,←HLN.out];exact X1 (by rw[HLN.out];exact h.le)
 rw[hq] at HBK
 clear h hq
 by_cases hlt:q+1<s.size
 focus
  have hlt0:(q:Int)<(s.size:Int):=by omega
  have hlt1:(q:Int)+1<(s.size:Int):=by omega
  have hd1:decide ((q:Int)+1<(s.size:Int))=true:=by simpa using hlt1
  have HBA:=Xa (byS (show q<s.size by omega))
  have HBB:=Xa (byS hlt)
  obtain ⟨c,hc⟩:∃c,s[q].toNat=c:=⟨_,rfl⟩
  obtain ⟨d,hd⟩:∃d,s[q+1].toNat=d:=⟨_,rfl⟩
  have HC:Hid (Xh s.data.toList q=c):=by rw[Hid,←HBA.out];exact hc
  have HD:Hid (Xh s.data.toList (q+1)=d):=by rw[Hid,←HBB.out];exact hd
  have et:((q:Int)+1).toNat=q+1:=by omega
  by_cases e1:c=47
  focus
   have n1:((c:Int)==47)=true:=by rw[e1];rfl
   have n1':(c:Int)=47:=by omega
   by_cases e2:d=47
   focus
    have n2:((d:Int)==47)=true:=by rw[e2];rfl
    have n2':(d:Int)=47:=by omega
    have HTW:Hid ((Xe s.data.toList q 47&&Xe s.data.toList (q+1) 47)=true):=by
     rw[Hid,Bool.and_eq_true];exact ⟨Xl.2 ⟨by rw[HLN.out];omega,by rw[HC.out,e1]⟩,Xl.2 ⟨by rw[HLN.out];omega,by rw[HD.out,e2]⟩⟩
    go_enter Tryz.func81,Tryz.ntmps81
    go_wp2_with fail
    refine HBK.out.mono ?_
    rintro e w1 ⟨rfl,h,b⟩
    have HF1:=Xa h
    have HB1:=Xa b
    obtain ⟨c0,c1,c2⟩:=h.cells
    clear h b
    go_wp2_with fail
    go_quiet (fail)
   rotate_left
   focus
    have n2:((d:Int)==47)=false:=by simp;omega
    have n2':¬(d:Int)=47:=by omega
    have HTW:Hid ((Xe s.data.toList q 47&&Xe s.data.toList (q+1) 47)=false):=by
     rw[Hid,Bool.and_eq_false_iff];right;rw[X7];rintro ⟨_,e⟩;rw[HD.out] at e;exact e2 e
    go_enter Tryz.func81,Tryz.ntmps81
    go_wp2_with fail
    refine HBK.out.mono ?_
    rintro e w1 ⟨rfl,h,b⟩
    have HF1:=Xa h
    have HB1:=Xa b
    obtain ⟨c0,c1,c2⟩:=h.cells
    clear h b
    go_wp2_with fail
    go_quiet (fail)
  rotate_left 2
  focus
   have n1:((c:Int)==47)=false:=by simp;omega
   have n1':¬(c:Int)=47:=by omega
   have HTW:Hid ((Xe s.data.toList q 47&&Xe s.data.toList (q+1) 47)=false):=by
    rw[Hid,Bool.and_eq_false_iff];left;rw[X7];rintro ⟨_,e⟩;rw[HC.out] at e;exact e1 e
   go_enter Tryz.func81,Tryz.ntmps81
   go_wp2_with fail
   refine HBK.out.mono ?_
   rintro e w1 ⟨rfl,h,b⟩
   have HF1:=Xa h
   have HB1:=Xa b
   obtain ⟨c0,c1,c2⟩:=h.cells
   clear h b
   go_wp2_with fail
   go_quiet (fail)
 rotate_left 3
 focus
  have hlt1:¬(q:Int)+1<(s.size:Int):=by omega
  have hd1:decide ((q:Int)+1<(s.size:Int))=false:=by simpa using hlt1
  have HTW:Hid ((Xe s.data.toList q 47&&Xe s.data.toList (q+1) 47)=false):=by
   rw[Hid,Bool.and_eq_false_iff];right;rw[X7];rintro ⟨e,_⟩;rw[HLN.out] at e;omega
  go_enter Tryz.func81,Tryz.ntmps81
  go_wp2_with fail
  refine HBK.out.mono ?_
  rintro e w1 ⟨rfl,h,b⟩
  have HF1:=Xa h
  have HB1:=Xa b
  obtain ⟨c0,c1,c2⟩:=h.cells
  clear h b
  go_wp2_with fail
  go_quiet (fail)
 all_goals
  have HDD:=Xa (Xq (w:=w1) nq)
  have HF2:=Xa (HF1.out.below HDD.out)
  have HB2:=Xa (HB1.out.trans (LB.of_below HDD.out))
  clear c0 c1 c2
  generalize w1.drewN nq=W0 at HDD HF2 HB2⊢
  clear nq
  have hi0:=Ke (u:=⟨#[124]⟩) HF2.out (by omega) (by show (1:Nat)≤100;omega) (.inl rfl)
  rw[HQQ.out] at hi0
  have HI0:=Xa hi0
  clear hi0
  go_wp2_with fail
  refine HI0.out.mono ?_
  rintro e v0 ⟨rfl,h3,b3⟩
  have HG0:=Xa h3
  have HC0:=Xa (HB2.out.trans b3)
  clear h3 b3
  go_wp2_with fail
  go_ret
  exact ⟨rfl,HC0.out,HG0.out⟩
set_option maxRecDepth 100000 in
theorem Xqa {rb base p q:Nat} {Z:Nat→Prop} {s:ByteArray} {fs:List FN} {w:World} (h:LfAt w rb base Z s p true fs) (hs:s.size≤4000) (hq:skF s.data.toList p=q):
  Calls Tryz.prog 81 #[.pointer (some ⟨rb,0,none⟩), .int .i64 2] w fun e w'=>e= .returned (.int .i64 0)∧LB rb base Z w w'∧LfAt w' rb base Z s q true fs:=by
 have HBK:=Xa (Yy h hs)
 have HLN:=Xa (Xm s)
 have HQQ:Hid (skF s.data.toList q=q):=by rw[Hid,←hq];exact Yh _ _
 have hql:q≤s.size:=by rw[←hq,←HLN.out];exact X1 (by rw[HLN.out];exact h.le)
 rw[hq] at HBK
 clear h hq
 by_cases hlt:q+1<s.size
 focus
  have hlt0:(q:Int)<(s.size:Int):=by omega
  have hlt1:(q:Int)+1<(s.size:Int):=by omega
  have hd1:decide ((q:Int)+1<(s.size:Int))=true:=by simpa using hlt1
  have HBA:=Xa (byS (show q<s.size by omega))
  have HBB:=Xa (byS hlt)
  obtain ⟨c,hc⟩:∃c,s[q].toNat=c:=⟨_,rfl⟩
  obtain ⟨d,hd⟩:∃d,s[q+1].toNat=d:=⟨_,rfl⟩
  have HC:Hid (Xh s.data.toList q=c):=by rw[Hid,←HBA.out];exact hc
  have HD:Hid (Xh s.data.toList (q+1)=d):=by rw[Hid,←HBB.out];exact hd
  have et:((q:Int)+1).toNat=q+1:=by omega
  by_cases e1:c=47
  focus
   have n1:((c:Int)==47)=true:=by rw[e1];rfl
   have n1':(c:Int)=47:=by omega
   by_cases e2:d=47
   focus
    have n2:((d:Int)==47)=true:=by rw[e2];rfl
    have n2':(d:Int)=47:=by omega
    have HTW:Hid ((Xe s.data.toList q 47&&Xe s.data.toList (q+1) 47)=true):=by
     rw[Hid,Bool.and_eq_true];exact ⟨Xl.2 ⟨by rw[HLN.out];omega,by rw[HC.out,e1]⟩,Xl.2 ⟨by rw[HLN.out];omega,by rw[HD.out,e2]⟩⟩
    go_enter Tryz.func81,Tryz.ntmps81
    go_wp2_with fail
    refine HBK.out.mono ?_
    rintro e w1 ⟨rfl,h,b⟩
    have HF1:=Xa h
    have HB1:=Xa b
    obtain ⟨c0,c1,c2⟩:=h.cells
    clear h b
    go_wp2_with fail
    go_quiet (fail)
   rotate_left
   focus
    have n2:((d:Int)==47)=false:=by simp;omega
    have n2':¬(d:Int)=47:=by omega
    have HTW:Hid ((Xe s.data.toList q 47&&Xe s.data.toList (q+1) 47)=false):=by
     rw[Hid,Bool.and_eq_false_iff];right;rw[X7];rintro ⟨_,e⟩;rw[HD.out] at e;exact e2 e
    go_enter Tryz.func81,Tryz.ntmps81
    go_wp2_with fail
    refine HBK.out.mono ?_
    rintro e w1 ⟨rfl,h,b⟩
    have HF1:=Xa h
    have HB1:=Xa b
    obtain ⟨c0,c1,c2⟩:=h.cells
    clear h b
    go_wp2_with fail
    go_quiet (fail)
  rotate_left 2
  focus
   have n1:((c:Int)==47)=false:=by simp;omega
   have n1':¬(c:Int)=47:=by omega
   have HTW:Hid ((Xe s.data.toList q 47&&Xe s.data.toList (q+1) 47)=false):=by
    rw[Hid,Bool.and_eq_false_iff];left;rw[X7];rintro ⟨_,e⟩;rw[HC.out] at e;exact e1 e
   go_enter Tryz.func81,Tryz.ntmps81
   go_wp2_with fail
   refine HBK.out.mono ?_
   rintro e w1 ⟨rfl,h,b⟩
   have HF1:=Xa h
   have HB1:=Xa b
   obtain ⟨c0,c1,c2⟩:=h.cells
   clear h b
   go_wp2_with fail
   go_quiet (fail)
 rotate_left 3
 focus
  have hlt1:¬(q:Int)+1<(s.size:Int):=by omega
  have hd1:decide ((q:Int)+1<(s.size:Int))=false:=by simpa using hlt1
  have HTW:Hid ((Xe s.data.toList q 47&&Xe s.data.toList (q+1) 47)=false):=by
   rw[Hid,Bool.and_eq_false_iff];right;rw[X7];rintro ⟨e,_⟩;rw[HLN.out] at e;omega
  go_enter Tryz.func81,Tryz.ntmps81
  go_wp2_with fail
  refine HBK.out.mono ?_
  rintro e w1 ⟨rfl,h,b⟩
  have HF1:=Xa h
  have HB1:=Xa b
  obtain ⟨c0,c1,c2⟩:=h.cells
  clear h b
  go_wp2_with fail
  go_quiet (fail)
 all_goals
  have HDD:=Xa (Xq (w:=w1) nq)
  have HF2:=Xa (HF1.out.below HDD.out)
  have HB2:=Xa (HB1.out.trans (LB.of_below HDD.out))
  clear c0 c1 c2
  generalize w1.drewN nq=W0 at HDD HF2 HB2⊢
  clear nq
  have hi0:=Ke (u:=⟨#[44]⟩) HF2.out (by omega) (by show (1:Nat)≤100;omega) (.inl rfl)
  rw[HQQ.out] at hi0
  have HI0:=Xa hi0
  clear hi0
  go_wp2_with fail
  refine HI0.out.mono ?_
  rintro e v0 ⟨rfl,h3,b3⟩
  have HG0:=Xa h3
  have HC0:=Xa (HB2.out.trans b3)
  clear h3 b3
  go_wp2_with fail
  go_ret
  exact ⟨rfl,HC0.out,HG0.out⟩
set_option maxRecDepth 100000 in
theorem Xqb {rb base p q:Nat} {Z:Nat→Prop} {s:ByteArray} {fs:List FN} {w:World} (h:LfAt w rb base Z s p true fs) (hs:s.size≤4000) (hq:skF s.data.toList p=q):
  Calls Tryz.prog 81 #[.pointer (some ⟨rb,0,none⟩), .int .i64 3] w fun e w'=>e= .returned (.int .i64 0)∧LB rb base Z w w'∧LfAt w' rb base Z s q true fs:=by
 have HBK:=Xa (Yy h hs)
 have HLN:=Xa (Xm s)
 have HQQ:Hid (skF s.data.toList q=q):=by rw[Hid,←hq];exact Yh _ _
 have hql:q≤s.size:=by rw[←hq,←HLN.out];exact X1 (by rw[HLN.out];exact h.le)
 rw[hq] at HBK
 clear h hq
 by_cases hlt:q+1<s.size
 focus
  have hlt0:(q:Int)<(s.size:Int):=by omega
  have hlt1:(q:Int)+1<(s.size:Int):=by omega
  have hd1:decide ((q:Int)+1<(s.size:Int))=true:=by simpa using hlt1
  have HBA:=Xa (byS (show q<s.size by omega))
  have HBB:=Xa (byS hlt)
  obtain ⟨c,hc⟩:∃c,s[q].toNat=c:=⟨_,rfl⟩
  obtain ⟨d,hd⟩:∃d,s[q+1].toNat=d:=⟨_,rfl⟩
  have HC:Hid (Xh s.data.toList q=c):=by rw[Hid,←HBA.out];exact hc
  have HD:Hid (Xh s.data.toList (q+1)=d):=by rw[Hid,←HBB.out];exact hd
  have et:((q:Int)+1).toNat=q+1:=by omega
  by_cases e1:c=47
  focus
   have n1:((c:Int)==47)=true:=by rw[e1];rfl
   have n1':(c:Int)=47:=by omega
   by_cases e2:d=47
   focus
    have n2:((d:Int)==47)=true:=by rw[e2];rfl
    have n2':(d:Int)=47:=by omega
    have HTW:Hid ((Xe s.data.toList q 47&&Xe s.data.toList (q+1) 47)=true):=by
     rw[Hid,Bool.and_eq_true];exact ⟨Xl.2 ⟨by rw[HLN.out];omega,by rw[HC.out,e1]⟩,Xl.2 ⟨by rw[HLN.out];omega,by rw[HD.out,e2]⟩⟩
    go_enter Tryz.func81,Tryz.ntmps81
    go_wp2_with fail
    refine HBK.out.mono ?_
    rintro e w1 ⟨rfl,h,b⟩
    have HF1:=Xa h
    have HB1:=Xa b
    obtain ⟨c0,c1,c2⟩:=h.cells
    clear h b
    go_wp2_with fail
    go_quiet (fail)
   rotate_left
   focus
    have n2:((d:Int)==47)=false:=by simp;omega
    have n2':¬(d:Int)=47:=by omega
    have HTW:Hid ((Xe s.data.toList q 47&&Xe s.data.toList (q+1) 47)=false):=by
     rw[Hid,Bool.and_eq_false_iff];right;rw[X7];rintro ⟨_,e⟩;rw[HD.out] at e;exact e2 e
    go_enter Tryz.func81,Tryz.ntmps81
    go_wp2_with fail
    refine HBK.out.mono ?_
    rintro e w1 ⟨rfl,h,b⟩
    have HF1:=Xa h
    have HB1:=Xa b
    obtain ⟨c0,c1,c2⟩:=h.cells
    clear h b
    go_wp2_with fail
    go_quiet (fail)
  rotate_left 2
  focus
   have n1:((c:Int)==47)=false:=by simp;omega
   have n1':¬(c:Int)=47:=by omega
   have HTW:Hid ((Xe s.data.toList q 47&&Xe s.data.toList (q+1) 47)=false):=by
    rw[Hid,Bool.and_eq_false_iff];left;rw[X7];rintro ⟨_,e⟩;rw[HC.out] at e;exact e1 e
   go_enter Tryz.func81,Tryz.ntmps81
   go_wp2_with fail
   refine HBK.out.mono ?_
   rintro e w1 ⟨rfl,h,b⟩
   have HF1:=Xa h
   have HB1:=Xa b
   obtain ⟨c0,c1,c2⟩:=h.cells
   clear h b
   go_wp2_with fail
   go_quiet (fail)
 rotate_left 3
 focus
  have hlt1:¬(q:Int)+1<(s.size:Int):=by omega
  have hd1:decide ((q:Int)+1<(s.size:Int))=false:=by simpa using hlt1
  have HTW:Hid ((Xe s.data.toList q 47&&Xe s.data.toList (q+1) 47)=false):=by
   rw[Hid,Bool.and_eq_false_iff];right;rw[X7];rintro ⟨e,_⟩;rw[HLN.out] at e;omega
  go_enter Tryz.func81,Tryz.ntmps81
  go_wp2_with fail
  refine HBK.out.mono ?_
  rintro e w1 ⟨rfl,h,b⟩
  have HF1:=Xa h
  have HB1:=Xa b
  obtain ⟨c0,c1,c2⟩:=h.cells
  clear h b
  go_wp2_with fail
  go_quiet (fail)
 all_goals
  have HDD:=Xa (Xq (w:=w1) nq)
  have HF2:=Xa (HF1.out.below HDD.out)
  have HB2:=Xa (HB1.out.trans (LB.of_below HDD.out))
  clear c0 c1 c2
  generalize w1.drewN nq=W0 at HDD HF2 HB2⊢
  clear nq
  have hi:=Ke (u:=⟨#[47,47]⟩) HF2.out (by omega) (by show (2:Nat)≤100;omega) (.inl rfl)
  rw[HQQ.out] at hi
  have HI:=Xa hi
  clear hi
  first
   | (go_wp2_with fail
      go_ret
      exact ⟨rfl,HB2.out,HF2.out⟩)
   | (go_wp2_with fail
      refine HI.out.mono ?_
      rintro e w3 ⟨rfl,h3,b3⟩
      have HF3:=Xa h3
      have HB3:=Xa (HB2.out.trans b3)
      clear h3 b3
      go_wp2_with fail
      go_ret
      exact ⟨rfl,HB3.out,HF3.out⟩)
set_option maxRecDepth 100000 in
theorem Xqc {rb base p q:Nat} {Z:Nat→Prop} {s:ByteArray} {fs:List FN} {w:World} (h:LfAt w rb base Z s p true fs) (hs:s.size≤4000) (hq:skF s.data.toList p=q):
  Calls Tryz.prog 81 #[.pointer (some ⟨rb,0,none⟩), .int .i64 4] w fun e w'=>e= .returned (.int .i64 0)∧LB rb base Z w w'∧LfAt w' rb base Z s q true fs:=by
 have HBK:=Xa (Yy h hs)
 have HLN:=Xa (Xm s)
 have HQQ:Hid (skF s.data.toList q=q):=by rw[Hid,←hq];exact Yh _ _
 have hql:q≤s.size:=by rw[←hq,←HLN.out];exact X1 (by rw[HLN.out];exact h.le)
 rw[hq] at HBK
 clear h hq
 by_cases hlt:q+1<s.size
 focus
  have hlt0:(q:Int)<(s.size:Int):=by omega
  have hlt1:(q:Int)+1<(s.size:Int):=by omega
  have hd1:decide ((q:Int)+1<(s.size:Int))=true:=by simpa using hlt1
  have HBA:=Xa (byS (show q<s.size by omega))
  have HBB:=Xa (byS hlt)
  obtain ⟨c,hc⟩:∃c,s[q].toNat=c:=⟨_,rfl⟩
  obtain ⟨d,hd⟩:∃d,s[q+1].toNat=d:=⟨_,rfl⟩
  have HC:Hid (Xh s.data.toList q=c):=by rw[Hid,←HBA.out];exact hc
  have HD:Hid (Xh s.data.toList (q+1)=d):=by rw[Hid,←HBB.out];exact hd
  have et:((q:Int)+1).toNat=q+1:=by omega
  by_cases e1:c=47
  focus
   have n1:((c:Int)==47)=true:=by rw[e1];rfl
   have n1':(c:Int)=47:=by omega
   by_cases e2:d=47
   focus
    have n2:((d:Int)==47)=true:=by rw[e2];rfl
    have n2':(d:Int)=47:=by omega
    have HTW:Hid ((Xe s.data.toList q 47&&Xe s.data.toList (q+1) 47)=true):=by
     rw[Hid,Bool.and_eq_true];exact ⟨Xl.2 ⟨by rw[HLN.out];omega,by rw[HC.out,e1]⟩,Xl.2 ⟨by rw[HLN.out];omega,by rw[HD.out,e2]⟩⟩
    go_enter Tryz.func81,Tryz.ntmps81
    go_wp2_with fail
    refine HBK.out.mono ?_
    rintro e w1 ⟨rfl,h,b⟩
    have HF1:=Xa h
    have HB1:=Xa b
    obtain ⟨c0,c1,c2⟩:=h.cells
    clear h b
    go_wp2_with fail
    go_quiet (fail)
   rotate_left
   focus
    have n2:((d:Int)==47)=false:=by simp;omega
    have n2':¬(d:Int)=47:=by omega
    have HTW:Hid ((Xe s.data.toList q 47&&Xe s.data.toList (q+1) 47)=false):=by
     rw[Hid,Bool.and_eq_false_iff];right;rw[X7];rintro ⟨_,e⟩;rw[HD.out] at e;exact e2 e
    go_enter Tryz.func81,Tryz.ntmps81
    go_wp2_with fail
    refine HBK.out.mono ?_
    rintro e w1 ⟨rfl,h,b⟩
    have HF1:=Xa h
    have HB1:=Xa b
    obtain ⟨c0,c1,c2⟩:=h.cells
    clear h b
    go_wp2_with fail
    go_quiet (fail)
  rotate_left 2
  focus
   have n1:((c:Int)==47)=false:=by simp;omega
   have n1':¬(c:Int)=47:=by omega
   have HTW:Hid ((Xe s.data.toList q 47&&Xe s.data.toList (q+1) 47)=false):=by
    rw[Hid,Bool.and_eq_false_iff];left;rw[X7];rintro ⟨_,e⟩;rw[HC.out] at e;exact e1 e
   go_enter Tryz.func81,Tryz.ntmps81
   go_wp2_with fail
   refine HBK.out.mono ?_
   rintro e w1 ⟨rfl,h,b⟩
   have HF1:=Xa h
   have HB1:=Xa b
   obtain ⟨c0,c1,c2⟩:=h.cells
   clear h b
   go_wp2_with fail
   go_quiet (fail)
 rotate_left 3
 focus
  have hlt1:¬(q:Int)+1<(s.size:Int):=by omega
  have hd1:decide ((q:Int)+1<(s.size:Int))=false:=by simpa using hlt1
  have HTW:Hid ((Xe s.data.toList q 47&&Xe s.data.toList (q+1) 47)=false):=by
   rw[Hid,Bool.and_eq_false_iff];right;rw[X7];rintro ⟨e,_⟩;rw[HLN.out] at e;omega
  go_enter Tryz.func81,Tryz.ntmps81
  go_wp2_with fail
  refine HBK.out.mono ?_
  rintro e w1 ⟨rfl,h,b⟩
  have HF1:=Xa h
  have HB1:=Xa b
  obtain ⟨c0,c1,c2⟩:=h.cells
  clear h b
  go_wp2_with fail
  go_quiet (fail)
 all_goals
  have HDD:=Xa (Xq (w:=w1) nq)
  have HF2:=Xa (HF1.out.below HDD.out)
  have HB2:=Xa (HB1.out.trans (LB.of_below HDD.out))
  clear c0 c1 c2
  generalize w1.drewN nq=W0 at HDD HF2 HB2⊢
  clear nq
  have hi0:=Ke (u:=⟨#[61,61]⟩) HF2.out (by omega) (by show (2:Nat)≤100;omega) (.inl rfl)
  rw[HQQ.out] at hi0
  have HI0:=Xa hi0
  clear hi0
  go_wp2_with fail
  refine HI0.out.mono ?_
  rintro e v0 ⟨rfl,h3,b3⟩
  have HG0:=Xa h3
  have HC0:=Xa (HB2.out.trans b3)
  clear h3 b3
  have hi1:=Ke (u:=⟨#[33,61]⟩) HG0.out (by omega) (by show (2:Nat)≤100;omega) (.inl rfl)
  rw[HQQ.out] at hi1
  have HI1:=Xa hi1
  clear hi1
  go_wp2_with fail
  refine HI1.out.mono ?_
  rintro e v1 ⟨rfl,h3,b3⟩
  have HG1:=Xa h3
  have HC1:=Xa (HC0.out.trans b3)
  clear h3 b3
  have hi2:=Ke (u:=⟨#[60,61]⟩) HG1.out (by omega) (by show (2:Nat)≤100;omega) (.inl rfl)
  rw[HQQ.out] at hi2
  have HI2:=Xa hi2
  clear hi2
  go_wp2_with fail
  refine HI2.out.mono ?_
  rintro e v2 ⟨rfl,h3,b3⟩
  have HG2:=Xa h3
  have HC2:=Xa (HC1.out.trans b3)
  clear h3 b3
  have hi3:=Ke (u:=⟨#[60]⟩) HG2.out (by omega) (by show (1:Nat)≤100;omega) (.inl rfl)
  rw[HQQ.out] at hi3
  have HI3:=Xa hi3
  clear hi3
  go_wp2_with fail
  refine HI3.out.mono ?_
  rintro e v3 ⟨rfl,h3,b3⟩
  have HG3:=Xa h3
  have HC3:=Xa (HC2.out.trans b3)
  clear h3 b3
  go_wp2_with fail
  go_ret
  exact ⟨rfl,HC3.out,HG3.out⟩
set_option maxRecDepth 100000 in
theorem Xqd {rb base p q:Nat} {Z:Nat→Prop} {s:ByteArray} {fs:List FN} {w:World} (h:LfAt w rb base Z s p true fs) (hs:s.size≤4000) (hq:skF s.data.toList p=q):
  Calls Tryz.prog 81 #[.pointer (some ⟨rb,0,none⟩), .int .i64 5] w fun e w'=>e= .returned (.int .i64 0)∧LB rb base Z w w'∧LfAt w' rb base Z s q true fs:=by
 have HBK:=Xa (Yy h hs)
 have HLN:=Xa (Xm s)
 have HQQ:Hid (skF s.data.toList q=q):=by rw[Hid,←hq];exact Yh _ _
 have hql:q≤s.size:=by rw[←hq,←HLN.out];exact X1 (by rw[HLN.out];exact h.le)
 rw[hq] at HBK
 clear h hq
 by_cases hlt:q+1<s.size
 focus
  have hlt0:(q:Int)<(s.size:Int):=by omega
  have hlt1:(q:Int)+1<(s.size:Int):=by omega
  have hd1:decide ((q:Int)+1<(s.size:Int))=true:=by simpa using hlt1
  have HBA:=Xa (byS (show q<s.size by omega))
  have HBB:=Xa (byS hlt)
  obtain ⟨c,hc⟩:∃c,s[q].toNat=c:=⟨_,rfl⟩
  obtain ⟨d,hd⟩:∃d,s[q+1].toNat=d:=⟨_,rfl⟩
  have HC:Hid (Xh s.data.toList q=c):=by rw[Hid,←HBA.out];exact hc
  have HD:Hid (Xh s.data.toList (q+1)=d):=by rw[Hid,←HBB.out];exact hd
  have et:((q:Int)+1).toNat=q+1:=by omega
  by_cases e1:c=47
  focus
   have n1:((c:Int)==47)=true:=by rw[e1];rfl
   have n1':(c:Int)=47:=by omega
   by_cases e2:d=47
   focus
    have n2:((d:Int)==47)=true:=by rw[e2];rfl
    have n2':(d:Int)=47:=by omega
    have HTW:Hid ((Xe s.data.toList q 47&&Xe s.data.toList (q+1) 47)=true):=by
     rw[Hid,Bool.and_eq_true];exact ⟨Xl.2 ⟨by rw[HLN.out];omega,by rw[HC.out,e1]⟩,Xl.2 ⟨by rw[HLN.out];omega,by rw[HD.out,e2]⟩⟩
    go_enter Tryz.func81,Tryz.ntmps81
    go_wp2_with fail
    refine HBK.out.mono ?_
    rintro e w1 ⟨rfl,h,b⟩
    have HF1:=Xa h
    have HB1:=Xa b
    obtain ⟨c0,c1,c2⟩:=h.cells
    clear h b
    go_wp2_with fail
    go_quiet (fail)
   rotate_left
   focus
    have n2:((d:Int)==47)=false:=by simp;omega
    have n2':¬(d:Int)=47:=by omega
    have HTW:Hid ((Xe s.data.toList q 47&&Xe s.data.toList (q+1) 47)=false):=by
     rw[Hid,Bool.and_eq_false_iff];right;rw[X7];rintro ⟨_,e⟩;rw[HD.out] at e;exact e2 e
    go_enter Tryz.func81,Tryz.ntmps81
    go_wp2_with fail
    refine HBK.out.mono ?_
    rintro e w1 ⟨rfl,h,b⟩
    have HF1:=Xa h
    have HB1:=Xa b
    obtain ⟨c0,c1,c2⟩:=h.cells
    clear h b
    go_wp2_with fail
    go_quiet (fail)
  rotate_left 2
  focus
   have n1:((c:Int)==47)=false:=by simp;omega
   have n1':¬(c:Int)=47:=by omega
   have HTW:Hid ((Xe s.data.toList q 47&&Xe s.data.toList (q+1) 47)=false):=by
    rw[Hid,Bool.and_eq_false_iff];left;rw[X7];rintro ⟨_,e⟩;rw[HC.out] at e;exact e1 e
   go_enter Tryz.func81,Tryz.ntmps81
   go_wp2_with fail
   refine HBK.out.mono ?_
   rintro e w1 ⟨rfl,h,b⟩
   have HF1:=Xa h
   have HB1:=Xa b
   obtain ⟨c0,c1,c2⟩:=h.cells
   clear h b
   go_wp2_with fail
   go_quiet (fail)
 rotate_left 3
 focus
  have hlt1:¬(q:Int)+1<(s.size:Int):=by omega
  have hd1:decide ((q:Int)+1<(s.size:Int))=false:=by simpa using hlt1
  have HTW:Hid ((Xe s.data.toList q 47&&Xe s.data.toList (q+1) 47)=false):=by
   rw[Hid,Bool.and_eq_false_iff];right;rw[X7];rintro ⟨e,_⟩;rw[HLN.out] at e;omega
  go_enter Tryz.func81,Tryz.ntmps81
  go_wp2_with fail
  refine HBK.out.mono ?_
  rintro e w1 ⟨rfl,h,b⟩
  have HF1:=Xa h
  have HB1:=Xa b
  obtain ⟨c0,c1,c2⟩:=h.cells
  clear h b
  go_wp2_with fail
  go_quiet (fail)
 all_goals
  have HDD:=Xa (Xq (w:=w1) nq)
  have HF2:=Xa (HF1.out.below HDD.out)
  have HB2:=Xa (HB1.out.trans (LB.of_below HDD.out))
  clear c0 c1 c2
  generalize w1.drewN nq=W0 at HDD HF2 HB2⊢
  clear nq
  have hi0:=Ke (u:=⟨#[43]⟩) HF2.out (by omega) (by show (1:Nat)≤100;omega) (.inl rfl)
  rw[HQQ.out] at hi0
  have HI0:=Xa hi0
  clear hi0
  go_wp2_with fail
  refine HI0.out.mono ?_
  rintro e v0 ⟨rfl,h3,b3⟩
  have HG0:=Xa h3
  have HC0:=Xa (HB2.out.trans b3)
  clear h3 b3
  have hi1:=Ke (u:=⟨#[45]⟩) HG0.out (by omega) (by show (1:Nat)≤100;omega) (.inl rfl)
  rw[HQQ.out] at hi1
  have HI1:=Xa hi1
  clear hi1
  go_wp2_with fail
  refine HI1.out.mono ?_
  rintro e v1 ⟨rfl,h3,b3⟩
  have HG1:=Xa h3
  have HC1:=Xa (HC0.out.trans b3)
  clear h3 b3
  go_wp2_with fail
  go_ret
  exact ⟨rfl,HC1.out,HG1.out⟩
theorem Xnb {rb base p:Nat} {Z:Nat→Prop} {s:ByteArray} {fs:List FN} {w:World} (h:LfAt w rb base Z s p true fs) (hs:s.size≤4000) (l:Nat) (h1:1≤l) (h5:l≤5):
  Calls Tryz.prog 81 #[.pointer (some ⟨rb,0,none⟩), .int .i64 (l:Int)] w fun e w'=>e= .returned (.int .i64 0)∧LB rb base Z w w'∧LfAt w' rb base Z s (skF s.data.toList p) true fs:=by
 rcases (show l=1∨l=2∨l=3∨l=4∨l=5 by omega) with rfl|rfl|rfl|rfl|rfl
 ·exact Xp9 h hs rfl
 ·exact Xqa h hs rfl
 ·exact Xqb h hs rfl
 ·exact Xqc h hs rfl
 ·exact Xqd h hs rfl

def LfN (r:RF) (n:Int) (rb base:Nat) (Z:Nat→Prop) (s:ByteArray) (p0:Nat) (w:World):Prop:=
 ∃(fs:List FN) (p:Nat),p0≤p∧((r=some (n,fs,skF s.data.toList p)∧LfAt w rb base Z s p false fs∧fs.length≤40)∨(r=none∧fs.length+p0≤42+p∧LfAt w rb base Z s p true fs))
theorem LfOr.n {r:RF} {rb base p0:Nat} {Z:Nat→Prop} {s:ByteArray} {w w':World} {e:Ending} (h:LfOr r rb base Z s p0 w e w'):∃n,e= .returned (.int .i64 n)∧LB rb base Z w w'∧LfN r n rb base Z s p0 w':=by
 obtain ⟨hb,n,fs,p,he,hp,hc⟩:=h
 exact ⟨n,he,hb,fs,p,hp,hc⟩
theorem LfN.or {r:RF} {n:Int} {rb base p0 p1:Nat} {Z:Nat→Prop} {s:ByteArray} {w w':World} (h:LfN r n rb base Z s p1 w') (hp1:p0≤p1) (hb:LB rb base Z w w'):LfOr r rb base Z s p0 w (.returned (.int .i64 n)) w':=by
 obtain ⟨fs,p,hp,hc|⟨a,b,c⟩⟩:=h
 ·exact ⟨hb,n,fs,p,rfl,by omega, .inl hc⟩
 ·exact ⟨hb,n,fs,p,rfl,by omega, .inr ⟨a,by omega,c⟩⟩
theorem LfN.st {r:RF} {n:Int} {rb base p0:Nat} {Z:Nat→Prop} {s:ByteArray} {w:World} (h:LfN r n rb base Z s p0 w):LfSt (r.map (·.2)) rb base Z s p0 w:=by
 obtain ⟨fs,p,hp,⟨h1,h2,h3⟩|⟨h1,h2,h3⟩⟩:=h
 ·exact ⟨fs,p,hp, .inl ⟨by rw[h1];rfl,h2,h3⟩⟩
 ·exact ⟨fs,p,hp, .inr ⟨by rw[h1];rfl,h2,h3⟩⟩
theorem LfN.zb {r:RF} {n:Int} {rb base p0:Nat} {Z:Nat→Prop} {s:ByteArray} {w:World} (h:LfN r n rb base Z s p0 w):∀x,Z x→x<w.heap.size:=h.st.zb
theorem LfN.of {r r':RF} {n:Int} {rb base p0:Nat} {Z:Nat→Prop} {s:ByteArray} {w:World} (hr:r=r') (h:LfN r' n rb base Z s p0 w):LfN r n rb base Z s p0 w:=by rw[hr];exact h
theorem LfN.meas {r:RF} {n:Int} {rb base p0:Nat} {Z:Nat→Prop} {s:ByteArray} {w:World} (h:LfN r n rb base Z s p0 w):Ye w rb s.size≤s.size+1-p0:=by
 obtain ⟨fs,p,hp,⟨h1,h2,h3⟩|⟨h1,h2,h3⟩⟩:=h
 ·rw[h2.meas,if_neg (by decide)];omega
 ·rw[h3.meas,if_pos rfl];omega
theorem Xbx {rb base p0 p1:Nat} {s:ByteArray} {r:CF} {Z:Nat→Prop} {w:World} (h:LfSt r rb base Z s p1 w) (hs:s.size≤1000) (hp:p0+1≤p1) (hZ:∀x,Z x→x<w.heap.size) (k:Int) (ks:List Int) (hn:ks.length≤1000):
  Calls Tryz.prog 80 #[.pointer (some ⟨rb,0,none⟩), .agg #[.int .i64 k, .string ByteArray.empty, .int .i64 0, .slice none 0 0, .slice none 0 0, .slice (some ⟨w.heap.size,0,none⟩) ks.length ks.length]] (w.alloc (.cells (ks.map (Value.int .i64)).toArray 2)) fun e w'=>∃n,e= .returned (.int .i64 n)∧LB rb base Z w w'∧LfN (r.bind fun x=>Xu WSp (Yw k ks) x.1 x.2) n rb base Z s p0 w'∧Ye w' rb s.size≤Ye w rb s.size:=by
 obtain ⟨fs,p,hp1,⟨hr,ha,hl⟩|⟨hr,hl,ha⟩⟩:=h
 ·subst hr
  refine (Xad ha hZ (by omega) k ks hn).mono ?_
  rintro e w' ⟨rfl,h',hb⟩
  have hm:=h'.meas (n:=s.size)
  have hm0:=ha.meas (n:=s.size)
  obtain ⟨n,he,hlb,hnn⟩:=(LfOr.add h' hl (show p0≤p by omega) hb).n
  refine ⟨n,he,hlb,hnn, ?_⟩
  rw[hm,hm0,if_neg (show ¬false=true by decide)]
  split<;>omega
 ·subst hr
  have:=ha.le
  refine (Xad ha hZ (by omega) k ks hn).mono ?_
  rintro e w' ⟨rfl,h',hb⟩
  have hm:=h'.meas (n:=s.size)
  obtain ⟨n,he,hlb,hnn⟩:=(LfOr.addB (p0:=p0) (r:=none) rfl h' (by omega) (by omega) hb).n
  refine ⟨n,he,hlb,hnn, ?_⟩
  rw[hm,Bool.true_or,if_pos rfl]
  omega
def Xdy (R:RD) (tg:RF) (l g:Nat) (n k:Int) (rb base:Nat) (Z:Nat→Prop) (s:ByteArray) (p0:Nat) (w:World):Prop:=
 (k = 0 ∧ LfN tg n rb base Z s p0 w) ∨ (k ≠ 0 ∧ ∃ fs p1, LfAt w rb base Z s p1 false fs ∧ fs.length ≤ 40 ∧ p0 + 1 ≤ p1 ∧ Qh k = (if l = 1 ∨ l = 3 then (l : Int) else (l : Int) + 1) ∧ Ye w rb s.size ≤ g ∧
  tg=Xy (Xy (R (Qh k) fs (skF s.data.toList p1)) fun b fs q=>Xu WSp (Yw k [n,b]) fs q) fun n fs q=>if l=6∨l=5∨l=2 then J2 R s.data.toList WSp l g n fs q else some (n,fs,q))
theorem Xub {l:Int} {L:List UInt8} {q:Nat} {k:Int} {len:Nat} (h:Zy l L q=some (k,len)):Xp k=l∧X0 L q=some (k,len):=by
 unfold Zy at h
 cases e:X0 L q with
 |none=>rw[e] at h;cases h
 | some x =>
  rw[e] at h
  simp only[Option.bind_some] at h
  split at h
  ·rename_i h1
   simp only[Option.some.injEq] at h
   rw[h] at h1
   exact ⟨h1,by rw[h]⟩
  ·cases h
theorem Xxh {l:Nat} (h1:1≤l) (h5:l≤5) {L:List UInt8} {q:Nat} {k:Int} {len:Nat} (h:Zy (l:Int) L q=some (k,len)):Qh k=(if l=1∨l=3 then (l:Int) else (l:Int)+1)∧k≠23:=by
 obtain ⟨e1,e2⟩:=Xub h
 have:=Kk e2
 rcases (show l=1∨l=2∨l=3∨l=4∨l=5 by omega) with rfl|rfl|rfl|rfl|rfl<;>
  (rcases this with rfl|rfl|rfl|rfl|rfl|rfl|rfl|rfl|rfl|rfl<;>first|exact ⟨by decide,by decide⟩|(revert e1;decide))
theorem Xav {R:RD} {tg cur:RF} {l g:Nat} {n:Int} {rb base p0:Nat} {Z:Nat→Prop} {s:ByteArray} {w:World} (h1:1≤l) (h5:l≤5) (hs:s.size≤4000) (h:LfN cur n rb base Z s p0 w) (htg:tg=Xy cur fun n fs q=>J2 R s.data.toList WSp l (g+1) n fs q) (hm:Ye w rb s.size≤g+1):
  Calls Tryz.prog 81 #[.pointer (some ⟨rb,0,none⟩), .int .i64 (l:Int)] w fun e w'=>∃k,e= .returned (.int .i64 k)∧LB rb base Z w w'∧Xdy R tg l g n k rb base Z s p0 w'∧(k≠0→Ye w' rb s.size+1≤Ye w rb s.size):=by
 obtain ⟨fs,p,hp,⟨hr,ha,hl⟩|⟨hr,hl,ha⟩⟩:=h
 ·have hm0:=ha.meas (n:=s.size)
  rw[if_neg (by decide)] at hm0
  have hle:=ha.le
  have hsk:=Xw s.data.toList p
  have hid:=Yh s.data.toList p
  subst hr
  rw[X2,Xl5] at htg
  refine (Xnl (l:=(l:Int)) (by omega) (by omega) ha hs rfl).mono ?_
  rintro e w' ⟨hb,⟨hno,rfl,h'⟩|⟨k,len,hk,hk0,hlen,rfl,h'⟩⟩
  ·refine ⟨0,rfl,hb, .inl ⟨rfl,fs,skF s.data.toList p,by omega, .inl ⟨?_,h',hl⟩⟩,fun e=>absurd rfl e⟩
   rw[htg,hno,hid]
  ·have hm1:=h'.meas (n:=s.size)
   rw[if_neg (by decide)] at hm1
   have hle1:=h'.le
   have hrg:=Xxh h1 h5 hk
   refine ⟨k,rfl,hb, .inr ⟨hk0,fs,_,h',hl,by omega,hrg.1,by omega, ?_⟩,fun _=>by omega⟩
   rw[htg,hk]
   simp only
   unfold Jr
   rw[if_neg hrg.2]
 ·subst hr
  have hle:=ha.le
  have hsk:=Xw s.data.toList p
  refine (Xnb ha hs l h1 h5).mono ?_
  rintro e w' ⟨rfl,hb,h'⟩
  exact ⟨0,rfl,hb, .inl ⟨rfl,fs,skF s.data.toList p,by omega, .inr ⟨by rw[htg];rfl,by omega,h'⟩⟩,fun e=>absurd rfl e⟩
theorem X1h {R:RD} {tg cur:RF} {g:Nat} {n:Int} {rb base p0:Nat} {Z:Nat→Prop} {s:ByteArray} {w:World} (hs:s.size≤4000) (h:LfN cur n rb base Z s p0 w) (htg:tg=Xy cur fun n fs q=>J2 R s.data.toList WSp 6 (g+1) n fs q) (hm:Ye w rb s.size≤g+1):
  Calls Tryz.prog 79 #[.pointer (some ⟨rb,0,none⟩), .string ⟨#[63]⟩] w fun e w'=>LB rb base Z w w'∧((e= .returned (.bool false)∧LfN tg n rb base Z s p0 w')∨(e= .returned (.bool true)∧Ye w' rb s.size+1≤Ye w rb s.size∧∃fs p1,p0+1≤p1∧LfSt (some (fs,skF s.data.toList p1)) rb base Z s p1 w'∧tg=Xy (Xu WSp (Yw 23 [n]) fs (skF s.data.toList p1)) fun n fs q=>J2 R s.data.toList WSp 6 g n fs q)):=by
 obtain ⟨fs,p,hp,⟨hr,ha,hl⟩|⟨hr,hl,ha⟩⟩:=h
 ·have hm0:=ha.meas (n:=s.size)
  rw[if_neg (by decide)] at hm0
  have hle:=ha.le
  have hsk:=Xw s.data.toList p
  have hid:=Yh s.data.toList p
  subst hr
  rw[X2,Xl5,show ((6:Nat):Int)=6 from rfl,X1e] at htg
  refine (Zu 63 ha hs).mono ?_
  rintro e w' ⟨rfl,h',hb⟩
  rw[show (63:UInt8).toNat=63 from rfl] at h'⊢
  cases hi:Xe s.data.toList (skF s.data.toList p) 63
  ·rw[hi] at h' htg
   have h2:LfAt w' rb base Z s (skF s.data.toList p) false fs:=h'
   refine ⟨hb, .inl ⟨rfl,fs,skF s.data.toList p,by omega, .inl ⟨?_,h2,hl⟩⟩⟩
   rw[htg,hid];rfl
  ·rw[hi] at h' htg
   have h2:LfAt w' rb base Z s (skF s.data.toList p+1) false fs:=h'
   have hm1:=h2.meas (n:=s.size)
   rw[if_neg (by decide)] at hm1
   have hle1:=h2.le
   refine ⟨hb, .inr ⟨rfl,by omega,fs,_,by omega,LfSt.good h2 hl (Nat.le_refl _), ?_⟩⟩
   rw[htg,if_pos rfl]
   rfl
 ·subst hr
  have hle:=ha.le
  have hsk:=Xw s.data.toList p
  refine (Zu 63 ha hs).mono ?_
  rintro e w' ⟨rfl,h',hb⟩
  have h2:LfAt w' rb base Z s (skF s.data.toList p) true fs:=h'
  exact ⟨hb, .inl ⟨rfl,fs,skF s.data.toList p,by omega, .inr ⟨by rw[htg];rfl,by omega,h2⟩⟩⟩
section
variable {R:RD} {f rb base:Nat} {s:ByteArray} (HR:Xgj R f rb base s)
include HR
set_option maxRecDepth 100000 in
theorem Xq2 {p:Nat} {Z:Nat→Prop} {fs:List FN} {w:World} (h:LfAt w rb base Z s p false fs) (hZ:∀x,Z x→x<w.heap.size) (hs:s.size≤1000) (hl:fs.length≤40) (hf:s.size≤p+f):
  Calls Tryz.prog 43 #[.pointer (some ⟨rb,0,none⟩), .int .i64 6] w (LfOr (lvS R s.data.toList WSp 0 fs (skF s.data.toList p)) rb base Z s p w):=by
 have HLN:=Xa (Xm s)
 obtain ⟨c0,c1,c2⟩:=h.cells
 have HPR:=Xa (Xh0 HR h hZ hs hl hf)
 obtain ⟨tg,htg⟩:∃tg,lvS R s.data.toList WSp 0 fs (skF s.data.toList p)=tg:=⟨_,rfl⟩
 have HTG:Hid (tg=Xy (Xs WSp R s.data.toList fs (skF s.data.toList p)) fun n fs q=>J2 R s.data.toList WSp 6 (s.size+1) n fs q):=by rw[Hid,←htg,←HLN.out];rfl
 obtain ⟨cu,hcu⟩:∃cu,Xs WSp R s.data.toList fs (skF s.data.toList p)=cu:=⟨_,rfl⟩
 rw[hcu] at HPR HTG
 rw[htg]
 clear h hZ HR htg hcu
 go_enter Tryz.func43,Tryz.ntmps43
 go_wp2_with fail
 refine HPR.out.mono ?_
 intro e w1 h
 obtain ⟨n1,rfl,b1,hn1⟩:=h.n
 have HN1:=Xa hn1
 have HB1:=Xa b1
 have hm1:Ye w1 rb s.size≤s.size+1:=by have:=hn1.meas;omega
 have HM1:=Xa hm1
 clear h b1 hn1 c0 c1 c2 HPR hm1
 go_wp2_with fail
 go_loopw [5] (fun av wr=>∃(g:Nat) (cur:RF) (n:Int),av= .int .i64 n∧LfN cur n rb base Z s p wr∧LB rb base Z w wr∧Hid (tg=Xy cur fun n fs q=>J2 R s.data.toList WSp 6 (g+1) n fs q)∧Hid (Ye wr rb s.size≤g+1)) (fun _ wr=>Ye wr rb s.size)
 case atStart=>exact ⟨s.size,cu,n1,rfl,HN1.out,HB1.out,HTG.out,HM1.out⟩
 case round=>
  obtain ⟨g,cur,n,rfl,hn,hbt,HT,HM⟩:=hrel
  have HBT:=Xb hbt
  have HIN:=Xb (X1h (by omega) hn HT.out HM.out)
  clear hn hbt HN1 HB1 HTG HM1
  go_wp2_with fail
  refine HIN.out.mono ?_
  rintro e w2 ⟨b2,⟨rfl,hn2⟩|⟨rfl,hm2,fs2,p2,hp2,st2,ht2⟩⟩
  ·have HN2:=Xb hn2
   have HB2:=Xb (HBT.out.trans b2)
   clear b2 hn2
   go_wp2_with fail
   go_ret
   exact HN2.out.or (Nat.le_refl _) HB2.out
  ·have HB2:=Xb (HBT.out.trans b2)
   have HM2:=Xb hm2
   have HT2:=Xb ht2
   have HMG:Hid (Ye w2 rb s.size≤g):=by rw[Hid];have:=HM.out;omega
   have hpos:0<Ye w2 rb s.size:=by
    obtain ⟨b,f3,p3,h3,_,_,h4,_⟩:=st2.at
    have hb:b=false:=by
     cases b
     ·rfl
     ·exact absurd (h4 rfl) (by simp)
    subst hb
    rw[h3.meas,if_neg (by decide)]
    have:=h3.le
    omega
   have HPOS:=Xb hpos
   have HA:=Xb (Xbx (p0:=p) st2 hs (by omega) st2.zb 23 [n] (by simp))
   clear b2 hm2 st2 ht2 hpos
   go_wp2_with fail
   refine HA.out.mono ?_
   rintro e w3 ⟨n3,rfl,b3,hn3,hm3⟩
   have HN3:=Xb hn3
   have HB3:=Xb (HB2.out.trans b3)
   have HM3:=Xb hm3
   clear b3 hn3 hm3
   go_wp2_with fail
   go_roundw
   case rel=>
    obtain ⟨g,rfl⟩:∃g',g=g'+1:=⟨g-1,by have:=HPOS.out;have:=HMG.out;omega⟩
    exact ⟨g,_,n3,rfl,HN3.out,HB3.out,HT2.out,by rw[Hid];have:=HM3.out;have:=HMG.out;omega⟩
   case measure=>have:=HM3.out;have:=HM2.out;omega
set_option maxRecDepth 100000 in
theorem Xq3 (HN:∀(Z:Nat→Prop) (fs:List FN) (p:Nat) (w:World),(∀x,Z x→x<w.heap.size)→LfAt w rb base Z s p false fs→fs.length≤40→s.size≤p+f→Calls Tryz.prog 43 #[.pointer (some ⟨rb,0,none⟩), .int .i64 6] w (LfOr (lvS R s.data.toList WSp 0 fs (skF s.data.toList p)) rb base Z s p w))
  {p:Nat} {Z:Nat→Prop} {fs:List FN} {w:World} (h:LfAt w rb base Z s p false fs) (hZ:∀x,Z x→x<w.heap.size) (hs:s.size≤1000) (hl:fs.length≤40) (hf:s.size≤p+f):
  Calls Tryz.prog 43 #[.pointer (some ⟨rb,0,none⟩), .int .i64 5] w (LfOr (lvS R s.data.toList WSp 1 fs (skF s.data.toList p)) rb base Z s p w):=by
 have HLN:=Xa (Xm s)
 obtain ⟨c0,c1,c2⟩:=h.cells
 have HPR:=Xa (HN Z fs p w hZ h hl hf)
 have HHR:=Xa HR
 obtain ⟨tg,htg⟩:∃tg,lvS R s.data.toList WSp 1 fs (skF s.data.toList p)=tg:=⟨_,rfl⟩
 have HTG:Hid (tg=Xy (lvS R s.data.toList WSp 0 fs (skF s.data.toList p)) fun n fs q=>J2 R s.data.toList WSp 5 (s.size+1) n fs q):=by rw[Hid,←htg,←HLN.out];rfl
 obtain ⟨cu,hcu⟩:∃cu,lvS R s.data.toList WSp 0 fs (skF s.data.toList p)=cu:=⟨_,rfl⟩
 rw[hcu] at HPR HTG
 rw[htg]
 clear h hZ HR htg hcu HN
 go_enter Tryz.func43,Tryz.ntmps43
 go_wp2_with fail
 refine HPR.out.mono ?_
 intro e w1 h
 obtain ⟨n1,rfl,b1,hn1⟩:=h.n
 have HB1:=Xa b1
 have hm1:Ye w1 rb s.size≤s.size+1:=by have:=hn1.meas;omega
 have HSG:=Xa (Xav (l:=5) (by decide) (by decide) (by omega) hn1 HTG.out hm1)
 clear h b1 hn1 c0 c1 c2 HPR hm1
 go_wp2_with fail
 refine HSG.out.mono ?_
 rintro e w2 ⟨k2,rfl,b2,hh2,_⟩
 have HH2:=Xa hh2
 have HB2:=Xa (HB1.out.trans b2)
 clear b2 hh2 HSG HTG
 go_wp2_with fail
 go_loopw [5,6,7,8] (fun av kv _ _ wr=>∃(g:Nat) (n k:Int),av= .int .i64 n∧kv= .int .i64 k∧Xdy R tg 5 g n k rb base Z s p wr∧LB rb base Z w wr) (fun _ kv _ _ wr=>if intOf kv=0 then 0 else 1+Ye wr rb s.size)
 case atStart=>exact ⟨s.size,n1,k2,rfl,rfl,HH2.out,HB2.out⟩
 case round=>
  obtain ⟨g,n,k,rfl,rfl,hh,hbt⟩:=hrel
  have HBT:=Xb hbt
  clear HH2 HB2 HB1
  rcases hh with ⟨rfl,hn⟩|⟨hk,fs2,p2,ha2,hl2,hp2,hrg,hmg,ht2⟩
  ·have HN2:=Xb hn
   clear hn hbt
   go_wp2_with fail
   go_ret
   exact HN2.out.or (Nat.le_refl _) HBT.out
  ·obtain ⟨c0,c1,c2⟩:=ha2.cells
   have HRG:Hid (Qh k=6):=hrg
   have HT2:=Xb ht2
   rw[HRG.out] at HT2
   have hk':((k:Int)==0)=false:=by simpa using hk
   have hk'':((k:Int) !=0)=true:=by simpa using hk
   have hpos:0<Ye wr rb s.size:=by
    rw[ha2.meas,if_neg (by decide)]
    have:=ha2.le
    omega
   have hmw:Ye wr rb s.size=s.size+1-p2:=by rw[ha2.meas,if_neg (by decide)]
   have HMW:=Xb hmw
   have HPOS:=Xb hpos
   have HMG:=Xb hmg
   have HLV:=Xb (HHR.out 6 Z fs2 p2 wr (by decide) (by decide) ha2.zb ha2 hl2 (by omega))
   have HK0:Hid (k≠0):=hk
   clear hbt ha2 hrg hmg ht2 hpos hmw
   go_wp2_with fail
   refine HLV.out.mono ?_
   intro e w3 h3
   obtain ⟨n3,rfl,b3,hn3⟩:=h3.n
   have HB3:=Xb (HBT.out.trans b3)
   have HM3:=Xb hn3.meas
   obtain ⟨r3,hr3⟩:∃r3,R 6 fs2 (skF s.data.toList p2)=r3:=⟨_,rfl⟩
   rw[hr3] at HT2 hn3
   have HVAL:Hid (∀y,r3=some y→y.1=n3):=by
    obtain ⟨_,_,_,⟨h1,_⟩|⟨h1,_⟩⟩:=hn3
    ·intro y hy;rw[h1] at hy;cases hy;rfl
    ·intro y hy;rw[h1] at hy;cases hy
   have HA:=Xb (Xbx (p0:=p) hn3.st hs (by omega) hn3.zb k [n,n3] (by simp))
   have HEQ:Hid (Xy r3 (fun b fs q=>Xu WSp (Yw k [n,b]) fs q)=(r3.map (·.2)).bind fun x=>Xu WSp (Yw k [n,n3]) x.1 x.2):=by
    rw[Hid]
    cases e:r3 with
    |none=>rfl
    |some y=>obtain ⟨b,f4,q4⟩:=y;obtain rfl:b=n3:=HVAL.out _ e;rfl
   rw[HEQ.out] at HT2
   clear h3 b3 hn3 hr3 c0 c1 c2
   go_wp2_with fail
   refine HA.out.mono ?_
   rintro e w4 ⟨n4,rfl,b4,hn4,hm4⟩
   have HB4:=Xb (HB3.out.trans b4)
   have HM4:Hid (Ye w4 rb s.size≤Ye wr rb s.size):=by rw[Hid];have:=HM3.out;have:=HMW.out;omega
   obtain ⟨g,rfl⟩:∃g',g=g'+1:=⟨g-1,by have:=HPOS.out;have:=HMG.out;omega⟩
   have HSG2:=Xb (Xav (l:=5) (g:=g) (tg:=tg) (R:=R) (by decide) (by decide) (by omega) hn4 (by rw[HT2.out];rfl) (by have:=HM4.out;have:=HMG.out;omega))
   clear b4 hn4 hm4
   go_wp2_with fail
   refine HSG2.out.mono ?_
   rintro e w5 ⟨k5,rfl,b5,hh5,hm5⟩
   have HH5:=Xb hh5
   have HB5:=Xb (HB4.out.trans b5)
   have HM5:=Xb hm5
   clear b5 hh5 hm5
   go_wp2_with fail
   go_roundw
   case rel=>exact ⟨g,n4,k5,rfl,rfl,HH5.out,HB5.out⟩
   case measure=>
    have h1:=HM4.out
    have h2:=HPOS.out
    have h0:=HK0.out
    have e1:intOf (Value.int .i64 k)=k:=rfl
    have e2:intOf (Value.int .i64 k5)=k5:=rfl
    rw[e1,e2,if_neg h0]
    by_cases h5:k5=0
    ·rw[if_pos h5];omega
    ·rw[if_neg h5];have:=HM5.out h5;omega
set_option maxRecDepth 100000 in
theorem Xq4 (HN:∀(Z:Nat→Prop) (fs:List FN) (p:Nat) (w:World),(∀x,Z x→x<w.heap.size)→LfAt w rb base Z s p false fs→fs.length≤40→s.size≤p+f→Calls Tryz.prog 43 #[.pointer (some ⟨rb,0,none⟩), .int .i64 5] w (LfOr (lvS R s.data.toList WSp 1 fs (skF s.data.toList p)) rb base Z s p w))
  {p:Nat} {Z:Nat→Prop} {fs:List FN} {w:World} (h:LfAt w rb base Z s p false fs) (hZ:∀x,Z x→x<w.heap.size) (hs:s.size≤1000) (hl:fs.length≤40) (hf:s.size≤p+f):
  Calls Tryz.prog 43 #[.pointer (some ⟨rb,0,none⟩), .int .i64 4] w (LfOr (lvS R s.data.toList WSp 2 fs (skF s.data.toList p)) rb base Z s p w):=by
 have HLN:=Xa (Xm s)
 obtain ⟨c0,c1,c2⟩:=h.cells
 have HPR:=Xa (HN Z fs p w hZ h hl hf)
 have HHR:=Xa HR
 obtain ⟨tg,htg⟩:∃tg,lvS R s.data.toList WSp 2 fs (skF s.data.toList p)=tg:=⟨_,rfl⟩
 have HTG:Hid (tg=Xy (lvS R s.data.toList WSp 1 fs (skF s.data.toList p)) fun n fs q=>J2 R s.data.toList WSp 4 (s.size+1) n fs q):=by rw[Hid,←htg,←HLN.out];rfl
 obtain ⟨cu,hcu⟩:∃cu,lvS R s.data.toList WSp 1 fs (skF s.data.toList p)=cu:=⟨_,rfl⟩
 rw[hcu] at HPR HTG
 rw[htg]
 clear h hZ HR htg hcu HN
 go_enter Tryz.func43,Tryz.ntmps43
 go_wp2_with fail
 refine HPR.out.mono ?_
 intro e w1 h
 obtain ⟨n1,rfl,b1,hn1⟩:=h.n
 have HB1:=Xa b1
 have hm1:Ye w1 rb s.size≤s.size+1:=by have:=hn1.meas;omega
 have HSG:=Xa (Xav (l:=4) (by decide) (by decide) (by omega) hn1 HTG.out hm1)
 clear h b1 hn1 c0 c1 c2 HPR hm1
 go_wp2_with fail
 refine HSG.out.mono ?_
 rintro e w2 ⟨k2,rfl,b2,hh2,_⟩
 have HH2:=Xa hh2
 have HB2:=Xa (HB1.out.trans b2)
 clear b2 hh2 HSG HTG
 go_wp2_with fail
 go_loopw [5,6,7,8] (fun av kv _ _ wr=>∃(g:Nat) (n k:Int),av= .int .i64 n∧kv= .int .i64 k∧Xdy R tg 4 g n k rb base Z s p wr∧LB rb base Z w wr) (fun _ kv _ _ wr=>if intOf kv=0 then 0 else 1+Ye wr rb s.size)
 case atStart=>exact ⟨s.size,n1,k2,rfl,rfl,HH2.out,HB2.out⟩
 case round=>
  obtain ⟨g,n,k,rfl,rfl,hh,hbt⟩:=hrel
  have HBT:=Xb hbt
  clear HH2 HB2 HB1
  rcases hh with ⟨rfl,hn⟩|⟨hk,fs2,p2,ha2,hl2,hp2,hrg,hmg,ht2⟩
  ·have HN2:=Xb hn
   clear hn hbt
   go_wp2_with fail
   go_ret
   exact HN2.out.or (Nat.le_refl _) HBT.out
  ·obtain ⟨c0,c1,c2⟩:=ha2.cells
   have HRG:Hid (Qh k=5):=hrg
   have HT2:=Xb ht2
   rw[HRG.out] at HT2
   have hk':((k:Int)==0)=false:=by simpa using hk
   have hk'':((k:Int) !=0)=true:=by simpa using hk
   have hpos:0<Ye wr rb s.size:=by
    rw[ha2.meas,if_neg (by decide)]
    have:=ha2.le
    omega
   have hmw:Ye wr rb s.size=s.size+1-p2:=by rw[ha2.meas,if_neg (by decide)]
   have HMW:=Xb hmw
   have HPOS:=Xb hpos
   have HMG:=Xb hmg
   have HLV:=Xb (HHR.out 5 Z fs2 p2 wr (by decide) (by decide) ha2.zb ha2 hl2 (by omega))
   have HK0:Hid (k≠0):=hk
   clear hbt ha2 hrg hmg ht2 hpos hmw
   go_wp2_with fail
   refine HLV.out.mono ?_
   intro e w3 h3
   obtain ⟨n3,rfl,b3,hn3⟩:=h3.n
   have HB3:=Xb (HBT.out.trans b3)
   have HM3:=Xb hn3.meas
   obtain ⟨r3,hr3⟩:∃r3,R 5 fs2 (skF s.data.toList p2)=r3:=⟨_,rfl⟩
   rw[hr3] at HT2 hn3
   have HVAL:Hid (∀y,r3=some y→y.1=n3):=by
    obtain ⟨_,_,_,⟨h1,_⟩|⟨h1,_⟩⟩:=hn3
    ·intro y hy;rw[h1] at hy;cases hy;rfl
    ·intro y hy;rw[h1] at hy;cases hy
   have HA:=Xb (Xbx (p0:=p) hn3.st hs (by omega) hn3.zb k [n,n3] (by simp))
   have HEQ:Hid (Xy r3 (fun b fs q=>Xu WSp (Yw k [n,b]) fs q)=(r3.map (·.2)).bind fun x=>Xu WSp (Yw k [n,n3]) x.1 x.2):=by
    rw[Hid]
    cases e:r3 with
    |none=>rfl
    |some y=>obtain ⟨b,f4,q4⟩:=y;obtain rfl:b=n3:=HVAL.out _ e;rfl
   rw[HEQ.out] at HT2
   clear h3 b3 hn3 hr3 c0 c1 c2
   go_wp2_with fail
   refine HA.out.mono ?_
   rintro e w4 ⟨n4,rfl,b4,hn4,hm4⟩
   have HB4:=Xb (HB3.out.trans b4)
   have HN4:=Xb (LfN.of (r:=tg) (by
    rw[HT2.out]
    show Xy _ (fun n fs q=>some (n,fs,q))=_
    generalize ((r3.map (·.2)).bind fun x=>Xu WSp (Yw k [n,n3]) x.1 x.2)=c
    cases c<;>rfl) hn4)
   clear b4 hn4 hm4
   go_wp2_with fail
   go_ret
   exact HN4.out.or (Nat.le_refl _) HB4.out
set_option maxRecDepth 100000 in
theorem Xq5 (HN:∀(Z:Nat→Prop) (fs:List FN) (p:Nat) (w:World),(∀x,Z x→x<w.heap.size)→LfAt w rb base Z s p false fs→fs.length≤40→s.size≤p+f→Calls Tryz.prog 43 #[.pointer (some ⟨rb,0,none⟩), .int .i64 4] w (LfOr (lvS R s.data.toList WSp 2 fs (skF s.data.toList p)) rb base Z s p w))
  {p:Nat} {Z:Nat→Prop} {fs:List FN} {w:World} (h:LfAt w rb base Z s p false fs) (hZ:∀x,Z x→x<w.heap.size) (hs:s.size≤1000) (hl:fs.length≤40) (hf:s.size≤p+f):
  Calls Tryz.prog 43 #[.pointer (some ⟨rb,0,none⟩), .int .i64 3] w (LfOr (lvS R s.data.toList WSp 3 fs (skF s.data.toList p)) rb base Z s p w):=by
 have HLN:=Xa (Xm s)
 obtain ⟨c0,c1,c2⟩:=h.cells
 have HPR:=Xa (HN Z fs p w hZ h hl hf)
 have HHR:=Xa HR
 obtain ⟨tg,htg⟩:∃tg,lvS R s.data.toList WSp 3 fs (skF s.data.toList p)=tg:=⟨_,rfl⟩
 have HTG:Hid (tg=Xy (lvS R s.data.toList WSp 2 fs (skF s.data.toList p)) fun n fs q=>J2 R s.data.toList WSp 3 (s.size+1) n fs q):=by rw[Hid,←htg,←HLN.out];rfl
 obtain ⟨cu,hcu⟩:∃cu,lvS R s.data.toList WSp 2 fs (skF s.data.toList p)=cu:=⟨_,rfl⟩
 rw[hcu] at HPR HTG
 rw[htg]
 clear h hZ HR htg hcu HN
 go_enter Tryz.func43,Tryz.ntmps43
 go_wp2_with fail
 refine HPR.out.mono ?_
 intro e w1 h
 obtain ⟨n1,rfl,b1,hn1⟩:=h.n
 have HB1:=Xa b1
 have hm1:Ye w1 rb s.size≤s.size+1:=by have:=hn1.meas;omega
 have HSG:=Xa (Xav (l:=3) (by decide) (by decide) (by omega) hn1 HTG.out hm1)
 clear h b1 hn1 c0 c1 c2 HPR hm1
 go_wp2_with fail
 refine HSG.out.mono ?_
 rintro e w2 ⟨k2,rfl,b2,hh2,_⟩
 have HH2:=Xa hh2
 have HB2:=Xa (HB1.out.trans b2)
 clear b2 hh2 HSG HTG
 go_wp2_with fail
 go_loopw [5,6,7,8] (fun av kv _ _ wr=>∃(g:Nat) (n k:Int),av= .int .i64 n∧kv= .int .i64 k∧Xdy R tg 3 g n k rb base Z s p wr∧LB rb base Z w wr) (fun _ kv _ _ wr=>if intOf kv=0 then 0 else 1+Ye wr rb s.size)
 case atStart=>exact ⟨s.size,n1,k2,rfl,rfl,HH2.out,HB2.out⟩
 case round=>
  obtain ⟨g,n,k,rfl,rfl,hh,hbt⟩:=hrel
  have HBT:=Xb hbt
  clear HH2 HB2 HB1
  rcases hh with ⟨rfl,hn⟩|⟨hk,fs2,p2,ha2,hl2,hp2,hrg,hmg,ht2⟩
  ·have HN2:=Xb hn
   clear hn hbt
   go_wp2_with fail
   go_ret
   exact HN2.out.or (Nat.le_refl _) HBT.out
  ·obtain ⟨c0,c1,c2⟩:=ha2.cells
   have HRG:Hid (Qh k=3):=hrg
   have HT2:=Xb ht2
   rw[HRG.out] at HT2
   have hk':((k:Int)==0)=false:=by simpa using hk
   have hk'':((k:Int) !=0)=true:=by simpa using hk
   have hpos:0<Ye wr rb s.size:=by
    rw[ha2.meas,if_neg (by decide)]
    have:=ha2.le
    omega
   have hmw:Ye wr rb s.size=s.size+1-p2:=by rw[ha2.meas,if_neg (by decide)]
   have HMW:=Xb hmw
   have HPOS:=Xb hpos
   have HMG:=Xb hmg
   have HLV:=Xb (HHR.out 3 Z fs2 p2 wr (by decide) (by decide) ha2.zb ha2 hl2 (by omega))
   have HK0:Hid (k≠0):=hk
   clear hbt ha2 hrg hmg ht2 hpos hmw
   go_wp2_with fail
   refine HLV.out.mono ?_
   intro e w3 h3
   obtain ⟨n3,rfl,b3,hn3⟩:=h3.n
   have HB3:=Xb (HBT.out.trans b3)
   have HM3:=Xb hn3.meas
   obtain ⟨r3,hr3⟩:∃r3,R 3 fs2 (skF s.data.toList p2)=r3:=⟨_,rfl⟩
   rw[hr3] at HT2 hn3
   have HVAL:Hid (∀y,r3=some y→y.1=n3):=by
    obtain ⟨_,_,_,⟨h1,_⟩|⟨h1,_⟩⟩:=hn3
    ·intro y hy;rw[h1] at hy;cases hy;rfl
    ·intro y hy;rw[h1] at hy;cases hy
   have HA:=Xb (Xbx (p0:=p) hn3.st hs (by omega) hn3.zb k [n,n3] (by simp))
   have HEQ:Hid (Xy r3 (fun b fs q=>Xu WSp (Yw k [n,b]) fs q)=(r3.map (·.2)).bind fun x=>Xu WSp (Yw k [n,n3]) x.1 x.2):=by
    rw[Hid]
    cases e:r3 with
    |none=>rfl
    |some y=>obtain ⟨b,f4,q4⟩:=y;obtain rfl:b=n3:=HVAL.out _ e;rfl
   rw[HEQ.out] at HT2
   clear h3 b3 hn3 hr3 c0 c1 c2
   go_wp2_with fail
   refine HA.out.mono ?_
   rintro e w4 ⟨n4,rfl,b4,hn4,hm4⟩
   have HB4:=Xb (HB3.out.trans b4)
   have HN4:=Xb (LfN.of (r:=tg) (by
    rw[HT2.out]
    show Xy _ (fun n fs q=>some (n,fs,q))=_
    generalize ((r3.map (·.2)).bind fun x=>Xu WSp (Yw k [n,n3]) x.1 x.2)=c
    cases c<;>rfl) hn4)
   clear b4 hn4 hm4
   go_wp2_with fail
   go_ret
   exact HN4.out.or (Nat.le_refl _) HB4.out
set_option maxRecDepth 100000 in
theorem Xq6 (HN:∀(Z:Nat→Prop) (fs:List FN) (p:Nat) (w:World),(∀x,Z x→x<w.heap.size)→LfAt w rb base Z s p false fs→fs.length≤40→s.size≤p+f→Calls Tryz.prog 43 #[.pointer (some ⟨rb,0,none⟩), .int .i64 3] w (LfOr (lvS R s.data.toList WSp 3 fs (skF s.data.toList p)) rb base Z s p w))
  {p:Nat} {Z:Nat→Prop} {fs:List FN} {w:World} (h:LfAt w rb base Z s p false fs) (hZ:∀x,Z x→x<w.heap.size) (hs:s.size≤1000) (hl:fs.length≤40) (hf:s.size≤p+f):
  Calls Tryz.prog 43 #[.pointer (some ⟨rb,0,none⟩), .int .i64 2] w (LfOr (lvS R s.data.toList WSp 4 fs (skF s.data.toList p)) rb base Z s p w):=by
 have HLN:=Xa (Xm s)
 obtain ⟨c0,c1,c2⟩:=h.cells
 have HPR:=Xa (HN Z fs p w hZ h hl hf)
 have HHR:=Xa HR
 obtain ⟨tg,htg⟩:∃tg,lvS R s.data.toList WSp 4 fs (skF s.data.toList p)=tg:=⟨_,rfl⟩
 have HTG:Hid (tg=Xy (lvS R s.data.toList WSp 3 fs (skF s.data.toList p)) fun n fs q=>J2 R s.data.toList WSp 2 (s.size+1) n fs q):=by rw[Hid,←htg,←HLN.out];rfl
 obtain ⟨cu,hcu⟩:∃cu,lvS R s.data.toList WSp 3 fs (skF s.data.toList p)=cu:=⟨_,rfl⟩
 rw[hcu] at HPR HTG
 rw[htg]
 clear h hZ HR htg hcu HN
 go_enter Tryz.func43,Tryz.ntmps43
 go_wp2_with fail
 refine HPR.out.mono ?_
 intro e w1 h
 obtain ⟨n1,rfl,b1,hn1⟩:=h.n
 have HB1:=Xa b1
 have hm1:Ye w1 rb s.size≤s.size+1:=by have:=hn1.meas;omega
 have HSG:=Xa (Xav (l:=2) (by decide) (by decide) (by omega) hn1 HTG.out hm1)
 clear h b1 hn1 c0 c1 c2 HPR hm1
 go_wp2_with fail
 refine HSG.out.mono ?_
 rintro e w2 ⟨k2,rfl,b2,hh2,_⟩
 have HH2:=Xa hh2
 have HB2:=Xa (HB1.out.trans b2)
 clear b2 hh2 HSG HTG
 go_wp2_with fail
 go_loopw [5,6,7,8] (fun av kv _ _ wr=>∃(g:Nat) (n k:Int),av= .int .i64 n∧kv= .int .i64 k∧Xdy R tg 2 g n k rb base Z s p wr∧LB rb base Z w wr) (fun _ kv _ _ wr=>if intOf kv=0 then 0 else 1+Ye wr rb s.size)
 case atStart=>exact ⟨s.size,n1,k2,rfl,rfl,HH2.out,HB2.out⟩
 case round=>
  obtain ⟨g,n,k,rfl,rfl,hh,hbt⟩:=hrel
  have HBT:=Xb hbt
  clear HH2 HB2 HB1
  rcases hh with ⟨rfl,hn⟩|⟨hk,fs2,p2,ha2,hl2,hp2,hrg,hmg,ht2⟩
  ·have HN2:=Xb hn
   clear hn hbt
   go_wp2_with fail
   go_ret
   exact HN2.out.or (Nat.le_refl _) HBT.out
  ·obtain ⟨c0,c1,c2⟩:=ha2.cells
   have HRG:Hid (Qh k=3):=hrg
   have HT2:=Xb ht2
   rw[HRG.out] at HT2
   have hk':((k:Int)==0)=false:=by simpa using hk
   have hk'':((k:Int) !=0)=true:=by simpa using hk
   have hpos:0<Ye wr rb s.size:=by
    rw[ha2.meas,if_neg (by decide)]
    have:=ha2.le
    omega
   have hmw:Ye wr rb s.size=s.size+1-p2:=by rw[ha2.meas,if_neg (by decide)]
   have HMW:=Xb hmw
   have HPOS:=Xb hpos
   have HMG:=Xb hmg
   have HLV:=Xb (HHR.out 3 Z fs2 p2 wr (by decide) (by decide) ha2.zb ha2 hl2 (by omega))
   have HK0:Hid (k≠0):=hk
   clear hbt ha2 hrg hmg ht2 hpos hmw
   go_wp2_with fail
   refine HLV.out.mono ?_
   intro e w3 h3
   obtain ⟨n3,rfl,b3,hn3⟩:=h3.n
   have HB3:=Xb (HBT.out.trans b3)
   have HM3:=Xb hn3.meas
   obtain ⟨r3,hr3⟩:∃r3,R 3 fs2 (skF s.data.toList p2)=r3:=⟨_,rfl⟩
   rw[hr3] at HT2 hn3
   have HVAL:Hid (∀y,r3=some y→y.1=n3):=by
    obtain ⟨_,_,_,⟨h1,_⟩|⟨h1,_⟩⟩:=hn3
    ·intro y hy;rw[h1] at hy;cases hy;rfl
    ·intro y hy;rw[h1] at hy;cases hy
   have HA:=Xb (Xbx (p0:=p) hn3.st hs (by omega) hn3.zb k [n,n3] (by simp))
   have HEQ:Hid (Xy r3 (fun b fs q=>Xu WSp (Yw k [n,b]) fs q)=(r3.map (·.2)).bind fun x=>Xu WSp (Yw k [n,n3]) x.1 x.2):=by
    rw[Hid]
    cases e:r3 with
    |none=>rfl
    |some y=>obtain ⟨b,f4,q4⟩:=y;obtain rfl:b=n3:=HVAL.out _ e;rfl
   rw[HEQ.out] at HT2
   clear h3 b3 hn3 hr3 c0 c1 c2
   go_wp2_with fail
   refine HA.out.mono ?_
   rintro e w4 ⟨n4,rfl,b4,hn4,hm4⟩
   have HB4:=Xb (HB3.out.trans b4)
   have HM4:Hid (Ye w4 rb s.size≤Ye wr rb s.size):=by rw[Hid];have:=HM3.out;have:=HMW.out;omega
   obtain ⟨g,rfl⟩:∃g',g=g'+1:=⟨g-1,by have:=HPOS.out;have:=HMG.out;omega⟩
   have HSG2:=Xb (Xav (l:=2) (g:=g) (tg:=tg) (R:=R) (by decide) (by decide) (by omega) hn4 (by rw[HT2.out];rfl) (by have:=HM4.out;have:=HMG.out;omega))
   clear b4 hn4 hm4
   go_wp2_with fail
   refine HSG2.out.mono ?_
   rintro e w5 ⟨k5,rfl,b5,hh5,hm5⟩
   have HH5:=Xb hh5
   have HB5:=Xb (HB4.out.trans b5)
   have HM5:=Xb hm5
   clear b5 hh5 hm5
   go_wp2_with fail
   go_roundw
   case rel=>exact ⟨g,n4,k5,rfl,rfl,HH5.out,HB5.out⟩
   case measure=>
    have h1:=HM4.out
    have h2:=HPOS.out
    have h0:=HK0.out
    have e1:intOf (Value.int .i64 k)=k:=rfl
    have e2:intOf (Value.int .i64 k5)=k5:=rfl
    rw[e1,e2,if_neg h0]
    by_cases h5:k5=0
    ·rw[if_pos h5];omega
    ·rw[if_neg h5];have:=HM5.out h5;omega
set_option maxRecDepth 100000 in
theorem Xq7 (HN:∀(Z:Nat→Prop) (fs:List FN) (p:Nat) (w:World),(∀x,Z x→x<w.heap.size)→LfAt w rb base Z s p false fs→fs.length≤40→s.size≤p+f→Calls Tryz.prog 43 #[.pointer (some ⟨rb,0,none⟩), .int .i64 2] w (LfOr (lvS R s.data.toList WSp 4 fs (skF s.data.toList p)) rb base Z s p w))
  {p:Nat} {Z:Nat→Prop} {fs:List FN} {w:World} (h:LfAt w rb base Z s p false fs) (hZ:∀x,Z x→x<w.heap.size) (hs:s.size≤1000) (hl:fs.length≤40) (hf:s.size≤p+f):
  Calls Tryz.prog 43 #[.pointer (some ⟨rb,0,none⟩), .int .i64 1] w (LfOr (lvS R s.data.toList WSp 5 fs (skF s.data.toList p)) rb base Z s p w):=by
 have HLN:=Xa (Xm s)
 obtain ⟨c0,c1,c2⟩:=h.cells
 have HPR:=Xa (HN Z fs p w hZ h hl hf)
 have HHR:=Xa HR
 obtain ⟨tg,htg⟩:∃tg,lvS R s.data.toList WSp 5 fs (skF s.data.toList p)=tg:=⟨_,rfl⟩
 have HTG:Hid (tg=Xy (lvS R s.data.toList WSp 4 fs (skF s.data.toList p)) fun n fs q=>J2 R s.data.toList WSp 1 (s.size+1) n fs q):=by rw[Hid,←htg,←HLN.out];rfl
 obtain ⟨cu,hcu⟩:∃cu,lvS R s.data.toList WSp 4 fs (skF s.data.toList p)=cu:=⟨_,rfl⟩
 rw[hcu] at HPR HTG
 rw[htg]
 clear h hZ HR htg hcu HN
 go_enter Tryz.func43,Tryz.ntmps43
 go_wp2_with fail
 refine HPR.out.mono ?_
 intro e w1 h
 obtain ⟨n1,rfl,b1,hn1⟩:=h.n
 have HB1:=Xa b1
 have hm1:Ye w1 rb s.size≤s.size+1:=by have:=hn1.meas;omega
 have HSG:=Xa (Xav (l:=1) (by decide) (by decide) (by omega) hn1 HTG.out hm1)
 clear h b1 hn1 c0 c1 c2 HPR hm1
 go_wp2_with fail
 refine HSG.out.mono ?_
 rintro e w2 ⟨k2,rfl,b2,hh2,_⟩
 have HH2:=Xa hh2
 have HB2:=Xa (HB1.out.trans b2)
 clear b2 hh2 HSG HTG
 go_wp2_with fail
 go_loopw [5,6,7,8] (fun av kv _ _ wr=>∃(g:Nat) (n k:Int),av= .int .i64 n∧kv= .int .i64 k∧Xdy R tg 1 g n k rb base Z s p wr∧LB rb base Z w wr) (fun _ kv _ _ wr=>if intOf kv=0 then 0 else 1+Ye wr rb s.size)
 case atStart=>exact ⟨s.size,n1,k2,rfl,rfl,HH2.out,HB2.out⟩
 case round=>
  obtain ⟨g,n,k,rfl,rfl,hh,hbt⟩:=hrel
  have HBT:=Xb hbt
  clear HH2 HB2 HB1
  rcases hh with ⟨rfl,hn⟩|⟨hk,fs2,p2,ha2,hl2,hp2,hrg,hmg,ht2⟩
  ·have HN2:=Xb hn
   clear hn hbt
   go_wp2_with fail
   go_ret
   exact HN2.out.or (Nat.le_refl _) HBT.out
  ·obtain ⟨c0,c1,c2⟩:=ha2.cells
   have HRG:Hid (Qh k=1):=hrg
   have HT2:=Xb ht2
   rw[HRG.out] at HT2
   have hk':((k:Int)==0)=false:=by simpa using hk
   have hk'':((k:Int) !=0)=true:=by simpa using hk
   have hpos:0<Ye wr rb s.size:=by
    rw[ha2.meas,if_neg (by decide)]
    have:=ha2.le
    omega
   have hmw:Ye wr rb s.size=s.size+1-p2:=by rw[ha2.meas,if_neg (by decide)]
   have HMW:=Xb hmw
   have HPOS:=Xb hpos
   have HMG:=Xb hmg
   have HLV:=Xb (HHR.out 1 Z fs2 p2 wr (by decide) (by decide) ha2.zb ha2 hl2 (by omega))
   have HK0:Hid (k≠0):=hk
   clear hbt ha2 hrg hmg ht2 hpos hmw
   go_wp2_with fail
   refine HLV.out.mono ?_
   intro e w3 h3
   obtain ⟨n3,rfl,b3,hn3⟩:=h3.n
   have HB3:=Xb (HBT.out.trans b3)
   have HM3:=Xb hn3.meas
   obtain ⟨r3,hr3⟩:∃r3,R 1 fs2 (skF s.data.toList p2)=r3:=⟨_,rfl⟩
   rw[hr3] at HT2 hn3
   have HVAL:Hid (∀y,r3=some y→y.1=n3):=by
    obtain ⟨_,_,_,⟨h1,_⟩|⟨h1,_⟩⟩:=hn3
    ·intro y hy;rw[h1] at hy;cases hy;rfl
    ·intro y hy;rw[h1] at hy;cases hy
   have HA:=Xb (Xbx (p0:=p) hn3.st hs (by omega) hn3.zb k [n,n3] (by simp))
   have HEQ:Hid (Xy r3 (fun b fs q=>Xu WSp (Yw k [n,b]) fs q)=(r3.map (·.2)).bind fun x=>Xu WSp (Yw k [n,n3]) x.1 x.2):=by
    rw[Hid]
    cases e:r3 with
    |none=>rfl
    |some y=>obtain ⟨b,f4,q4⟩:=y;obtain rfl:b=n3:=HVAL.out _ e;rfl
   rw[HEQ.out] at HT2
   clear h3 b3 hn3 hr3 c0 c1 c2
   go_wp2_with fail
   refine HA.out.mono ?_
   rintro e w4 ⟨n4,rfl,b4,hn4,hm4⟩
   have HB4:=Xb (HB3.out.trans b4)
   have HN4:=Xb (LfN.of (r:=tg) (by
    rw[HT2.out]
    show Xy _ (fun n fs q=>some (n,fs,q))=_
    generalize ((r3.map (·.2)).bind fun x=>Xu WSp (Yw k [n,n3]) x.1 x.2)=c
    cases c<;>rfl) hn4)
   clear b4 hn4 hm4
   go_wp2_with fail
   go_ret
   exact HN4.out.or (Nat.le_refl _) HB4.out
theorem Xlg {l:Int} {p:Nat} {Z:Nat→Prop} {fs:List FN} {w:World} (h1:1≤l) (h6:l≤6) (h:LfAt w rb base Z s p false fs) (hZ:∀x,Z x→x<w.heap.size) (hs:s.size≤1000) (hl:fs.length≤40) (hf:s.size≤p+f):
  Calls Tryz.prog 43 #[.pointer (some ⟨rb,0,none⟩), .int .i64 l] w (LfOr (lvS R s.data.toList WSp (6-l.toNat) fs (skF s.data.toList p)) rb base Z s p w):=by
 have L6:=fun Z fs p w hZ h hl hf=>Xq2 HR (Z:=Z) (fs:=fs) (p:=p) (w:=w) h hZ hs hl hf
 have L5:=fun Z fs p w hZ h hl hf=>Xq3 HR L6 (Z:=Z) (fs:=fs) (p:=p) (w:=w) h hZ hs hl hf
 have L4:=fun Z fs p w hZ h hl hf=>Xq4 HR L5 (Z:=Z) (fs:=fs) (p:=p) (w:=w) h hZ hs hl hf
 have L3:=fun Z fs p w hZ h hl hf=>Xq5 HR L4 (Z:=Z) (fs:=fs) (p:=p) (w:=w) h hZ hs hl hf
 have L2:=fun Z fs p w hZ h hl hf=>Xq6 HR L3 (Z:=Z) (fs:=fs) (p:=p) (w:=w) h hZ hs hl hf
 have L1:=fun Z fs p w hZ h hl hf=>Xq7 HR L2 (Z:=Z) (fs:=fs) (p:=p) (w:=w) h hZ hs hl hf
 rcases (show l=1∨l=2∨l=3∨l=4∨l=5∨l=6 by omega) with rfl|rfl|rfl|rfl|rfl|rfl
 ·exact L1 Z fs p w hZ h hl hf
 ·exact L2 Z fs p w hZ h hl hf
 ·exact L3 Z fs p w hZ h hl hf
 ·exact L4 Z fs p w hZ h hl hf
 ·exact L5 Z fs p w hZ h hl hf
 ·exact L6 Z fs p w hZ h hl hf
end
theorem Xlh {rb base:Nat} {s:ByteArray} (hs:s.size≤1000):∀f,Xgj (Up WSp s.data.toList f) f rb base s:=by
 intro f
 induction f with
 |zero=>intro l Z fs p w _ _ _ h _ hf;have:=h.le;omega
 | succ f ih =>
  intro l Z fs p w h1 h6 hZ h hl hf
  exact Xlg ih h1 h6 h hZ hs hl (by omega)
end Go.Proofs.YtehihemfepbmfaaGreatDoor
