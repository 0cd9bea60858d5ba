import Derived.Test.YtehihemfepbmfaaGreatDoorMkG
import Derived.Test.YtehihemfepbmfaaGreatDoorFtH
import Derived.Test.YtehihemfepbmfaaGreatDoorSgSb
namespace Go.Proofs.YtehihemfepbmfaaGreatDoor
set_option linter.unusedSectionVars false
set_option maxHeartbeats 6400000
open Go.RowKit
set_option linter.unusedSimpArgs false
set_option linter.unusedVariables false
theorem Xnk{L:List UInt8}{p:Nat}{c d:UInt8}:Qp L p [c,d]=(Xe L p c.toNat&&Xe L(p+1)d.toNat):=by
 rw[←Jd,←Jd]
 unfold Qp
 rw[Bool.eq_iff_iff]
 simp only[Bool.and_eq_true,decide_eq_true_eq]
 rw[show L.drop(p+1)=(L.drop p).drop 1 by rw[List.drop_drop]]
 cases L.drop p with
 |nil=>simp
 | cons a l =>
  cases l with
  |nil=>simp
  |cons b l=>simp
theorem Xie{rb base p:Nat}{Z:Nat→Prop}{s:ByteArray}{fs:List FN}{w:World}(c d:UInt8)(h:LfAt w rb base Z s p false fs)(hs:s.size≤4000):
  Calls Tryz.prog 79 #[.pointer(some⟨rb,0,none⟩), .string⟨#[c,d]⟩]w fun e w'=>e= .returned(.bool(Xe s.data.toList(skF s.data.toList p)c.toNat&&Xe s.data.toList(skF s.data.toList p+1)d.toNat))∧LfAt w' rb base Z s(if(Xe s.data.toList(skF s.data.toList p)c.toNat&&Xe s.data.toList(skF s.data.toList p+1)d.toNat)=true then skF s.data.toList p+2 else skF s.data.toList p)false fs∧LB rb base Z w w':=by
 have hw:Qp s.data.toList(skF s.data.toList p)(⟨#[c,d]⟩:ByteArray).data.toList=(Xe s.data.toList(skF s.data.toList p)c.toNat&&Xe s.data.toList(skF s.data.toList p+1)d.toNat):=Xnk
 cases hi:(Xe s.data.toList(skF s.data.toList p)c.toNat&&Xe s.data.toList(skF s.data.toList p+1)d.toNat)
 ·refine(Ke(u:=⟨#[c,d]⟩)h hs(by show(2:Nat)≤100;omega)(.inr(by rw[hw];exact hi))).mono ?_
  rintro e w1⟨rfl,h1,h2⟩
  exact⟨rfl,h1,h2⟩
 ·refine(Xj8(u:=⟨#[c,d]⟩)h hs(by show(2:Nat)≤100;omega)(by rw[hw];exact hi)).mono ?_
  rintro e w1⟨rfl,h1,h2⟩
  exact⟨rfl,h1,h2⟩
def Xdw(l:Int)(rb base:Nat)(Z:Nat→Prop)(s:ByteArray)(q:Nat)(fs:List FN)(w:World)(e:Ending)(w':World):Prop:=
 LB rb base Z w w'∧((Zy l s.data.toList q=none∧e= .returned(.int .i64 0)∧LfAt w' rb base Z s q false fs)∨∃k len,Zy l s.data.toList q=some(k,len)∧k≠0∧1≤len∧e= .returned(.int .i64 k)∧LfAt w' rb base Z s(q+len)false fs)
set_option maxRecDepth 100000 in
theorem Xtn{rb base p q:Nat}{Z:Nat→Prop}{s:ByteArray}{fs:List FN}{w:World}(h:LfAt w rb base Z s p false fs)(hs:s.size≤4000)(hq:skF s.data.toList p=q):
  Calls Tryz.prog 81 #[.pointer(some⟨rb,0,none⟩), .int .i64 1]w(Xdw 1 rb base Z s q fs w):=by
 have HBK:=Xa(Yy h hs)
 have HLN:=Xa(Xm s)
 have HQQ:Hid(skF s.data.toList q=q):=by rw[Hid,←hq];exact Yh _ _
 have hql:q≤s.size:=by rw[←hq,←HLN.out];exact X1(by rw[HLN.out];exact h.le)
 rw[hq]at HBK
 clear h hq
 by_cases hlt:q+1<s.size
 focus
  have hlt0:(q:Int)<(s.size:Int):=by omega
  have hlt1:(q:Int)+1<(s.size:Int):=by omega
  have hd1:decide((q:Int)+1<(s.size:Int))=true:=by simpa using hlt1
  have HBA:=Xa(byS(show q<s.size by omega))
  have HBB:=Xa(byS hlt)
  obtain⟨c,hc⟩:∃c,s[q].toNat=c:=⟨_,rfl⟩
  obtain⟨d,hd⟩:∃d,s[q+1].toNat=d:=⟨_,rfl⟩
  have HC:Hid(Xh s.data.toList q=c):=by rw[Hid,←HBA.out];exact hc
  have HD:Hid(Xh s.data.toList(q+1)=d):=by rw[Hid,←HBB.out];exact hd
  have et:((q:Int)+1).toNat=q+1:=by omega
  by_cases e1:c=47
  focus
   have n1:((c:Int)==47)=true:=by rw[e1];rfl
   have n1':(c:Int)=47:=by omega
   by_cases e2:d=47
   focus
    have n2:((d:Int)==47)=true:=by rw[e2];rfl
    have n2':(d:Int)=47:=by omega
    have HTW:Hid((Xe s.data.toList q 47&&Xe s.data.toList(q+1)47)=true):=by
     rw[Hid,Bool.and_eq_true];exact⟨Xl.2⟨by rw[HLN.out];omega,by rw[HC.out,e1]⟩,Xl.2⟨by rw[HLN.out];omega,by rw[HD.out,e2]⟩⟩
    go_enter Tryz.func81,Tryz.ntmps81
    go_wp2_with fail
    refine HBK.out.mono ?_
    rintro e w1⟨rfl,h,b⟩
    have HF1:=Xa h
    have HB1:=Xa b
    obtain⟨c0,c1,c2⟩:=h.cells
    clear h b
    go_wp2_with fail
    go_quiet(fail)
   rotate_left
   focus
    have n2:((d:Int)==47)=false:=by simp;omega
    have n2':¬(d:Int)=47:=by omega
    have HTW:Hid((Xe s.data.toList q 47&&Xe s.data.toList(q+1)47)=false):=by
     rw[Hid,Bool.and_eq_false_iff];right;rw[X7];rintro⟨_,e⟩;rw[HD.out]at e;exact e2 e
    go_enter Tryz.func81,Tryz.ntmps81
    go_wp2_with fail
    refine HBK.out.mono ?_
    rintro e w1⟨rfl,h,b⟩
    have HF1:=Xa h
    have HB1:=Xa b
    obtain⟨c0,c1,c2⟩:=h.cells
    clear h b
    go_wp2_with fail
    go_quiet(fail)
  rotate_left 2
  focus
   have n1:((c:Int)==47)=false:=by simp;omega
   have n1':¬(c:Int)=47:=by omega
   have HTW:Hid((Xe s.data.toList q 47&&Xe s.data.toList(q+1)47)=false):=by
    rw[Hid,Bool.and_eq_false_iff];left;rw[X7];rintro⟨_,e⟩;rw[HC.out]at e;exact e1 e
   go_enter Tryz.func81,Tryz.ntmps81
   go_wp2_with fail
   refine HBK.out.mono ?_
   rintro e w1⟨rfl,h,b⟩
   have HF1:=Xa h
   have HB1:=Xa b
   obtain⟨c0,c1,c2⟩:=h.cells
   clear h b
   go_wp2_with fail
   go_quiet(fail)
 rotate_left 3
 focus
  have hlt1:¬(q:Int)+1<(s.size:Int):=by omega
  have hd1:decide((q:Int)+1<(s.size:Int))=false:=by simpa using hlt1
  have HTW:Hid((Xe s.data.toList q 47&&Xe s.data.toList(q+1)47)=false):=by
   rw[Hid,Bool.and_eq_false_iff];right;rw[X7];rintro⟨e,_⟩;rw[HLN.out]at e;omega
  go_enter Tryz.func81,Tryz.ntmps81
  go_wp2_with fail
  refine HBK.out.mono ?_
  rintro e w1⟨rfl,h,b⟩
  have HF1:=Xa h
  have HB1:=Xa b
  obtain⟨c0,c1,c2⟩:=h.cells
  clear h b
  go_wp2_with fail
  go_quiet(fail)
 all_goals
  have HDD:=Xa(Xq(w:=w1)nq)
  have HF2:=Xa(HF1.out.below HDD.out)
  have HB2:=Xa(HB1.out.trans(LB.of_below HDD.out))
  clear c0 c1 c2
  generalize w1.drewN nq=W0 at HDD HF2 HB2⊢
  clear nq
  have hi:=Zu 124 HF2.out(by omega)
  rw[HQQ.out,show(124:UInt8).toNat=124 from rfl]at hi
  cases a0:(Xe s.data.toList q 124)
  rotate_left
  ·have HEQ:Hid(Zy 1 s.data.toList q=some(6,1)):=by rw[Hid,Xyn];rw[if_pos a0]
   rw[a0]at hi
   have HI:=Xa hi
   clear hi a0
   go_wp2_with fail
   refine HI.out.mono ?_
   rintro e w3⟨rfl,h3,b3⟩
   have h9:LfAt w3 rb base Z s(q+1)false fs:=h3
   have HF3:=Xa h9
   have HB3:=Xa(HB2.out.trans b3)
   clear h3 b3 h9
   go_wp2_with fail
   go_ret
   exact⟨HB3.out, .inr⟨6,1,HEQ.out,by decide,by decide,rfl,HF3.out⟩⟩
  rw[a0]at hi
  have HI0:=Xa hi
  have HA0:=Xa a0
  clear hi a0
  go_wp2_with fail
  refine HI0.out.mono ?_
  rintro e v0⟨rfl,h3,b3⟩
  have h9:LfAt v0 rb base Z s q false fs:=h3
  have HG0:=Xa h9
  have HC0:=Xa(HB2.out.trans b3)
  clear h3 b3 h9
  have HEQ:Hid(Zy 1 s.data.toList q=none):=by rw[Hid,Xyn];rw[if_neg(by rw[HA0.out];decide)]
  go_wp2_with fail
  go_ret
  exact⟨HC0.out, .inl⟨HEQ.out,rfl,HG0.out⟩⟩
set_option maxRecDepth 100000 in
theorem Xto{rb base p q:Nat}{Z:Nat→Prop}{s:ByteArray}{fs:List FN}{w:World}(h:LfAt w rb base Z s p false fs)(hs:s.size≤4000)(hq:skF s.data.toList p=q):
  Calls Tryz.prog 81 #[.pointer(some⟨rb,0,none⟩), .int .i64 2]w(Xdw 2 rb base Z s q fs w):=by
 have HBK:=Xa(Yy h hs)
 have HLN:=Xa(Xm s)
 have HQQ:Hid(skF s.data.toList q=q):=by rw[Hid,←hq];exact Yh _ _
 have hql:q≤s.size:=by rw[←hq,←HLN.out];exact X1(by rw[HLN.out];exact h.le)
 rw[hq]at HBK
 clear h hq
 by_cases hlt:q+1<s.size
 focus
  have hlt0:(q:Int)<(s.size:Int):=by omega
  have hlt1:(q:Int)+1<(s.size:Int):=by omega
  have hd1:decide((q:Int)+1<(s.size:Int))=true:=by simpa using hlt1
  have HBA:=Xa(byS(show q<s.size by omega))
  have HBB:=Xa(byS hlt)
  obtain⟨c,hc⟩:∃c,s[q].toNat=c:=⟨_,rfl⟩
  obtain⟨d,hd⟩:∃d,s[q+1].toNat=d:=⟨_,rfl⟩
  have HC:Hid(Xh s.data.toList q=c):=by rw[Hid,←HBA.out];exact hc
  have HD:Hid(Xh s.data.toList(q+1)=d):=by rw[Hid,←HBB.out];exact hd
  have et:((q:Int)+1).toNat=q+1:=by omega
  by_cases e1:c=47
  focus
   have n1:((c:Int)==47)=true:=by rw[e1];rfl
   have n1':(c:Int)=47:=by omega
   by_cases e2:d=47
   focus
    have n2:((d:Int)==47)=true:=by rw[e2];rfl
    have n2':(d:Int)=47:=by omega
    have HTW:Hid((Xe s.data.toList q 47&&Xe s.data.toList(q+1)47)=true):=by
     rw[Hid,Bool.and_eq_true];exact⟨Xl.2⟨by rw[HLN.out];omega,by rw[HC.out,e1]⟩,Xl.2⟨by rw[HLN.out];omega,by rw[HD.out,e2]⟩⟩
    go_enter Tryz.func81,Tryz.ntmps81
    go_wp2_with fail
    refine HBK.out.mono ?_
    rintro e w1⟨rfl,h,b⟩
    have HF1:=Xa h
    have HB1:=Xa b
    obtain⟨c0,c1,c2⟩:=h.cells
    clear h b
    go_wp2_with fail
    go_quiet(fail)
   rotate_left
   focus
    have n2:((d:Int)==47)=false:=by simp;omega
    have n2':¬(d:Int)=47:=by omega
    have HTW:Hid((Xe s.data.toList q 47&&Xe s.data.toList(q+1)47)=false):=by
     rw[Hid,Bool.and_eq_false_iff];right;rw[X7];rintro⟨_,e⟩;rw[HD.out]at e;exact e2 e
    go_enter Tryz.func81,Tryz.ntmps81
    go_wp2_with fail
    refine HBK.out.mono ?_
    rintro e w1⟨rfl,h,b⟩
    have HF1:=Xa h
    have HB1:=Xa b
    obtain⟨c0,c1,c2⟩:=h.cells
    clear h b
    go_wp2_with fail
    go_quiet(fail)
  rotate_left 2
  focus
   have n1:((c:Int)==47)=false:=by simp;omega
   have n1':¬(c:Int)=47:=by omega
   have HTW:Hid((Xe s.data.toList q 47&&Xe s.data.toList(q+1)47)=false):=by
    rw[Hid,Bool.and_eq_false_iff];left;rw[X7];rintro⟨_,e⟩;rw[HC.out]at e;exact e1 e
   go_enter Tryz.func81,Tryz.ntmps81
   go_wp2_with fail
   refine HBK.out.mono ?_
   rintro e w1⟨rfl,h,b⟩
   have HF1:=Xa h
   have HB1:=Xa b
   obtain⟨c0,c1,c2⟩:=h.cells
   clear h b
   go_wp2_with fail
   go_quiet(fail)
 rotate_left 3
 focus
  have hlt1:¬(q:Int)+1<(s.size:Int):=by omega
  have hd1:decide((q:Int)+1<(s.size:Int))=false:=by simpa using hlt1
  have HTW:Hid((Xe s.data.toList q 47&&Xe s.data.toList(q+1)47)=false):=by
   rw[Hid,Bool.and_eq_false_iff];right;rw[X7];rintro⟨e,_⟩;rw[HLN.out]at e;omega
  go_enter Tryz.func81,Tryz.ntmps81
  go_wp2_with fail
  refine HBK.out.mono ?_
  rintro e w1⟨rfl,h,b⟩
  have HF1:=Xa h
  have HB1:=Xa b
  obtain⟨c0,c1,c2⟩:=h.cells
  clear h b
  go_wp2_with fail
  go_quiet(fail)
 all_goals
  have HDD:=Xa(Xq(w:=w1)nq)
  have HF2:=Xa(HF1.out.below HDD.out)
  have HB2:=Xa(HB1.out.trans(LB.of_below HDD.out))
  clear c0 c1 c2
  generalize w1.drewN nq=W0 at HDD HF2 HB2⊢
  clear nq
  have hi:=Zu 44 HF2.out(by omega)
  rw[HQQ.out,show(44:UInt8).toNat=44 from rfl]at hi
  cases a0:(Xe s.data.toList q 44)
  rotate_left
  ·have HEQ:Hid(Zy 2 s.data.toList q=some(7,1)):=by rw[Hid,Xyo];rw[if_pos a0]
   rw[a0]at hi
   have HI:=Xa hi
   clear hi a0
   go_wp2_with fail
   refine HI.out.mono ?_
   rintro e w3⟨rfl,h3,b3⟩
   have h9:LfAt w3 rb base Z s(q+1)false fs:=h3
   have HF3:=Xa h9
   have HB3:=Xa(HB2.out.trans b3)
   clear h3 b3 h9
   go_wp2_with fail
   go_ret
   exact⟨HB3.out, .inr⟨7,1,HEQ.out,by decide,by decide,rfl,HF3.out⟩⟩
  rw[a0]at hi
  have HI0:=Xa hi
  have HA0:=Xa a0
  clear hi a0
  go_wp2_with fail
  refine HI0.out.mono ?_
  rintro e v0⟨rfl,h3,b3⟩
  have h9:LfAt v0 rb base Z s q false fs:=h3
  have HG0:=Xa h9
  have HC0:=Xa(HB2.out.trans b3)
  clear h3 b3 h9
  have HEQ:Hid(Zy 2 s.data.toList q=none):=by rw[Hid,Xyo];rw[if_neg(by rw[HA0.out];decide)]
  go_wp2_with fail
  go_ret
  exact⟨HC0.out, .inl⟨HEQ.out,rfl,HG0.out⟩⟩
set_option maxRecDepth 100000 in
theorem Xtp{rb base p q:Nat}{Z:Nat→Prop}{s:ByteArray}{fs:List FN}{w:World}(h:LfAt w rb base Z s p false fs)(hs:s.size≤4000)(hq:skF s.data.toList p=q):
  Calls Tryz.prog 81 #[.pointer(some⟨rb,0,none⟩), .int .i64 3]w(Xdw 3 rb base Z s q fs w):=by
 have HBK:=Xa(Yy h hs)
 have HLN:=Xa(Xm s)
 have HQQ:Hid(skF s.data.toList q=q):=by rw[Hid,←hq];exact Yh _ _
 have hql:q≤s.size:=by rw[←hq,←HLN.out];exact X1(by rw[HLN.out];exact h.le)
 rw[hq]at HBK
 clear h hq
 by_cases hlt:q+1<s.size
 focus
  have hlt0:(q:Int)<(s.size:Int):=by omega
  have hlt1:(q:Int)+1<(s.size:Int):=by omega
  have hd1:decide((q:Int)+1<(s.size:Int))=true:=by simpa using hlt1
  have HBA:=Xa(byS(show q<s.size by omega))
  have HBB:=Xa(byS hlt)
  obtain⟨c,hc⟩:∃c,s[q].toNat=c:=⟨_,rfl⟩
  obtain⟨d,hd⟩:∃d,s[q+1].toNat=d:=⟨_,rfl⟩
  have HC:Hid(Xh s.data.toList q=c):=by rw[Hid,←HBA.out];exact hc
  have HD:Hid(Xh s.data.toList(q+1)=d):=by rw[Hid,←HBB.out];exact hd
  have et:((q:Int)+1).toNat=q+1:=by omega
  by_cases e1:c=47
  focus
   have n1:((c:Int)==47)=true:=by rw[e1];rfl
   have n1':(c:Int)=47:=by omega
   by_cases e2:d=47
   focus
    have n2:((d:Int)==47)=true:=by rw[e2];rfl
    have n2':(d:Int)=47:=by omega
    have HTW:Hid((Xe s.data.toList q 47&&Xe s.data.toList(q+1)47)=true):=by
     rw[Hid,Bool.and_eq_true];exact⟨Xl.2⟨by rw[HLN.out];omega,by rw[HC.out,e1]⟩,Xl.2⟨by rw[HLN.out];omega,by rw[HD.out,e2]⟩⟩
    go_enter Tryz.func81,Tryz.ntmps81
    go_wp2_with fail
    refine HBK.out.mono ?_
    rintro e w1⟨rfl,h,b⟩
    have HF1:=Xa h
    have HB1:=Xa b
    obtain⟨c0,c1,c2⟩:=h.cells
    clear h b
    go_wp2_with fail
    go_quiet(fail)
   rotate_left
   focus
    have n2:((d:Int)==47)=false:=by simp;omega
    have n2':¬(d:Int)=47:=by omega
    have HTW:Hid((Xe s.data.toList q 47&&Xe s.data.toList(q+1)47)=false):=by
     rw[Hid,Bool.and_eq_false_iff];right;rw[X7];rintro⟨_,e⟩;rw[HD.out]at e;exact e2 e
    go_enter Tryz.func81,Tryz.ntmps81
    go_wp2_with fail
    refine HBK.out.mono ?_
    rintro e w1⟨rfl,h,b⟩
    have HF1:=Xa h
    have HB1:=Xa b
    obtain⟨c0,c1,c2⟩:=h.cells
    clear h b
    go_wp2_with fail
    go_quiet(fail)
  rotate_left 2
  focus
   have n1:((c:Int)==47)=false:=by simp;omega
   have n1':¬(c:Int)=47:=by omega
   have HTW:Hid((Xe s.data.toList q 47&&Xe s.data.toList(q+1)47)=false):=by
    rw[Hid,Bool.and_eq_false_iff];left;rw[X7];rintro⟨_,e⟩;rw[HC.out]at e;exact e1 e
   go_enter Tryz.func81,Tryz.ntmps81
   go_wp2_with fail
   refine HBK.out.mono ?_
   rintro e w1⟨rfl,h,b⟩
   have HF1:=Xa h
   have HB1:=Xa b
   obtain⟨c0,c1,c2⟩:=h.cells
   clear h b
   go_wp2_with fail
   go_quiet(fail)
 rotate_left 3
 focus
  have hlt1:¬(q:Int)+1<(s.size:Int):=by omega
  have hd1:decide((q:Int)+1<(s.size:Int))=false:=by simpa using hlt1
  have HTW:Hid((Xe s.data.toList q 47&&Xe s.data.toList(q+1)47)=false):=by
   rw[Hid,Bool.and_eq_false_iff];right;rw[X7];rintro⟨e,_⟩;rw[HLN.out]at e;omega
  go_enter Tryz.func81,Tryz.ntmps81
  go_wp2_with fail
  refine HBK.out.mono ?_
  rintro e w1⟨rfl,h,b⟩
  have HF1:=Xa h
  have HB1:=Xa b
  obtain⟨c0,c1,c2⟩:=h.cells
  clear h b
  go_wp2_with fail
  go_quiet(fail)
 all_goals
  have HDD:=Xa(Xq(w:=w1)nq)
  have HF2:=Xa(HF1.out.below HDD.out)
  have HB2:=Xa(HB1.out.trans(LB.of_below HDD.out))
  clear c0 c1 c2
  generalize w1.drewN nq=W0 at HDD HF2 HB2⊢
  clear nq
  have HEQ:Hid(Zy 3 s.data.toList q=if(Xe s.data.toList q 47&&Xe s.data.toList(q+1)47)=true then some(21,2)else none):=by rw[Hid,X1d];simp only[Bool.and_eq_true]
  rw[HTW.out]at HEQ
  have hi:=Xie 47 47 HF2.out(by omega)
  rw[HQQ.out,show(47:UInt8).toNat=47 from rfl]at hi
  rw[HTW.out]at hi
  have HI:=Xa hi
  clear hi
  first
   | (go_wp2_with fail
      go_ret
      exact⟨HB2.out, .inl⟨HEQ.out,rfl,HF2.out⟩⟩)
   | (go_wp2_with fail
      refine HI.out.mono ?_
      rintro e w3⟨rfl,h3,b3⟩
      have h9:LfAt w3 rb base Z s(q+2)false fs:=h3
      have HF3:=Xa h9
      have HB3:=Xa(HB2.out.trans b3)
      clear h3 b3 h9
      go_wp2_with fail
      go_ret
      exact⟨HB3.out, .inr⟨21,2,HEQ.out,by decide,by decide,rfl,HF3.out⟩⟩)
set_option maxRecDepth 100000 in
theorem Xtq{rb base p q:Nat}{Z:Nat→Prop}{s:ByteArray}{fs:List FN}{w:World}(h:LfAt w rb base Z s p false fs)(hs:s.size≤4000)(hq:skF s.data.toList p=q):
  Calls Tryz.prog 81 #[.pointer(some⟨rb,0,none⟩), .int .i64 4]w(Xdw 4 rb base Z s q fs w):=by
 have HBK:=Xa(Yy h hs)
 have HLN:=Xa(Xm s)
 have HQQ:Hid(skF s.data.toList q=q):=by rw[Hid,←hq];exact Yh _ _
 have hql:q≤s.size:=by rw[←hq,←HLN.out];exact X1(by rw[HLN.out];exact h.le)
 rw[hq]at HBK
 clear h hq
 by_cases hlt:q+1<s.size
 focus
  have hlt0:(q:Int)<(s.size:Int):=by omega
  have hlt1:(q:Int)+1<(s.size:Int):=by omega
  have hd1:decide((q:Int)+1<(s.size:Int))=true:=by simpa using hlt1
  have HBA:=Xa(byS(show q<s.size by omega))
  have HBB:=Xa(byS hlt)
  obtain⟨c,hc⟩:∃c,s[q].toNat=c:=⟨_,rfl⟩
  obtain⟨d,hd⟩:∃d,s[q+1].toNat=d:=⟨_,rfl⟩
  have HC:Hid(Xh s.data.toList q=c):=by rw[Hid,←HBA.out];exact hc
  have HD:Hid(Xh s.data.toList(q+1)=d):=by rw[Hid,←HBB.out];exact hd
  have et:((q:Int)+1).toNat=q+1:=by omega
  by_cases e1:c=47
  focus
   have n1:((c:Int)==47)=true:=by rw[e1];rfl
   have n1':(c:Int)=47:=by omega
   by_cases e2:d=47
   focus
    have n2:((d:Int)==47)=true:=by rw[e2];rfl
    have n2':(d:Int)=47:=by omega
    have HTW:Hid((Xe s.data.toList q 47&&Xe s.data.toList(q+1)47)=true):=by
     rw[Hid,Bool.and_eq_true];exact⟨Xl.2⟨by rw[HLN.out];omega,by rw[HC.out,e1]⟩,Xl.2⟨by rw[HLN.out];omega,by rw[HD.out,e2]⟩⟩
    go_enter Tryz.func81,Tryz.ntmps81
    go_wp2_with fail
    refine HBK.out.mono ?_
    rintro e w1⟨rfl,h,b⟩
    have HF1:=Xa h
    have HB1:=Xa b
    obtain⟨c0,c1,c2⟩:=h.cells
    clear h b
    go_wp2_with fail
    go_quiet(fail)
   rotate_left
   focus
    have n2:((d:Int)==47)=false:=by simp;omega
    have n2':¬(d:Int)=47:=by omega
    have HTW:Hid((Xe s.data.toList q 47&&Xe s.data.toList(q+1)47)=false):=by
     rw[Hid,Bool.and_eq_false_iff];right;rw[X7];rintro⟨_,e⟩;rw[HD.out]at e;exact e2 e
    go_enter Tryz.func81,Tryz.ntmps81
    go_wp2_with fail
    refine HBK.out.mono ?_
    rintro e w1⟨rfl,h,b⟩
    have HF1:=Xa h
    have HB1:=Xa b
    obtain⟨c0,c1,c2⟩:=h.cells
    clear h b
    go_wp2_with fail
    go_quiet(fail)
  rotate_left 2
  focus
   have n1:((c:Int)==47)=false:=by simp;omega
   have n1':¬(c:Int)=47:=by omega
   have HTW:Hid((Xe s.data.toList q 47&&Xe s.data.toList(q+1)47)=false):=by
    rw[Hid,Bool.and_eq_false_iff];left;rw[X7];rintro⟨_,e⟩;rw[HC.out]at e;exact e1 e
   go_enter Tryz.func81,Tryz.ntmps81
   go_wp2_with fail
   refine HBK.out.mono ?_
   rintro e w1⟨rfl,h,b⟩
   have HF1:=Xa h
   have HB1:=Xa b
   obtain⟨c0,c1,c2⟩:=h.cells
   clear h b
   go_wp2_with fail
   go_quiet(fail)
 rotate_left 3
 focus
  have hlt1:¬(q:Int)+1<(s.size:Int):=by omega
  have hd1:decide((q:Int)+1<(s.size:Int))=false:=by simpa using hlt1
  have HTW:Hid((Xe s.data.toList q 47&&Xe s.data.toList(q+1)47)=false):=by
   rw[Hid,Bool.and_eq_false_iff];right;rw[X7];rintro⟨e,_⟩;rw[HLN.out]at e;omega
  go_enter Tryz.func81,Tryz.ntmps81
  go_wp2_with fail
  refine HBK.out.mono ?_
  rintro e w1⟨rfl,h,b⟩
  have HF1:=Xa h
  have HB1:=Xa b
  obtain⟨c0,c1,c2⟩:=h.cells
  clear h b
  go_wp2_with fail
  go_quiet(fail)
 all_goals
  have HDD:=Xa(Xq(w:=w1)nq)
  have HF2:=Xa(HF1.out.below HDD.out)
  have HB2:=Xa(HB1.out.trans(LB.of_below HDD.out))
  clear c0 c1 c2
  generalize w1.drewN nq=W0 at HDD HF2 HB2⊢
  clear nq
  have hi:=Xie 61 61 HF2.out(by omega)
  rw[HQQ.out,show(61:UInt8).toNat=61 from rfl]at hi
  cases a0:(Xe s.data.toList q 61&&Xe s.data.toList(q+1)61)
  rotate_left
  ·have HEQ:Hid(Zy 4 s.data.toList q=some(17,2)):=by rw[Hid,Xiy];rw[Bool.and_eq_true]at a0;rw[if_pos a0]
   rw[a0]at hi
   have HI:=Xa hi
   clear hi a0
   go_wp2_with fail
   refine HI.out.mono ?_
   rintro e w3⟨rfl,h3,b3⟩
   have h9:LfAt w3 rb base Z s(q+2)false fs:=h3
   have HF3:=Xa h9
   have HB3:=Xa(HB2.out.trans b3)
   clear h3 b3 h9
   go_wp2_with fail
   go_ret
   exact⟨HB3.out, .inr⟨17,2,HEQ.out,by decide,by decide,rfl,HF3.out⟩⟩
  rw[a0]at hi
  have HI0:=Xa hi
  have HA0:=Xa a0
  clear hi a0
  go_wp2_with fail
  refine HI0.out.mono ?_
  rintro e v0⟨rfl,h3,b3⟩
  have h9:LfAt v0 rb base Z s q false fs:=h3
  have HG0:=Xa h9
  have HC0:=Xa(HB2.out.trans b3)
  clear h3 b3 h9
  have hi:=Xie 33 61 HG0.out(by omega)
  rw[HQQ.out,show(33:UInt8).toNat=33 from rfl,show(61:UInt8).toNat=61 from rfl]at hi
  cases a1:(Xe s.data.toList q 33&&Xe s.data.toList(q+1)61)
  rotate_left
  ·have HEQ:Hid(Zy 4 s.data.toList q=some(18,2)):=by have a0:=HA0.out;rw[Hid,Xiy];rw[if_neg(fun e=>by rw[e.1,e.2]at a0;cases a0)];rw[Bool.and_eq_true]at a1;rw[if_pos a1]
   rw[a1]at hi
   have HI:=Xa hi
   clear hi a1
   go_wp2_with fail
   refine HI.out.mono ?_
   rintro e w3⟨rfl,h3,b3⟩
   have h9:LfAt w3 rb base Z s(q+2)false fs:=h3
   have HF3:=Xa h9
   have HB3:=Xa(HC0.out.trans b3)
   clear h3 b3 h9
   go_wp2_with fail
   go_ret
   exact⟨HB3.out, .inr⟨18,2,HEQ.out,by decide,by decide,rfl,HF3.out⟩⟩
  rw[a1]at hi
  have HI1:=Xa hi
  have HA1:=Xa a1
  clear hi a1
  go_wp2_with fail
  refine HI1.out.mono ?_
  rintro e v1⟨rfl,h3,b3⟩
  have h9:LfAt v1 rb base Z s q false fs:=h3
  have HG1:=Xa h9
  have HC1:=Xa(HC0.out.trans b3)
  clear h3 b3 h9
  have hi:=Xie 60 61 HG1.out(by omega)
  rw[HQQ.out,show(60:UInt8).toNat=60 from rfl,show(61:UInt8).toNat=61 from rfl]at hi
  cases a2:(Xe s.data.toList q 60&&Xe s.data.toList(q+1)61)
  rotate_left
  ·have HEQ:Hid(Zy 4 s.data.toList q=some(20,2)):=by have a0:=HA0.out;have a1:=HA1.out;rw[Hid,Xiy];rw[if_neg(fun e=>by rw[e.1,e.2]at a0;cases a0)];rw[if_neg(fun e=>by rw[e.1,e.2]at a1;cases a1)];rw[Bool.and_eq_true]at a2;rw[if_pos a2]
   rw[a2]at hi
   have HI:=Xa hi
   clear hi a2
   go_wp2_with fail
   refine HI.out.mono ?_
   rintro e w3⟨rfl,h3,b3⟩
   have h9:LfAt w3 rb base Z s(q+2)false fs:=h3
   have HF3:=Xa h9
   have HB3:=Xa(HC1.out.trans b3)
   clear h3 b3 h9
   go_wp2_with fail
   go_ret
   exact⟨HB3.out, .inr⟨20,2,HEQ.out,by decide,by decide,rfl,HF3.out⟩⟩
  rw[a2]at hi
  have HI2:=Xa hi
  have HA2:=Xa a2
  clear hi a2
  go_wp2_with fail
  refine HI2.out.mono ?_
  rintro e v2⟨rfl,h3,b3⟩
  have h9:LfAt v2 rb base Z s q false fs:=h3
  have HG2:=Xa h9
  have HC2:=Xa(HC1.out.trans b3)
  clear h3 b3 h9
  have hi:=Zu 60 HG2.out(by omega)
  rw[HQQ.out,show(60:UInt8).toNat=60 from rfl]at hi
  cases a3:(Xe s.data.toList q 60)
  rotate_left
  ·have HEQ:Hid(Zy 4 s.data.toList q=some(19,1)):=by have a0:=HA0.out;have a1:=HA1.out;have a2:=HA2.out;rw[Hid,Xiy];rw[if_neg(fun e=>by rw[e.1,e.2]at a0;cases a0)];rw[if_neg(fun e=>by rw[e.1,e.2]at a1;cases a1)];rw[if_neg(fun e=>by rw[e.1,e.2]at a2;cases a2)];rw[if_pos a3]
   rw[a3]at hi
   have HI:=Xa hi
   clear hi a3
   go_wp2_with fail
   refine HI.out.mono ?_
   rintro e w3⟨rfl,h3,b3⟩
   have h9:LfAt w3 rb base Z s(q+1)false fs:=h3
   have HF3:=Xa h9
   have HB3:=Xa(HC2.out.trans b3)
   clear h3 b3 h9
   go_wp2_with fail
   go_ret
   exact⟨HB3.out, .inr⟨19,1,HEQ.out,by decide,by decide,rfl,HF3.out⟩⟩
  rw[a3]at hi
  have HI3:=Xa hi
  have HA3:=Xa a3
  clear hi a3
  go_wp2_with fail
  refine HI3.out.mono ?_
  rintro e v3⟨rfl,h3,b3⟩
  have h9:LfAt v3 rb base Z s q false fs:=h3
  have HG3:=Xa h9
  have HC3:=Xa(HC2.out.trans b3)
  clear h3 b3 h9
  have HEQ:Hid(Zy 4 s.data.toList q=none):=by rw[Hid,Xiy];rw[if_neg(fun e=>by have:=HA0.out;rw[e.1,e.2]at this;cases this)];rw[if_neg(fun e=>by have:=HA1.out;rw[e.1,e.2]at this;cases this)];rw[if_neg(fun e=>by have:=HA2.out;rw[e.1,e.2]at this;cases this)];rw[if_neg(by rw[HA3.out];decide)]
  go_wp2_with fail
  go_ret
  exact⟨HC3.out, .inl⟨HEQ.out,rfl,HG3.out⟩⟩
set_option maxRecDepth 100000 in
theorem Xtr{rb base p q:Nat}{Z:Nat→Prop}{s:ByteArray}{fs:List FN}{w:World}(h:LfAt w rb base Z s p false fs)(hs:s.size≤4000)(hq:skF s.data.toList p=q):
  Calls Tryz.prog 81 #[.pointer(some⟨rb,0,none⟩), .int .i64 5]w(Xdw 5 rb base Z s q fs w):=by
 have HBK:=Xa(Yy h hs)
 have HLN:=Xa(Xm s)
 have HQQ:Hid(skF s.data.toList q=q):=by rw[Hid,←hq];exact Yh _ _
 have hql:q≤s.size:=by rw[←hq,←HLN.out];exact X1(by rw[HLN.out];exact h.le)
 rw[hq]at HBK
 clear h hq
 by_cases hlt:q+1<s.size
 focus
  have hlt0:(q:Int)<(s.size:Int):=by omega
  have hlt1:(q:Int)+1<(s.size:Int):=by omega
  have hd1:decide((q:Int)+1<(s.size:Int))=true:=by simpa using hlt1
  have HBA:=Xa(byS(show q<s.size by omega))
  have HBB:=Xa(byS hlt)
  obtain⟨c,hc⟩:∃c,s[q].toNat=c:=⟨_,rfl⟩
  obtain⟨d,hd⟩:∃d,s[q+1].toNat=d:=⟨_,rfl⟩
  have HC:Hid(Xh s.data.toList q=c):=by rw[Hid,←HBA.out];exact hc
  have HD:Hid(Xh s.data.toList(q+1)=d):=by rw[Hid,←HBB.out];exact hd
  have et:((q:Int)+1).toNat=q+1:=by omega
  by_cases e1:c=47
  focus
   have n1:((c:Int)==47)=true:=by rw[e1];rfl
   have n1':(c:Int)=47:=by omega
   by_cases e2:d=47
   focus
    have n2:((d:Int)==47)=true:=by rw[e2];rfl
    have n2':(d:Int)=47:=by omega
    have HTW:Hid((Xe s.data.toList q 47&&Xe s.data.toList(q+1)47)=true):=by
     rw[Hid,Bool.and_eq_true];exact⟨Xl.2⟨by rw[HLN.out];omega,by rw[HC.out,e1]⟩,Xl.2⟨by rw[HLN.out];omega,by rw[HD.out,e2]⟩⟩
    go_enter Tryz.func81,Tryz.ntmps81
    go_wp2_with fail
    refine HBK.out.mono ?_
    rintro e w1⟨rfl,h,b⟩
    have HF1:=Xa h
    have HB1:=Xa b
    obtain⟨c0,c1,c2⟩:=h.cells
    clear h b
    go_wp2_with fail
    go_quiet(fail)
   rotate_left
   focus
    have n2:((d:Int)==47)=false:=by simp;omega
    have n2':¬(d:Int)=47:=by omega
    have HTW:Hid((Xe s.data.toList q 47&&Xe s.data.toList(q+1)47)=false):=by
     rw[Hid,Bool.and_eq_false_iff];right;rw[X7];rintro⟨_,e⟩;rw[HD.out]at e;exact e2 e
    go_enter Tryz.func81,Tryz.ntmps81
    go_wp2_with fail
    refine HBK.out.mono ?_
    rintro e w1⟨rfl,h,b⟩
    have HF1:=Xa h
    have HB1:=Xa b
    obtain⟨c0,c1,c2⟩:=h.cells
    clear h b
    go_wp2_with fail
    go_quiet(fail)
  rotate_left 2
  focus
   have n1:((c:Int)==47)=false:=by simp;omega
   have n1':¬(c:Int)=47:=by omega
   have HTW:Hid((Xe s.data.toList q 47&&Xe s.data.toList(q+1)47)=false):=by
    rw[Hid,Bool.and_eq_false_iff];left;rw[X7];rintro⟨_,e⟩;rw[HC.out]at e;exact e1 e
   go_enter Tryz.func81,Tryz.ntmps81
   go_wp2_with fail
   refine HBK.out.mono ?_
   rintro e w1⟨rfl,h,b⟩
   have HF1:=Xa h
   have HB1:=Xa b
   obtain⟨c0,c1,c2⟩:=h.cells
   clear h b
   go_wp2_with fail
   go_quiet(fail)
 rotate_left 3
 focus
  have hlt1:¬(q:Int)+1<(s.size:Int):=by omega
  have hd1:decide((q:Int)+1<(s.size:Int))=false:=by simpa using hlt1
  have HTW:Hid((Xe s.data.toList q 47&&Xe s.data.toList(q+1)47)=false):=by
   rw[Hid,Bool.and_eq_false_iff];right;rw[X7];rintro⟨e,_⟩;rw[HLN.out]at e;omega
  go_enter Tryz.func81,Tryz.ntmps81
  go_wp2_with fail
  refine HBK.out.mono ?_
  rintro e w1⟨rfl,h,b⟩
  have HF1:=Xa h
  have HB1:=Xa b
  obtain⟨c0,c1,c2⟩:=h.cells
  clear h b
  go_wp2_with fail
  go_quiet(fail)
 all_goals
  have HDD:=Xa(Xq(w:=w1)nq)
  have HF2:=Xa(HF1.out.below HDD.out)
  have HB2:=Xa(HB1.out.trans(LB.of_below HDD.out))
  clear c0 c1 c2
  generalize w1.drewN nq=W0 at HDD HF2 HB2⊢
  clear nq
  have hi:=Zu 43 HF2.out(by omega)
  rw[HQQ.out,show(43:UInt8).toNat=43 from rfl]at hi
  cases a0:(Xe s.data.toList q 43)
  rotate_left
  ·have HEQ:Hid(Zy 5 s.data.toList q=some(15,1)):=by rw[Hid,Xta];rw[if_pos a0]
   rw[a0]at hi
   have HI:=Xa hi
   clear hi a0
   go_wp2_with fail
   refine HI.out.mono ?_
   rintro e w3⟨rfl,h3,b3⟩
   have h9:LfAt w3 rb base Z s(q+1)false fs:=h3
   have HF3:=Xa h9
   have HB3:=Xa(HB2.out.trans b3)
   clear h3 b3 h9
   go_wp2_with fail
   go_ret
   exact⟨HB3.out, .inr⟨15,1,HEQ.out,by decide,by decide,rfl,HF3.out⟩⟩
  rw[a0]at hi
  have HI0:=Xa hi
  have HA0:=Xa a0
  clear hi a0
  go_wp2_with fail
  refine HI0.out.mono ?_
  rintro e v0⟨rfl,h3,b3⟩
  have h9:LfAt v0 rb base Z s q false fs:=h3
  have HG0:=Xa h9
  have HC0:=Xa(HB2.out.trans b3)
  clear h3 b3 h9
  have hi:=Zu 45 HG0.out(by omega)
  rw[HQQ.out,show(45:UInt8).toNat=45 from rfl]at hi
  cases a1:(Xe s.data.toList q 45)
  rotate_left
  ·have HEQ:Hid(Zy 5 s.data.toList q=some(16,1)):=by have a0:=HA0.out;rw[Hid,Xta];rw[if_neg(by rw[a0];decide)];rw[if_pos a1]
   rw[a1]at hi
   have HI:=Xa hi
   clear hi a1
   go_wp2_with fail
   refine HI.out.mono ?_
   rintro e w3⟨rfl,h3,b3⟩
   have h9:LfAt w3 rb base Z s(q+1)false fs:=h3
   have HF3:=Xa h9
   have HB3:=Xa(HC0.out.trans b3)
   clear h3 b3 h9
   go_wp2_with fail
   go_ret
   exact⟨HB3.out, .inr⟨16,1,HEQ.out,by decide,by decide,rfl,HF3.out⟩⟩
  rw[a1]at hi
  have HI1:=Xa hi
  have HA1:=Xa a1
  clear hi a1
  go_wp2_with fail
  refine HI1.out.mono ?_
  rintro e v1⟨rfl,h3,b3⟩
  have h9:LfAt v1 rb base Z s q false fs:=h3
  have HG1:=Xa h9
  have HC1:=Xa(HC0.out.trans b3)
  clear h3 b3 h9
  have HEQ:Hid(Zy 5 s.data.toList q=none):=by rw[Hid,Xta];rw[if_neg(by rw[HA0.out];decide)];rw[if_neg(by rw[HA1.out];decide)]
  go_wp2_with fail
  go_ret
  exact⟨HC1.out, .inl⟨HEQ.out,rfl,HG1.out⟩⟩
theorem Xnl{rb base p q:Nat}{Z:Nat→Prop}{s:ByteArray}{fs:List FN}{w:World}{l:Int}(h1:1≤l)(h5:l≤5)(h:LfAt w rb base Z s p false fs)(hs:s.size≤4000)(hq:skF s.data.toList p=q):
  Calls Tryz.prog 81 #[.pointer(some⟨rb,0,none⟩), .int .i64 l]w(Xdw l rb base Z s q fs w):=by
 rcases(show l=1∨l=2∨l=3∨l=4∨l=5 by omega)with rfl|rfl|rfl|rfl|rfl
 ·exact Xtn h hs hq
 ·exact Xto h hs hq
 ·exact Xtp h hs hq
 ·exact Xtq h hs hq
 ·exact Xtr h hs hq

def LfN(r:RF)(n:Int)(rb base:Nat)(Z:Nat→Prop)(s:ByteArray)(p0:Nat)(w:World):Prop:=
 ∃(fs:List FN)(p:Nat),p0≤p∧((r=some(n,fs,skF s.data.toList p)∧LfAt w rb base Z s p false fs∧fs.length≤40)∨(r=none∧fs.length+p0≤42+p∧LfAt w rb base Z s p true fs))
theorem LfOr.n{r:RF}{rb base p0:Nat}{Z:Nat→Prop}{s:ByteArray}{w w':World}{e:Ending}(h:LfOr r rb base Z s p0 w e w'):∃n,e= .returned(.int .i64 n)∧LB rb base Z w w'∧LfN r n rb base Z s p0 w':=by
 obtain⟨hb,n,fs,p,he,hp,hc⟩:=h
 exact⟨n,he,hb,fs,p,hp,hc⟩
theorem LfN.or{r:RF}{n:Int}{rb base p0 p1:Nat}{Z:Nat→Prop}{s:ByteArray}{w w':World}(h:LfN r n rb base Z s p1 w')(hp1:p0≤p1)(hb:LB rb base Z w w'):LfOr r rb base Z s p0 w(.returned(.int .i64 n))w':=by
 obtain⟨fs,p,hp,hc|⟨a,b,c⟩⟩:=h
 ·exact⟨hb,n,fs,p,rfl,by omega, .inl hc⟩
 ·exact⟨hb,n,fs,p,rfl,by omega, .inr⟨a,by omega,c⟩⟩
theorem LfN.st{r:RF}{n:Int}{rb base p0:Nat}{Z:Nat→Prop}{s:ByteArray}{w:World}(h:LfN r n rb base Z s p0 w):LfSt(r.map(·.2))rb base Z s p0 w:=by
 obtain⟨fs,p,hp,⟨h1,h2,h3⟩|⟨h1,h2,h3⟩⟩:=h
 ·exact⟨fs,p,hp, .inl⟨by rw[h1];rfl,h2,h3⟩⟩
 ·exact⟨fs,p,hp, .inr⟨by rw[h1];rfl,h2,h3⟩⟩
theorem LfN.zb{r:RF}{n:Int}{rb base p0:Nat}{Z:Nat→Prop}{s:ByteArray}{w:World}(h:LfN r n rb base Z s p0 w):∀x,Z x→x<w.heap.size:=h.st.zb
theorem LfN.of{r r':RF}{n:Int}{rb base p0:Nat}{Z:Nat→Prop}{s:ByteArray}{w:World}(hr:r=r')(h:LfN r' n rb base Z s p0 w):LfN r n rb base Z s p0 w:=by rw[hr];exact h
theorem LfN.meas{r:RF}{n:Int}{rb base p0:Nat}{Z:Nat→Prop}{s:ByteArray}{w:World}(h:LfN r n rb base Z s p0 w):Ye w rb s.size≤s.size+1-p0:=by
 obtain⟨fs,p,hp,⟨h1,h2,h3⟩|⟨h1,h2,h3⟩⟩:=h
 ·rw[h2.meas,if_neg(by decide)];omega
 ·rw[h3.meas,if_pos rfl];omega
theorem Xbx{rb base p0 p1:Nat}{s:ByteArray}{r:CF}{Z:Nat→Prop}{w:World}(h:LfSt r rb base Z s p1 w)(hs:s.size≤1000)(hp:p0+1≤p1)(hZ:∀x,Z x→x<w.heap.size)(k:Int)(ks:List Int)(hn:ks.length≤1000):
  Calls Tryz.prog 80 #[.pointer(some⟨rb,0,none⟩), .agg #[.int .i64 k, .string ByteArray.empty, .int .i64 0, .slice none 0 0, .slice none 0 0, .slice(some⟨w.heap.size,0,none⟩)ks.length ks.length]](w.alloc(.cells(ks.map(Value.int .i64)).toArray 2))fun e w'=>∃n,e= .returned(.int .i64 n)∧LB rb base Z w w'∧LfN(r.bind fun x=>Xu WSp(Yw k ks)x.1 x.2)n rb base Z s p0 w'∧Ye w' rb s.size≤Ye w rb s.size:=by
 obtain⟨fs,p,hp1,⟨hr,ha,hl⟩|⟨hr,hl,ha⟩⟩:=h
 ·subst hr
  refine(Xad ha hZ(by omega)k ks hn).mono ?_
  rintro e w'⟨rfl,h',hb⟩
  have hm:=h'.meas(n:=s.size)
  have hm0:=ha.meas(n:=s.size)
  obtain⟨n,he,hlb,hnn⟩:=(LfOr.add h' hl(show p0≤p by omega)hb).n
  refine⟨n,he,hlb,hnn, ?_⟩
  rw[hm,hm0,if_neg(show¬false=true by decide)]
  split<;>omega
 ·subst hr
  have:=ha.le
  refine(Xad ha hZ(by omega)k ks hn).mono ?_
  rintro e w'⟨rfl,h',hb⟩
  have hm:=h'.meas(n:=s.size)
  obtain⟨n,he,hlb,hnn⟩:=(LfOr.addB(p0:=p0)(r:=none)rfl h'(by omega)(by omega)hb).n
  refine⟨n,he,hlb,hnn, ?_⟩
  rw[hm,Bool.true_or,if_pos rfl]
  omega
def Xdy(R:RD)(tg:RF)(l g:Nat)(n k:Int)(rb base:Nat)(Z:Nat→Prop)(s:ByteArray)(p0:Nat)(w:World):Prop:=
 (k = 0 ∧ LfN tg n rb base Z s p0 w) ∨ (k ≠ 0 ∧ ∃ fs p1, LfAt w rb base Z s p1 false fs ∧ fs.length ≤ 40 ∧ p0 + 1 ≤ p1 ∧ Qh k = (if l = 1 ∨ l = 3 then (l : Int) else (l : Int) + 1) ∧ Ye w rb s.size ≤ g ∧
  tg=Xy(Xy(R(Qh k)fs(skF s.data.toList p1))fun b fs q=>Xu WSp(Yw k [n,b])fs q)fun n fs q=>if l=6∨l=5∨l=2 then J2 R s.data.toList WSp l g n fs q else some(n,fs,q))
theorem Xub{l:Int}{L:List UInt8}{q:Nat}{k:Int}{len:Nat}(h:Zy l L q=some(k,len)):Xp k=l∧X0 L q=some(k,len):=by
 unfold Zy at h
 cases e:X0 L q with
 |none=>rw[e]at h;cases h
 | some x =>
  rw[e]at h
  simp only[Option.bind_some]at h
  split at h
  ·rename_i h1
   simp only[Option.some.injEq]at h
   rw[h]at h1
   exact⟨h1,by rw[h]⟩
  ·cases h
theorem Xxh{l:Nat}(h1:1≤l)(h5:l≤5){L:List UInt8}{q:Nat}{k:Int}{len:Nat}(h:Zy(l:Int)L q=some(k,len)):Qh k=(if l=1∨l=3 then(l:Int)else(l:Int)+1)∧k≠23:=by
 obtain⟨e1,e2⟩:=Xub h
 have:=Kk e2
 rcases(show l=1∨l=2∨l=3∨l=4∨l=5 by omega)with rfl|rfl|rfl|rfl|rfl<;>
  (rcases this with rfl|rfl|rfl|rfl|rfl|rfl|rfl|rfl|rfl|rfl<;>first|exact⟨by decide,by decide⟩|(revert e1;decide))
theorem Xav{R:RD}{tg cur:RF}{l g:Nat}{n:Int}{rb base p0:Nat}{Z:Nat→Prop}{s:ByteArray}{w:World}(h1:1≤l)(h5:l≤5)(hs:s.size≤4000)(h:LfN cur n rb base Z s p0 w)(htg:tg=Xy cur fun n fs q=>J2 R s.data.toList WSp l(g+1)n fs q)(hm:Ye w rb s.size≤g+1):
  Calls Tryz.prog 81 #[.pointer(some⟨rb,0,none⟩), .int .i64(l:Int)]w fun e w'=>∃k,e= .returned(.int .i64 k)∧LB rb base Z w w'∧Xdy R tg l g n k rb base Z s p0 w'∧(k≠0→Ye w' rb s.size+1≤Ye w rb s.size):=by
 obtain⟨fs,p,hp,⟨hr,ha,hl⟩|⟨hr,hl,ha⟩⟩:=h
 ·have hm0:=ha.meas(n:=s.size)
  rw[if_neg(by decide)]at hm0
  have hle:=ha.le
  have hsk:=Xw s.data.toList p
  have hid:=Yh s.data.toList p
  subst hr
  rw[X2,Xl5]at htg
  refine(Xnl(l:=(l:Int))(by omega)(by omega)ha hs rfl).mono ?_
  rintro e w'⟨hb,⟨hno,rfl,h'⟩|⟨k,len,hk,hk0,hlen,rfl,h'⟩⟩
  ·refine⟨0,rfl,hb, .inl⟨rfl,fs,skF s.data.toList p,by omega, .inl⟨?_,h',hl⟩⟩,fun e=>absurd rfl e⟩
   rw[htg,hno,hid]
  ·have hm1:=h'.meas(n:=s.size)
   rw[if_neg(by decide)]at hm1
   have hle1:=h'.le
   have hrg:=Xxh h1 h5 hk
   refine⟨k,rfl,hb, .inr⟨hk0,fs,_,h',hl,by omega,hrg.1,by omega, ?_⟩,fun _=>by omega⟩
   rw[htg,hk]
   simp only
   unfold Jr
   rw[if_neg hrg.2]
 ·subst hr
  have hle:=ha.le
  have hsk:=Xw s.data.toList p
  refine(Xnb ha hs l h1 h5).mono ?_
  rintro e w'⟨rfl,hb,h'⟩
  exact⟨0,rfl,hb, .inl⟨rfl,fs,skF s.data.toList p,by omega, .inr⟨by rw[htg];rfl,by omega,h'⟩⟩,fun e=>absurd rfl e⟩
theorem X1h{R:RD}{tg cur:RF}{g:Nat}{n:Int}{rb base p0:Nat}{Z:Nat→Prop}{s:ByteArray}{w:World}(hs:s.size≤4000)(h:LfN cur n rb base Z s p0 w)(htg:tg=Xy cur fun n fs q=>J2 R s.data.toList WSp 6(g+1)n fs q)(hm:Ye w rb s.size≤g+1):
  Calls Tryz.prog 79 #[.pointer(some⟨rb,0,none⟩), .string⟨#[63]⟩]w fun e w'=>LB rb base Z w w'∧((e= .returned(.bool false)∧LfN tg n rb base Z s p0 w')∨(e= .returned(.bool true)∧Ye w' rb s.size+1≤Ye w rb s.size∧∃fs p1,p0+1≤p1∧LfSt(some(fs,skF s.data.toList p1))rb base Z s p1 w'∧tg=Xy(Xu WSp(Yw 23 [n])fs(skF s.data.toList p1))fun n fs q=>J2 R s.data.toList WSp 6 g n fs q)):=by
 obtain⟨fs,p,hp,⟨hr,ha,hl⟩|⟨hr,hl,ha⟩⟩:=h
 ·have hm0:=ha.meas(n:=s.size)
  rw[if_neg(by decide)]at hm0
  have hle:=ha.le
  have hsk:=Xw s.data.toList p
  have hid:=Yh s.data.toList p
  subst hr
  rw[X2,Xl5,show((6:Nat):Int)=6 from rfl,X1e]at htg
  refine(Zu 63 ha hs).mono ?_
  rintro e w'⟨rfl,h',hb⟩
  rw[show(63:UInt8).toNat=63 from rfl]at h'⊢
  cases hi:Xe s.data.toList(skF s.data.toList p)63
  ·rw[hi]at h' htg
   have h2:LfAt w' rb base Z s(skF s.data.toList p)false fs:=h'
   refine⟨hb, .inl⟨rfl,fs,skF s.data.toList p,by omega, .inl⟨?_,h2,hl⟩⟩⟩
   rw[htg,hid];rfl
  ·rw[hi]at h' htg
   have h2:LfAt w' rb base Z s(skF s.data.toList p+1)false fs:=h'
   have hm1:=h2.meas(n:=s.size)
   rw[if_neg(by decide)]at hm1
   have hle1:=h2.le
   refine⟨hb, .inr⟨rfl,by omega,fs,_,by omega,LfSt.good h2 hl(Nat.le_refl _), ?_⟩⟩
   rw[htg,if_pos rfl]
   rfl
 ·subst hr
  have hle:=ha.le
  have hsk:=Xw s.data.toList p
  refine(Zu 63 ha hs).mono ?_
  rintro e w'⟨rfl,h',hb⟩
  have h2:LfAt w' rb base Z s(skF s.data.toList p)true fs:=h'
  exact⟨hb, .inl⟨rfl,fs,skF s.data.toList p,by omega, .inr⟨by rw[htg];rfl,by omega,h2⟩⟩⟩
section
variable{R:RD}{f rb base:Nat}{s:ByteArray}(HR:Xgj R f rb base s)
include HR
set_option maxRecDepth 100000 in
theorem Xq2{p:Nat}{Z:Nat→Prop}{fs:List FN}{w:World}(h:LfAt w rb base Z s p false fs)(hZ:∀x,Z x→x<w.heap.size)(hs:s.size≤1000)(hl:fs.length≤40)(hf:s.size≤p+f):
  Calls Tryz.prog 43 #[.pointer(some⟨rb,0,none⟩), .int .i64 6]w(LfOr(lvS R s.data.toList WSp 0 fs(skF s.data.toList p))rb base Z s p w):=by
 have HLN:=Xa(Xm s)
 obtain⟨c0,c1,c2⟩:=h.cells
 have HPR:=Xa(Xh0 HR h hZ hs hl hf)
 obtain⟨tg,htg⟩:∃tg,lvS R s.data.toList WSp 0 fs(skF s.data.toList p)=tg:=⟨_,rfl⟩
 have HTG:Hid(tg=Xy(Xs WSp R s.data.toList fs(skF s.data.toList p))fun n fs q=>J2 R s.data.toList WSp 6(s.size+1)n fs q):=by rw[Hid,←htg,←HLN.out];rfl
 obtain⟨cu,hcu⟩:∃cu,Xs WSp R s.data.toList fs(skF s.data.toList p)=cu:=⟨_,rfl⟩
 rw[hcu]at HPR HTG
 rw[htg]
 clear h hZ HR htg hcu
 go_enter Tryz.func43,Tryz.ntmps43
 go_wp2_with fail
 refine HPR.out.mono ?_
 intro e w1 h
 obtain⟨n1,rfl,b1,hn1⟩:=h.n
 have HN1:=Xa hn1
 have HB1:=Xa b1
 have hm1:Ye w1 rb s.size≤s.size+1:=by have:=hn1.meas;omega
 have HM1:=Xa hm1
 clear h b1 hn1 c0 c1 c2 HPR hm1
 go_wp2_with fail
 go_loopw [5](fun av wr=>∃(g:Nat)(cur:RF)(n:Int),av= .int .i64 n∧LfN cur n rb base Z s p wr∧LB rb base Z w wr∧Hid(tg=Xy cur fun n fs q=>J2 R s.data.toList WSp 6(g+1)n fs q)∧Hid(Ye wr rb s.size≤g+1))(fun _ wr=>Ye wr rb s.size)
 case atStart=>exact⟨s.size,cu,n1,rfl,HN1.out,HB1.out,HTG.out,HM1.out⟩
 case round=>
  obtain⟨g,cur,n,rfl,hn,hbt,HT,HM⟩:=hrel
  have HBT:=Xb hbt
  have HIN:=Xb(X1h(by omega)hn HT.out HM.out)
  clear hn hbt HN1 HB1 HTG HM1
  go_wp2_with fail
  refine HIN.out.mono ?_
  rintro e w2⟨b2,⟨rfl,hn2⟩|⟨rfl,hm2,fs2,p2,hp2,st2,ht2⟩⟩
  ·have HN2:=Xb hn2
   have HB2:=Xb(HBT.out.trans b2)
   clear b2 hn2
   go_wp2_with fail
   go_ret
   exact HN2.out.or(Nat.le_refl _)HB2.out
  ·have HB2:=Xb(HBT.out.trans b2)
   have HM2:=Xb hm2
   have HT2:=Xb ht2
   have HMG:Hid(Ye w2 rb s.size≤g):=by rw[Hid];have:=HM.out;omega
   have hpos:0<Ye w2 rb s.size:=by
    obtain⟨b,f3,p3,h3,_,_,h4,_⟩:=st2.at
    have hb:b=false:=by
     cases b
     ·rfl
     ·exact absurd(h4 rfl)(by simp)
    subst hb
    rw[h3.meas,if_neg(by decide)]
    have:=h3.le
    omega
   have HPOS:=Xb hpos
   have HA:=Xb(Xbx(p0:=p)st2 hs(by omega)st2.zb 23 [n](by simp))
   clear b2 hm2 st2 ht2 hpos
   go_wp2_with fail
   refine HA.out.mono ?_
   rintro e w3⟨n3,rfl,b3,hn3,hm3⟩
   have HN3:=Xb hn3
   have HB3:=Xb(HB2.out.trans b3)
   have HM3:=Xb hm3
   clear b3 hn3 hm3
   go_wp2_with fail
   go_roundw
   case rel=>
    obtain⟨g,rfl⟩:∃g',g=g'+1:=⟨g-1,by have:=HPOS.out;have:=HMG.out;omega⟩
    exact⟨g,_,n3,rfl,HN3.out,HB3.out,HT2.out,by rw[Hid];have:=HM3.out;have:=HMG.out;omega⟩
   case measure=>have:=HM3.out;have:=HM2.out;omega
set_option maxRecDepth 100000 in
theorem Xq3(HN:∀(Z:Nat→Prop)(fs:List FN)(p:Nat)(w:World),(∀x,Z x→x<w.heap.size)→LfAt w rb base Z s p false fs→fs.length≤40→s.size≤p+f→Calls Tryz.prog 43 #[.pointer(some⟨rb,0,none⟩), .int .i64 6]w(LfOr(lvS R s.data.toList WSp 0 fs(skF s.data.toList p))rb base Z s p w))
  {p:Nat}{Z:Nat→Prop}{fs:List FN}{w:World}(h:LfAt w rb base Z s p false fs)(hZ:∀x,Z x→x<w.heap.size)(hs:s.size≤1000)(hl:fs.length≤40)(hf:s.size≤p+f):
  Calls Tryz.prog 43 #[.pointer(some⟨rb,0,none⟩), .int .i64 5]w(LfOr(lvS R s.data.toList WSp 1 fs(skF s.data.toList p))rb base Z s p w):=by
 have HLN:=Xa(Xm s)
 obtain⟨c0,c1,c2⟩:=h.cells
 have HPR:=Xa(HN Z fs p w hZ h hl hf)
 have HHR:=Xa HR
 obtain⟨tg,htg⟩:∃tg,lvS R s.data.toList WSp 1 fs(skF s.data.toList p)=tg:=⟨_,rfl⟩
 have HTG:Hid(tg=Xy(lvS R s.data.toList WSp 0 fs(skF s.data.toList p))fun n fs q=>J2 R s.data.toList WSp 5(s.size+1)n fs q):=by rw[Hid,←htg,←HLN.out];rfl
 obtain⟨cu,hcu⟩:∃cu,lvS R s.data.toList WSp 0 fs(skF s.data.toList p)=cu:=⟨_,rfl⟩
 rw[hcu]at HPR HTG
 rw[htg]
 clear h hZ HR htg hcu HN
 go_enter Tryz.func43,Tryz.ntmps43
 go_wp2_with fail
 refine HPR.out.mono ?_
 intro e w1 h
 obtain⟨n1,rfl,b1,hn1⟩:=h.n
 have HB1:=Xa b1
 have hm1:Ye w1 rb s.size≤s.size+1:=by have:=hn1.meas;omega
 have HSG:=Xa(Xav(l:=5)(by decide)(by decide)(by omega)hn1 HTG.out hm1)
 clear h b1 hn1 c0 c1 c2 HPR hm1
 go_wp2_with fail
 refine HSG.out.mono ?_
 rintro e w2⟨k2,rfl,b2,hh2,_⟩
 have HH2:=Xa hh2
 have HB2:=Xa(HB1.out.trans b2)
 clear b2 hh2 HSG HTG
 go_wp2_with fail
 go_loopw [5,6,7,8](fun av kv _ _ wr=>∃(g:Nat)(n k:Int),av= .int .i64 n∧kv= .int .i64 k∧Xdy R tg 5 g n k rb base Z s p wr∧LB rb base Z w wr)(fun _ kv _ _ wr=>if intOf kv=0 then 0 else 1+Ye wr rb s.size)
 case atStart=>exact⟨s.size,n1,k2,rfl,rfl,HH2.out,HB2.out⟩
 case round=>
  obtain⟨g,n,k,rfl,rfl,hh,hbt⟩:=hrel
  have HBT:=Xb hbt
  clear HH2 HB2 HB1
  rcases hh with⟨rfl,hn⟩|⟨hk,fs2,p2,ha2,hl2,hp2,hrg,hmg,ht2⟩
  ·have HN2:=Xb hn
   clear hn hbt
   go_wp2_with fail
   go_ret
   exact HN2.out.or(Nat.le_refl _)HBT.out
  ·obtain⟨c0,c1,c2⟩:=ha2.cells
   have HRG:Hid(Qh k=6):=hrg
   have HT2:=Xb ht2
   rw[HRG.out]at HT2
   have hk':((k:Int)==0)=false:=by simpa using hk
   have hk'':((k:Int) !=0)=true:=by simpa using hk
   have hpos:0<Ye wr rb s.size:=by
    rw[ha2.meas,if_neg(by decide)]
    have:=ha2.le
    omega
   have hmw:Ye wr rb s.size=s.size+1-p2:=by rw[ha2.meas,if_neg(by decide)]
   have HMW:=Xb hmw
   have HPOS:=Xb hpos
   have HMG:=Xb hmg
   have HLV:=Xb(HHR.out 6 Z fs2 p2 wr(by decide)(by decide)ha2.zb ha2 hl2(by omega))
   have HK0:Hid(k≠0):=hk
   clear hbt ha2 hrg hmg ht2 hpos hmw
   go_wp2_with fail
   refine HLV.out.mono ?_
   intro e w3 h3
   obtain⟨n3,rfl,b3,hn3⟩:=h3.n
   have HB3:=Xb(HBT.out.trans b3)
   have HM3:=Xb hn3.meas
   obtain⟨r3,hr3⟩:∃r3,R 6 fs2(skF s.data.toList p2)=r3:=⟨_,rfl⟩
   rw[hr3]at HT2 hn3
   have HVAL:Hid(∀y,r3=some y→y.1=n3):=by
    obtain⟨_,_,_,⟨h1,_⟩|⟨h1,_⟩⟩:=hn3
    ·intro y hy;rw[h1]at hy;cases hy;rfl
    ·intro y hy;rw[h1]at hy;cases hy
   have HA:=Xb(Xbx(p0:=p)hn3.st hs(by omega)hn3.zb k [n,n3](by simp))
   have HEQ:Hid(Xy r3(fun b fs q=>Xu WSp(Yw k [n,b])fs q)=(r3.map(·.2)).bind fun x=>Xu WSp(Yw k [n,n3])x.1 x.2):=by
    rw[Hid]
    cases e:r3 with
    |none=>rfl
    |some y=>obtain⟨b,f4,q4⟩:=y;obtain rfl:b=n3:=HVAL.out _ e;rfl
   rw[HEQ.out]at HT2
   clear h3 b3 hn3 hr3 c0 c1 c2
   go_wp2_with fail
   refine HA.out.mono ?_
   rintro e w4⟨n4,rfl,b4,hn4,hm4⟩
   have HB4:=Xb(HB3.out.trans b4)
   have HM4:Hid(Ye w4 rb s.size≤Ye wr rb s.size):=by rw[Hid];have:=HM3.out;have:=HMW.out;omega
   obtain⟨g,rfl⟩:∃g',g=g'+1:=⟨g-1,by have:=HPOS.out;have:=HMG.out;omega⟩
   have HSG2:=Xb(Xav(l:=5)(g:=g)(tg:=tg)(R:=R)(by decide)(by decide)(by omega)hn4(by rw[HT2.out];rfl)(by have:=HM4.out;have:=HMG.out;omega))
   clear b4 hn4 hm4
   go_wp2_with fail
   refine HSG2.out.mono ?_
   rintro e w5⟨k5,rfl,b5,hh5,hm5⟩
   have HH5:=Xb hh5
   have HB5:=Xb(HB4.out.trans b5)
   have HM5:=Xb hm5
   clear b5 hh5 hm5
   go_wp2_with fail
   go_roundw
   case rel=>exact⟨g,n4,k5,rfl,rfl,HH5.out,HB5.out⟩
   case measure=>
    have h1:=HM4.out
    have h2:=HPOS.out
    have h0:=HK0.out
    have e1:intOf(Value.int .i64 k)=k:=rfl
    have e2:intOf(Value.int .i64 k5)=k5:=rfl
    rw[e1,e2,if_neg h0]
    by_cases h5:k5=0
    ·rw[if_pos h5];omega
    ·rw[if_neg h5];have:=HM5.out h5;omega
set_option maxRecDepth 100000 in
theorem Xq4(HN:∀(Z:Nat→Prop)(fs:List FN)(p:Nat)(w:World),(∀x,Z x→x<w.heap.size)→LfAt w rb base Z s p false fs→fs.length≤40→s.size≤p+f→Calls Tryz.prog 43 #[.pointer(some⟨rb,0,none⟩), .int .i64 5]w(LfOr(lvS R s.data.toList WSp 1 fs(skF s.data.toList p))rb base Z s p w))
  {p:Nat}{Z:Nat→Prop}{fs:List FN}{w:World}(h:LfAt w rb base Z s p false fs)(hZ:∀x,Z x→x<w.heap.size)(hs:s.size≤1000)(hl:fs.length≤40)(hf:s.size≤p+f):
  Calls Tryz.prog 43 #[.pointer(some⟨rb,0,none⟩), .int .i64 4]w(LfOr(lvS R s.data.toList WSp 2 fs(skF s.data.toList p))rb base Z s p w):=by
 have HLN:=Xa(Xm s)
 obtain⟨c0,c1,c2⟩:=h.cells
 have HPR:=Xa(HN Z fs p w hZ h hl hf)
 have HHR:=Xa HR
 obtain⟨tg,htg⟩:∃tg,lvS R s.data.toList WSp 2 fs(skF s.data.toList p)=tg:=⟨_,rfl⟩
 have HTG:Hid(tg=Xy(lvS R s.data.toList WSp 1 fs(skF s.data.toList p))fun n fs q=>J2 R s.data.toList WSp 4(s.size+1)n fs q):=by rw[Hid,←htg,←HLN.out];rfl
 obtain⟨cu,hcu⟩:∃cu,lvS R s.data.toList WSp 1 fs(skF s.data.toList p)=cu:=⟨_,rfl⟩
 rw[hcu]at HPR HTG
 rw[htg]
 clear h hZ HR htg hcu HN
 go_enter Tryz.func43,Tryz.ntmps43
 go_wp2_with fail
 refine HPR.out.mono ?_
 intro e w1 h
 obtain⟨n1,rfl,b1,hn1⟩:=h.n
 have HB1:=Xa b1
 have hm1:Ye w1 rb s.size≤s.size+1:=by have:=hn1.meas;omega
 have HSG:=Xa(Xav(l:=4)(by decide)(by decide)(by omega)hn1 HTG.out hm1)
 clear h b1 hn1 c0 c1 c2 HPR hm1
 go_wp2_with fail
 refine HSG.out.mono ?_
 rintro e w2⟨k2,rfl,b2,hh2,_⟩
 have HH2:=Xa hh2
 have HB2:=Xa(HB1.out.trans b2)
 clear b2 hh2 HSG HTG
 go_wp2_with fail
 go_loopw [5,6,7,8](fun av kv _ _ wr=>∃(g:Nat)(n k:Int),av= .int .i64 n∧kv= .int .i64 k∧Xdy R tg 4 g n k rb base Z s p wr∧LB rb base Z w wr)(fun _ kv _ _ wr=>if intOf kv=0 then 0 else 1+Ye wr rb s.size)
 case atStart=>exact⟨s.size,n1,k2,rfl,rfl,HH2.out,HB2.out⟩
 case round=>
  obtain⟨g,n,k,rfl,rfl,hh,hbt⟩:=hrel
  have HBT:=Xb hbt
  clear HH2 HB2 HB1
  rcases hh with⟨rfl,hn⟩|⟨hk,fs2,p2,ha2,hl2,hp2,hrg,hmg,ht2⟩
  ·have HN2:=Xb hn
   clear hn hbt
   go_wp2_with fail
   go_ret
   exact HN2.out.or(Nat.le_refl _)HBT.out
  ·obtain⟨c0,c1,c2⟩:=ha2.cells
   have HRG:Hid(Qh k=5):=hrg
   have HT2:=Xb ht2
   rw[HRG.out]at HT2
   have hk':((k:Int)==0)=false:=by simpa using hk
   have hk'':((k:Int) !=0)=true:=by simpa using hk
   have hpos:0<Ye wr rb s.size:=by
    rw[ha2.meas,if_neg(by decide)]
    have:=ha2.le
    omega
   have hmw:Ye wr rb s.size=s.size+1-p2:=by rw[ha2.meas,if_neg(by decide)]
   have HMW:=Xb hmw
   have HPOS:=Xb hpos
   have HMG:=Xb hmg
   have HLV:=Xb(HHR.out 5 Z fs2 p2 wr(by decide)(by decide)ha2.zb ha2 hl2(by omega))
   have HK0:Hid(k≠0):=hk
   clear hbt ha2 hrg hmg ht2 hpos hmw
   go_wp2_with fail
   refine HLV.out.mono ?_
   intro e w3 h3
   obtain⟨n3,rfl,b3,hn3⟩:=h3.n
   have HB3:=Xb(HBT.out.trans b3)
   have HM3:=Xb hn3.meas
   obtain⟨r3,hr3⟩:∃r3,R 5 fs2(skF s.data.toList p2)=r3:=⟨_,rfl⟩
   rw[hr3]at HT2 hn3
   have HVAL:Hid(∀y,r3=some y→y.1=n3):=by
    obtain⟨_,_,_,⟨h1,_⟩|⟨h1,_⟩⟩:=hn3
    ·intro y hy;rw[h1]at hy;cases hy;rfl
    ·intro y hy;rw[h1]at hy;cases hy
   have HA:=Xb(Xbx(p0:=p)hn3.st hs(by omega)hn3.zb k [n,n3](by simp))
   have HEQ:Hid(Xy r3(fun b fs q=>Xu WSp(Yw k [n,b])fs q)=(r3.map(·.2)).bind fun x=>Xu WSp(Yw k [n,n3])x.1 x.2):=by
    rw[Hid]
    cases e:r3 with
    |none=>rfl
    |some y=>obtain⟨b,f4,q4⟩:=y;obtain rfl:b=n3:=HVAL.out _ e;rfl
   rw[HEQ.out]at HT2
   clear h3 b3 hn3 hr3 c0 c1 c2
   go_wp2_with fail
   refine HA.out.mono ?_
   rintro e w4⟨n4,rfl,b4,hn4,hm4⟩
   have HB4:=Xb(HB3.out.trans b4)
   have HN4:=Xb(LfN.of(r:=tg)(by
    rw[HT2.out]
    show Xy _(fun n fs q=>some(n,fs,q))=_
    generalize((r3.map(·.2)).bind fun x=>Xu WSp(Yw k [n,n3])x.1 x.2)=c
    cases c<;>rfl)hn4)
   clear b4 hn4 hm4
   go_wp2_with fail
   go_ret
   exact HN4.out.or(Nat.le_refl _)HB4.out
set_option maxRecDepth 100000 in
theorem Xq5(HN:∀(Z:Nat→Prop)(fs:List FN)(p:Nat)(w:World),(∀x,Z x→x<w.heap.size)→LfAt w rb base Z s p false fs→fs.length≤40→s.size≤p+f→Calls Tryz.prog 43 #[.pointer(some⟨rb,0,none⟩), .int .i64 4]w(LfOr(lvS R s.data.toList WSp 2 fs(skF s.data.toList p))rb base Z s p w))
  {p:Nat}{Z:Nat→Prop}{fs:List FN}{w:World}(h:LfAt w rb base Z s p false fs)(hZ:∀x,Z x→x<w.heap.size)(hs:s.size≤1000)(hl:fs.length≤40)(hf:s.size≤p+f):
  Calls Tryz.prog 43 #[.pointer(some⟨rb,0,none⟩), .int .i64 3]w(LfOr(lvS R s.data.toList WSp 3 fs(skF s.data.toList p))rb base Z s p w):=by
 have HLN:=Xa(Xm s)
 obtain⟨c0,c1,c2⟩:=h.cells
 have HPR:=Xa(HN Z fs p w hZ h hl hf)
 have HHR:=Xa HR
 obtain⟨tg,htg⟩:∃tg,lvS R s.data.toList WSp 3 fs(skF s.data.toList p)=tg:=⟨_,rfl⟩
 have HTG:Hid(tg=Xy(lvS R s.data.toList WSp 2 fs(skF s.data.toList p))fun n fs q=>J2 R s.data.toList WSp 3(s.size+1)n fs q):=by rw[Hid,←htg,←HLN.out];rfl
 obtain⟨cu,hcu⟩:∃cu,lvS R s.data.toList WSp 2 fs(skF s.data.toList p)=cu:=⟨_,rfl⟩
 rw[hcu]at HPR HTG
 rw[htg]
 clear h hZ HR htg hcu HN
 go_enter Tryz.func43,Tryz.ntmps43
 go_wp2_with fail
 refine HPR.out.mono ?_
 intro e w1 h
 obtain⟨n1,rfl,b1,hn1⟩:=h.n
 have HB1:=Xa b1
 have hm1:Ye w1 rb s.size≤s.size+1:=by have:=hn1.meas;omega
 have HSG:=Xa(Xav(l:=3)(by decide)(by decide)(by omega)hn1 HTG.out hm1)
 clear h b1 hn1 c0 c1 c2 HPR hm1
 go_wp2_with fail
 refine HSG.out.mono ?_
 rintro e w2⟨k2,rfl,b2,hh2,_⟩
 have HH2:=Xa hh2
 have HB2:=Xa(HB1.out.trans b2)
 clear b2 hh2 HSG HTG
 go_wp2_with fail
 go_loopw [5,6,7,8](fun av kv _ _ wr=>∃(g:Nat)(n k:Int),av= .int .i64 n∧kv= .int .i64 k∧Xdy R tg 3 g n k rb base Z s p wr∧LB rb base Z w wr)(fun _ kv _ _ wr=>if intOf kv=0 then 0 else 1+Ye wr rb s.size)
 case atStart=>exact⟨s.size,n1,k2,rfl,rfl,HH2.out,HB2.out⟩
 case round=>
  obtain⟨g,n,k,rfl,rfl,hh,hbt⟩:=hrel
  have HBT:=Xb hbt
  clear HH2 HB2 HB1
  rcases hh with⟨rfl,hn⟩|⟨hk,fs2,p2,ha2,hl2,hp2,hrg,hmg,ht2⟩
  ·have HN2:=Xb hn
   clear hn hbt
   go_wp2_with fail
   go_ret
   exact HN2.out.or(Nat.le_refl _)HBT.out
  ·obtain⟨c0,c1,c2⟩:=ha2.cells
   have HRG:Hid(Qh k=3):=hrg
   have HT2:=Xb ht2
   rw[HRG.out]at HT2
   have hk':((k:Int)==0)=false:=by simpa using hk
   have hk'':((k:Int) !=0)=true:=by simpa using hk
   have hpos:0<Ye wr rb s.size:=by
    rw[ha2.meas,if_neg(by decide)]
    have:=ha2.le
    omega
   have hmw:Ye wr rb s.size=s.size+1-p2:=by rw[ha2.meas,if_neg(by decide)]
   have HMW:=Xb hmw
   have HPOS:=Xb hpos
   have HMG:=Xb hmg
   have HLV:=Xb(HHR.out 3 Z fs2 p2 wr(by decide)(by decide)ha2.zb ha2 hl2(by omega))
   have HK0:Hid(k≠0):=hk
   clear hbt ha2 hrg hmg ht2 hpos hmw
   go_wp2_with fail
   refine HLV.out.mono ?_
   intro e w3 h3
   obtain⟨n3,rfl,b3,hn3⟩:=h3.n
   have HB3:=Xb(HBT.out.trans b3)
   have HM3:=Xb hn3.meas
   obtain⟨r3,hr3⟩:∃r3,R 3 fs2(skF s.data.toList p2)=r3:=⟨_,rfl⟩
   rw[hr3]at HT2 hn3
   have HVAL:Hid(∀y,r3=some y→y.1=n3):=by
    obtain⟨_,_,_,⟨h1,_⟩|⟨h1,_⟩⟩:=hn3
    ·intro y hy;rw[h1]at hy;cases hy;rfl
    ·intro y hy;rw[h1]at hy;cases hy
   have HA:=Xb(Xbx(p0:=p)hn3.st hs(by omega)hn3.zb k [n,n3](by simp))
   have HEQ:Hid(Xy r3(fun b fs q=>Xu WSp(Yw k [n,b])fs q)=(r3.map(·.2)).bind fun x=>Xu WSp(Yw k [n,n3])x.1 x.2):=by
    rw[Hid]
    cases e:r3 with
    |none=>rfl
    |some y=>obtain⟨b,f4,q4⟩:=y;obtain rfl:b=n3:=HVAL.out _ e;rfl
   rw[HEQ.out]at HT2
   clear h3 b3 hn3 hr3 c0 c1 c2
   go_wp2_with fail
   refine HA.out.mono ?_
   rintro e w4⟨n4,rfl,b4,hn4,hm4⟩
   have HB4:=Xb(HB3.out.trans b4)
   have HN4:=Xb(LfN.of(r:=tg)(by
    rw[HT2.out]
    show Xy _(fun n fs q=>some(n,fs,q))=_
    generalize((r3.map(·.2)).bind fun x=>Xu WSp(Yw k [n,n3])x.1 x.2)=c
    cases c<;>rfl)hn4)
   clear b4 hn4 hm4
   go_wp2_with fail
   go_ret
   exact HN4.out.or(Nat.le_refl _)HB4.out
set_option maxRecDepth 100000 in
theorem Xq6(HN:∀(Z:Nat→Prop)(fs:List FN)(p:Nat)(w:World),(∀x,Z x→x<w.heap.size)→LfAt w rb base Z s p false fs→fs.length≤40→s.size≤p+f→Calls Tryz.prog 43 #[.pointer(some⟨rb,0,none⟩), .int .i64 3]w(LfOr(lvS R s.data.toList WSp 3 fs(skF s.data.toList p))rb base Z s p w))
  {p:Nat}{Z:Nat→Prop}{fs:List FN}{w:World}(h:LfAt w rb base Z s p false fs)(hZ:∀x,Z x→x<w.heap.size)(hs:s.size≤1000)(hl:fs.length≤40)(hf:s.size≤p+f):
  Calls Tryz.prog 43 #[.pointer(some⟨rb,0,none⟩), .int .i64 2]w(LfOr(lvS R s.data.toList WSp 4 fs(skF s.data.toList p))rb base Z s p w):=by
 have HLN:=Xa(Xm s)
 obtain⟨c0,c1,c2⟩:=h.cells
 have HPR:=Xa(HN Z fs p w hZ h hl hf)
 have HHR:=Xa HR
 obtain⟨tg,htg⟩:∃tg,lvS R s.data.toList WSp 4 fs(skF s.data.toList p)=tg:=⟨_,rfl⟩
 have HTG:Hid(tg=Xy(lvS R s.data.toList WSp 3 fs(skF s.data.toList p))fun n fs q=>J2 R s.data.toList WSp 2(s.size+1)n fs q):=by rw[Hid,←htg,←HLN.out];rfl
 obtain⟨cu,hcu⟩:∃cu,lvS R s.data.toList WSp 3 fs(skF s.data.toList p)=cu:=⟨_,rfl⟩
 rw[hcu]at HPR HTG
 rw[htg]
 clear h hZ HR htg hcu HN
 go_enter Tryz.func43,Tryz.ntmps43
 go_wp2_with fail
 refine HPR.out.mono ?_
 intro e w1 h
 obtain⟨n1,rfl,b1,hn1⟩:=h.n
 have HB1:=Xa b1
 have hm1:Ye w1 rb s.size≤s.size+1:=by have:=hn1.meas;omega
 have HSG:=Xa(Xav(l:=2)(by decide)(by decide)(by omega)hn1 HTG.out hm1)
 clear h b1 hn1 c0 c1 c2 HPR hm1
 go_wp2_with fail
 refine HSG.out.mono ?_
 rintro e w2⟨k2,rfl,b2,hh2,_⟩
 have HH2:=Xa hh2
 have HB2:=Xa(HB1.out.trans b2)
 clear b2 hh2 HSG HTG
 go_wp2_with fail
 go_loopw [5,6,7,8](fun av kv _ _ wr=>∃(g:Nat)(n k:Int),av= .int .i64 n∧kv= .int .i64 k∧Xdy R tg 2 g n k rb base Z s p wr∧LB rb base Z w wr)(fun _ kv _ _ wr=>if intOf kv=0 then 0 else 1+Ye wr rb s.size)
 case atStart=>exact⟨s.size,n1,k2,rfl,rfl,HH2.out,HB2.out⟩
 case round=>
  obtain⟨g,n,k,rfl,rfl,hh,hbt⟩:=hrel
  have HBT:=Xb hbt
  clear HH2 HB2 HB1
  rcases hh with⟨rfl,hn⟩|⟨hk,fs2,p2,ha2,hl2,hp2,hrg,hmg,ht2⟩
  ·have HN2:=Xb hn
   clear hn hbt
   go_wp2_with fail
   go_ret
   exact HN2.out.or(Nat.le_refl _)HBT.out
  ·obtain⟨c0,c1,c2⟩:=ha2.cells
   have HRG:Hid(Qh k=3):=hrg
   have HT2:=Xb ht2
   rw[HRG.out]at HT2
   have hk':((k:Int)==0)=false:=by simpa using hk
   have hk'':((k:Int) !=0)=true:=by simpa using hk
   have hpos:0<Ye wr rb s.size:=by
    rw[ha2.meas,if_neg(by decide)]
    have:=ha2.le
    omega
   have hmw:Ye wr rb s.size=s.size+1-p2:=by rw[ha2.meas,if_neg(by decide)]
   have HMW:=Xb hmw
   have HPOS:=Xb hpos
   have HMG:=Xb hmg
   have HLV:=Xb(HHR.out 3 Z fs2 p2 wr(by decide)(by decide)ha2.zb ha2 hl2(by omega))
   have HK0:Hid(k≠0):=hk
   clear hbt ha2 hrg hmg ht2 hpos hmw
   go_wp2_with fail
   refine HLV.out.mono ?_
   intro e w3 h3
   obtain⟨n3,rfl,b3,hn3⟩:=h3.n
   have HB3:=Xb(HBT.out.trans b3)
   have HM3:=Xb hn3.meas
   obtain⟨r3,hr3⟩:∃r3,R 3 fs2(skF s.data.toList p2)=r3:=⟨_,rfl⟩
   rw[hr3]at HT2 hn3
   have HVAL:Hid(∀y,r3=some y→y.1=n3):=by
    obtain⟨_,_,_,⟨h1,_⟩|⟨h1,_⟩⟩:=hn3
    ·intro y hy;rw[h1]at hy;cases hy;rfl
    ·intro y hy;rw[h1]at hy;cases hy
   have HA:=Xb(Xbx(p0:=p)hn3.st hs(by omega)hn3.zb k [n,n3](by simp))
   have HEQ:Hid(Xy r3(fun b fs q=>Xu WSp(Yw k [n,b])fs q)=(r3.map(·.2)).bind fun x=>Xu WSp(Yw k [n,n3])x.1 x.2):=by
    rw[Hid]
    cases e:r3 with
    |none=>rfl
    |some y=>obtain⟨b,f4,q4⟩:=y;obtain rfl:b=n3:=HVAL.out _ e;rfl
   rw[HEQ.out]at HT2
   clear h3 b3 hn3 hr3 c0 c1 c2
   go_wp2_with fail
   refine HA.out.mono ?_
   rintro e w4⟨n4,rfl,b4,hn4,hm4⟩
   have HB4:=Xb(HB3.out.trans b4)
   have HM4:Hid(Ye w4 rb s.size≤Ye wr rb s.size):=by rw[Hid];have:=HM3.out;have:=HMW.out;omega
   obtain⟨g,rfl⟩:∃g',g=g'+1:=⟨g-1,by have:=HPOS.out;have:=HMG.out;omega⟩
   have HSG2:=Xb(Xav(l:=2)(g:=g)(tg:=tg)(R:=R)(by decide)(by decide)(by omega)hn4(by rw[HT2.out];rfl)(by have:=HM4.out;have:=HMG.out;omega))
   clear b4 hn4 hm4
   go_wp2_with fail
   refine HSG2.out.mono ?_
   rintro e w5⟨k5,rfl,b5,hh5,hm5⟩
   have HH5:=Xb hh5
   have HB5:=Xb(HB4.out.trans b5)
   have HM5:=Xb hm5
   clear b5 hh5 hm5
   go_wp2_with fail
   go_roundw
   case rel=>exact⟨g,n4,k5,rfl,rfl,HH5.out,HB5.out⟩
   case measure=>
    have h1:=HM4.out
    have h2:=HPOS.out
    have h0:=HK0.out
    have e1:intOf(Value.int .i64 k)=k:=rfl
    have e2:intOf(Value.int .i64 k5)=k5:=rfl
    rw[e1,e2,if_neg h0]
    by_cases h5:k5=0
    ·rw[if_pos h5];omega
    ·rw[if_neg h5];have:=HM5.out h5;omega
set_option maxRecDepth 100000 in
theorem Xq7(HN:∀(Z:Nat→Prop)(fs:List FN)(p:Nat)(w:World),(∀x,Z x→x<w.heap.size)→LfAt w rb base Z s p false fs→fs.length≤40→s.size≤p+f→Calls Tryz.prog 43 #[.pointer(some⟨rb,0,none⟩), .int .i64 2]w(LfOr(lvS R s.data.toList WSp 4 fs(skF s.data.toList p))rb base Z s p w))
  {p:Nat}{Z:Nat→Prop}{fs:List FN}{w:World}(h:LfAt w rb base Z s p false fs)(hZ:∀x,Z x→x<w.heap.size)(hs:s.size≤1000)(hl:fs.length≤40)(hf:s.size≤p+f):
  Calls Tryz.prog 43 #[.pointer(some⟨rb,0,none⟩), .int .i64 1]w(LfOr(lvS R s.data.toList WSp 5 fs(skF s.data.toList p))rb base Z s p w):=by
 have HLN:=Xa(Xm s)
 obtain⟨c0,c1,c2⟩:=h.cells
 have HPR:=Xa(HN Z fs p w hZ h hl hf)
 have HHR:=Xa HR
 obtain⟨tg,htg⟩:∃tg,lvS R s.data.toList WSp 5 fs(skF s.data.toList p)=tg:=⟨_,rfl⟩
 have HTG:Hid(tg=Xy(lvS R s.data.toList WSp 4 fs(skF s.data.toList p))fun n fs q=>J2 R s.data.toList WSp 1(s.size+1)n fs q):=by rw[Hid,←htg,←HLN.out];rfl
 obtain⟨cu,hcu⟩:∃cu,lvS R s.data.toList WSp 4 fs(skF s.data.toList p)=cu:=⟨_,rfl⟩
 rw[hcu]at HPR HTG
 rw[htg]
 clear h hZ HR htg hcu HN
 go_enter Tryz.func43,Tryz.ntmps43
 go_wp2_with fail
 refine HPR.out.mono ?_
 intro e w1 h
 obtain⟨n1,rfl,b1,hn1⟩:=h.n
 have HB1:=Xa b1
 have hm1:Ye w1 rb s.size≤s.size+1:=by have:=hn1.meas;omega
 have HSG:=Xa(Xav(l:=1)(by decide)(by decide)(by omega)hn1 HTG.out hm1)
 clear h b1 hn1 c0 c1 c2 HPR hm1
 go_wp2_with fail
 refine HSG.out.mono ?_
 rintro e w2⟨k2,rfl,b2,hh2,_⟩
 have HH2:=Xa hh2
 have HB2:=Xa(HB1.out.trans b2)
 clear b2 hh2 HSG HTG
 go_wp2_with fail
 go_loopw [5,6,7,8](fun av kv _ _ wr=>∃(g:Nat)(n k:Int),av= .int .i64 n∧kv= .int .i64 k∧Xdy R tg 1 g n k rb base Z s p wr∧LB rb base Z w wr)(fun _ kv _ _ wr=>if intOf kv=0 then 0 else 1+Ye wr rb s.size)
 case atStart=>exact⟨s.size,n1,k2,rfl,rfl,HH2.out,HB2.out⟩
 case round=>
  obtain⟨g,n,k,rfl,rfl,hh,hbt⟩:=hrel
  have HBT:=Xb hbt
  clear HH2 HB2 HB1
  rcases hh with⟨rfl,hn⟩|⟨hk,fs2,p2,ha2,hl2,hp2,hrg,hmg,ht2⟩
  ·have HN2:=Xb hn
   clear hn hbt
   go_wp2_with fail
   go_ret
   exact HN2.out.or(Nat.le_refl _)HBT.out
  ·obtain⟨c0,c1,c2⟩:=ha2.cells
   have HRG:Hid(Qh k=1):=hrg
   have HT2:=Xb ht2
   rw[HRG.out]at HT2
   have hk':((k:Int)==0)=false:=by simpa using hk
   have hk'':((k:Int) !=0)=true:=by simpa using hk
   have hpos:0<Ye wr rb s.size:=by
    rw[ha2.meas,if_neg(by decide)]
    have:=ha2.le
    omega
   have hmw:Ye wr rb s.size=s.size+1-p2:=by rw[ha2.meas,if_neg(by decide)]
   have HMW:=Xb hmw
   have HPOS:=Xb hpos
   have HMG:=Xb hmg
   have HLV:=Xb(HHR.out 1 Z fs2 p2 wr(by decide)(by decide)ha2.zb ha2 hl2(by omega))
   have HK0:Hid(k≠0):=hk
   clear hbt ha2 hrg hmg ht2 hpos hmw
   go_wp2_with fail
   refine HLV.out.mono ?_
   intro e w3 h3
   obtain⟨n3,rfl,b3,hn3⟩:=h3.n
   have HB3:=Xb(HBT.out.trans b3)
   have HM3:=Xb hn3.meas
   obtain⟨r3,hr3⟩:∃r3,R 1 fs2(skF s.data.toList p2)=r3:=⟨_,rfl⟩
   rw[hr3]at HT2 hn3
   have HVAL:Hid(∀y,r3=some y→y.1=n3):=by
    obtain⟨_,_,_,⟨h1,_⟩|⟨h1,_⟩⟩:=hn3
    ·intro y hy;rw[h1]at hy;cases hy;rfl
    ·intro y hy;rw[h1]at hy;cases hy
   have HA:=Xb(Xbx(p0:=p)hn3.st hs(by omega)hn3.zb k [n,n3](by simp))
   have HEQ:Hid(Xy r3(fun b fs q=>Xu WSp(Yw k [n,b])fs q)=(r3.map(·.2)).bind fun x=>Xu WSp(Yw k [n,n3])x.1 x.2):=by
    rw[Hid]
    cases e:r3 with
    |none=>rfl
    |some y=>obtain⟨b,f4,q4⟩:=y;obtain rfl:b=n3:=HVAL.out _ e;rfl
   rw[HEQ.out]at HT2
   clear h3 b3 hn3 hr3 c0 c1 c2
   go_wp2_with fail
   refine HA.out.mono ?_
   rintro e w4⟨n4,rfl,b4,hn4,hm4⟩
   have HB4:=Xb(HB3.out.trans b4)
   have HN4:=Xb(LfN.of(r:=tg)(by
    rw[HT2.out]
    show Xy _(fun n fs q=>some(n,fs,q))=_
    generalize((r3.map(·.2)).bind fun x=>Xu WSp(Yw k [n,n3])x.1 x.2)=c
    cases c<;>rfl)hn4)
   clear b4 hn4 hm4
   go_wp2_with fail
   go_ret
   exact HN4.out.or(Nat.le_refl _)HB4.out
theorem Xlg{l:Int}{p:Nat}{Z:Nat→Prop}{fs:List FN}{w:World}(h1:1≤l)(h6:l≤6)(h:LfAt w rb base Z s p false fs)(hZ:∀x,Z x→x<w.heap.size)(hs:s.size≤1000)(hl:fs.length≤40)(hf:s.size≤p+f):
  Calls Tryz.prog 43 #[.pointer(some⟨rb,0,none⟩), .int .i64 l]w(LfOr(lvS R s.data.toList WSp(6-l.toNat)fs(skF s.data.toList p))rb base Z s p w):=by
 have L6:=fun Z fs p w hZ h hl hf=>Xq2 HR(Z:=Z)(fs:=fs)(p:=p)(w:=w)h hZ hs hl hf
 have L5:=fun Z fs p w hZ h hl hf=>Xq3 HR L6(Z:=Z)(fs:=fs)(p:=p)(w:=w)h hZ hs hl hf
 have L4:=fun Z fs p w hZ h hl hf=>Xq4 HR L5(Z:=Z)(fs:=fs)(p:=p)(w:=w)h hZ hs hl hf
 have L3:=fun Z fs p w hZ h hl hf=>Xq5 HR L4(Z:=Z)(fs:=fs)(p:=p)(w:=w)h hZ hs hl hf
 have L2:=fun Z fs p w hZ h hl hf=>Xq6 HR L3(Z:=Z)(fs:=fs)(p:=p)(w:=w)h hZ hs hl hf
 have L1:=fun Z fs p w hZ h hl hf=>Xq7 HR L2(Z:=Z)(fs:=fs)(p:=p)(w:=w)h hZ hs hl hf
 rcases(show l=1∨l=2∨l=3∨l=4∨l=5∨l=6 by omega)with rfl|rfl|rfl|rfl|rfl|rfl
 ·exact L1 Z fs p w hZ h hl hf
 ·exact L2 Z fs p w hZ h hl hf
 ·exact L3 Z fs p w hZ h hl hf
 ·exact L4 Z fs p w hZ h hl hf
 ·exact L5 Z fs p w hZ h hl hf
 ·exact L6 Z fs p w hZ h hl hf
end
theorem Xlh{rb base:Nat}{s:ByteArray}(hs:s.size≤1000):∀f,Xgj(Up WSp s.data.toList f)f rb base s:=by
 intro f
 induction f with
 |zero=>intro l Z fs p w _ _ _ h _ hf;have:=h.le;omega
 | succ f ih =>
  intro l Z fs p w h1 h6 hZ h hl hf
  exact Xlg ih h1 h6 h hZ hs hl(by omega)
end Go.Proofs.YtehihemfepbmfaaGreatDoor
