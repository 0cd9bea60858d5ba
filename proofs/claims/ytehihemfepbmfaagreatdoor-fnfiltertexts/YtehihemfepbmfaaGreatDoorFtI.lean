import Derived.Test.YtehihemfepbmfaaGreatDoorFrSi
import Derived.Test.YtehihemfepbmfaaGreatDoorSgV
import Derived.Test.YtehihemfepbmfaaGreatDoorMkG
import Derived.Test.YtehihemfepbmfaaGreatDoorFtD
import Derived.Test.YtehihemfepbmfaaGreatDoorGupN
import Derived.Test.YtehihemfepbmfaaGreatDoorFSpc3
import Derived.Test.YtehihemfepbmfaaGreatDoorFEq
import Derived.Test.YtehihemfepbmfaaGreatDoorFtH
import Derived.Test.YtehihemfepbmfaaGreatDoorFtA
namespace Go.Proofs.YtehihemfepbmfaaGreatDoor
set_option maxHeartbeats 12800000
open Go.RowKit
set_option linter.unusedSimpArgs false
set_option linter.unusedVariables false
set_option linter.unusedSectionVars false
theorem X08 {L:List UInt8} {p c:Nat} (hc:c≠0):Xe L p c=true↔Xh L p=c:=by
 rw[Xl]
 refine ⟨fun h=>h.2,fun h=>⟨?_,h⟩⟩
 rcases Nat.lt_or_ge p L.length with h'|h'
 ·exact h'
 ·have:=Q2 h';omega
theorem Xuy (L:List UInt8) (p:Nat):K7 L p=Zk (Xh L p):=by
 unfold K7
 by_cases h:p<L.length
 ·rw[decide_eq_true h,Bool.true_and]
 ·rw[decide_eq_false h,Bool.false_and,Q2 (by omega)];rfl
theorem Xuz (L:List UInt8) (p:Nat):Yu L p=Yt (Xh L p):=by
 unfold Yu
 by_cases h:p<L.length
 ·rw[decide_eq_true h,Bool.true_and]
 ·rw[decide_eq_false h,Bool.false_and,Q2 (by omega)];rfl
section
variable {R:RD} {f rb mb base:Nat} {s:ByteArray} (HR:Xe0 R f rb mb base s) (HG:Jw s.data.toList R)
include HR HG
set_option maxRecDepth 100000 in
theorem Xh6 {p:Nat} {Z:Nat→Prop} {fs:List FN} {w:World} (h:FrAt w rb mb base Z s p fs) (hZ:∀x,Z x→x<w.heap.size) (hs:s.size≤1000) (hl:fs.length≤p) (hf:s.size≤p+f):
  Calls Tryz.prog 110 #[.pointer (some ⟨rb,0,none⟩)] w (FrOr (Xs WPr R s.data.toList fs p) rb mb base Z s w):=by
 have HLN:=Xa (Xm s)
 have hps:=h.le
 have HPK:=Xa (Wl h (by omega))
 have HZ:Hid (∀x,Z x→x<w.heap.size):=hZ
 have HHR:=Xa HR
 have HHG:=Xa HG
 have HIS:Hid (∀x:Nat,x≠0→(Xe s.data.toList p x=true↔Xh s.data.toList p=x)):=fun x hx=>X08 hx
 have hc256:=Jt s.data.toList p
 obtain ⟨c,hc⟩:∃c,Xh s.data.toList p=c:=⟨_,rfl⟩
 have HC:=Xa hc
 rw[hc] at HPK hc256 HIS
 clear h hZ HR HG hc
 by_cases n46:c=46
 ·have hat:Xe s.data.toList p 46=true:=(HIS.out 46 (by decide)).2 n46
  have hpl:p<s.size:=by rw[←HLN.out];exact (Xl.1 hat).1
  have HE:Hid (Xs WPr R s.data.toList fs p=Ym WPr s.data.toList fs (p+1)):=by rw[Hid];unfold Xs;rw[if_pos hat]
  have HAT:=Xa hat
  subst n46
  clear hat HIS
  go_enter Tryz.func110,Tryz.ntmps110
  go_wp2_with fail
  refine HPK.out.mono ?_
  rintro e w1 ⟨rfl,h1,b1⟩
  have HF1:=Xa h1
  have HB1:=Xa b1
  have HZ1:Hid (∀x,Z x→x<w1.heap.size):=fun x hx=>Nat.lt_of_lt_of_le (HZ.out x hx) b1.size
  clear h1 b1
  have HCC:=Xa (Xh2 HF1.out (by omega) (by omega) hpl)
  go_wp2_with fail
  refine HCC.out.mono ?_
  rintro e w2 ⟨b2,⟨n2,fs2,q2,hr,rfl,h2⟩|⟨hr,rfl⟩⟩
  ·have HB2:=Xa (HB1.out.trans b2)
   have HF2:=Xa h2
   have HR2:=Xa hr
   clear b2 h2 hr
   go_wp2_with fail
   go_ret
   exact ⟨HB2.out, .inl ⟨n2,fs2,q2,by rw[HE.out];exact HR2.out,rfl,HF2.out⟩⟩
  ·have HB2:=Xa (HB1.out.trans b2)
   have HR2:=Xa hr
   clear b2 hr
   unfold gup
   go_wp2_with fail
   exact ⟨rfl,FrOr.no (by rw[HE.out];exact HR2.out) HB2.out⟩
 by_cases n40:c=40
 ·have hat:Xe s.data.toList p 40=true:=(HIS.out 40 (by decide)).2 n40
  have hpl:p<s.size:=by rw[←HLN.out];exact (Xl.1 hat).1
  have HE:Hid (Xs WPr R s.data.toList fs p=Zl R s.data.toList 41 fs (skF s.data.toList (p+1))):=by rw[Hid];unfold Xs;rw[if_neg (fun e=>n46 ((HIS.out 46 (by decide)).1 e)),if_pos hat]
  have HAT:=Xa hat
  subst n40
  clear hat HIS
  go_enter Tryz.func110,Tryz.ntmps110
  go_wp2_with fail
  refine HPK.out.mono ?_
  rintro e w1 ⟨rfl,h1,b1⟩
  have HF1:=Xa h1
  have HB1:=Xa b1
  have HZ1:Hid (∀x,Z x→x<w1.heap.size):=fun x hx=>Nat.lt_of_lt_of_le (HZ.out x hx) b1.size
  clear h1 b1
  have HCC:=Xa (Xbz HHR.out HHG.out HF1.out HZ1.out (by omega) hl (by omega))
  go_wp2_with fail
  refine HCC.out.mono ?_
  rintro e w2 ⟨b2,⟨n2,fs2,q2,hr,rfl,h2⟩|⟨hr,rfl⟩⟩
  ·have HB2:=Xa (HB1.out.trans b2)
   have HF2:=Xa h2
   have HR2:=Xa hr
   clear b2 h2 hr
   go_wp2_with fail
   go_ret
   exact ⟨HB2.out, .inl ⟨n2,fs2,q2,by rw[HE.out];exact (Jv HAT.out).symm.trans HR2.out,rfl,HF2.out⟩⟩
  ·have HB2:=Xa (HB1.out.trans b2)
   have HR2:=Xa hr
   clear b2 hr
   unfold gup
   go_wp2_with fail
   exact ⟨rfl,FrOr.no (by rw[HE.out];exact (Jv HAT.out).symm.trans HR2.out) HB2.out⟩
 by_cases n91:c=91
 ·have hat:Xe s.data.toList p 91=true:=(HIS.out 91 (by decide)).2 n91
  have hpl:p<s.size:=by rw[←HLN.out];exact (Xl.1 hat).1
  have HE:Hid (Xs WPr R s.data.toList fs p=Jo WPr R s.data.toList fs (skF s.data.toList (p+1))):=by rw[Hid];unfold Xs;rw[if_neg (fun e=>n46 ((HIS.out 46 (by decide)).1 e)),if_neg (fun e=>n40 ((HIS.out 40 (by decide)).1 e)),if_pos hat]
  have HAT:=Xa hat
  subst n91
  clear hat HIS
  go_enter Tryz.func110,Tryz.ntmps110
  go_wp2_with fail
  refine HPK.out.mono ?_
  rintro e w1 ⟨rfl,h1,b1⟩
  have HF1:=Xa h1
  have HB1:=Xa b1
  have HZ1:Hid (∀x,Z x→x<w1.heap.size):=fun x hx=>Nat.lt_of_lt_of_le (HZ.out x hx) b1.size
  clear h1 b1
  have HCC:=Xa (Xh3 HHR.out HHG.out HF1.out HZ1.out hs hl (by omega) HAT.out)
  go_wp2_with fail
  refine HCC.out.mono ?_
  rintro e w2 ⟨b2,⟨n2,fs2,q2,hr,rfl,h2⟩|⟨hr,rfl⟩⟩
  ·have HB2:=Xa (HB1.out.trans b2)
   have HF2:=Xa h2
   have HR2:=Xa hr
   clear b2 h2 hr
   go_wp2_with fail
   go_ret
   exact ⟨HB2.out, .inl ⟨n2,fs2,q2,by rw[HE.out];exact HR2.out,rfl,HF2.out⟩⟩
  ·have HB2:=Xa (HB1.out.trans b2)
   have HR2:=Xa hr
   clear b2 hr
   unfold gup
   go_wp2_with fail
   exact ⟨rfl,FrOr.no (by rw[HE.out];exact HR2.out) HB2.out⟩
 by_cases n123:c=123
 ·have hat:Xe s.data.toList p 123=true:=(HIS.out 123 (by decide)).2 n123
  have hpl:p<s.size:=by rw[←HLN.out];exact (Xl.1 hat).1
  have HE:Hid (Xs WPr R s.data.toList fs p=Jf WPr R s.data.toList fs (skF s.data.toList (p+1))):=by rw[Hid];unfold Xs;rw[if_neg (fun e=>n46 ((HIS.out 46 (by decide)).1 e)),if_neg (fun e=>n40 ((HIS.out 40 (by decide)).1 e)),if_neg (fun e=>n91 ((HIS.out 91 (by decide)).1 e)),if_pos hat]
  have HAT:=Xa hat
  subst n123
  clear hat HIS
  go_enter Tryz.func110,Tryz.ntmps110
  go_wp2_with fail
  refine HPK.out.mono ?_
  rintro e w1 ⟨rfl,h1,b1⟩
  have HF1:=Xa h1
  have HB1:=Xa b1
  have HZ1:Hid (∀x,Z x→x<w1.heap.size):=fun x hx=>Nat.lt_of_lt_of_le (HZ.out x hx) b1.size
  clear h1 b1
  have HCC:=Xa (Xkf HHR.out HHG.out HF1.out HZ1.out hs hl (by omega) HAT.out)
  go_wp2_with fail
  refine HCC.out.mono ?_
  rintro e w2 ⟨b2,⟨n2,fs2,q2,hr,rfl,h2⟩|⟨hr,rfl⟩⟩
  ·have HB2:=Xa (HB1.out.trans b2)
   have HF2:=Xa h2
   have HR2:=Xa hr
   clear b2 h2 hr
   go_wp2_with fail
   go_ret
   exact ⟨HB2.out, .inl ⟨n2,fs2,q2,by rw[HE.out];exact HR2.out,rfl,HF2.out⟩⟩
  ·have HB2:=Xa (HB1.out.trans b2)
   have HR2:=Xa hr
   clear b2 hr
   unfold gup
   go_wp2_with fail
   exact ⟨rfl,FrOr.no (by rw[HE.out];exact HR2.out) HB2.out⟩
 by_cases n34:c=34
 ·have hat:Xe s.data.toList p 34=true:=(HIS.out 34 (by decide)).2 n34
  have hpl:p<s.size:=by rw[←HLN.out];exact (Xl.1 hat).1
  have HE:Hid (Xs WPr R s.data.toList fs p=match txJ s.data.toList (p+1) with|none=>none|some (t,q)=>Xu WPr (Zt ⟨4,0,txt t,[],[]⟩) fs (skF s.data.toList q)):=by rw[Hid];unfold Xs;rw[if_neg (fun e=>n46 ((HIS.out 46 (by decide)).1 e)),if_neg (fun e=>n40 ((HIS.out 40 (by decide)).1 e)),if_neg (fun e=>n91 ((HIS.out 91 (by decide)).1 e)),if_neg (fun e=>n123 ((HIS.out 123 (by decide)).1 e)),if_pos hat];rfl
  have HAT:=Xa hat
  subst n34
  clear hat HIS
  go_enter Tryz.func110,Tryz.ntmps110
  go_wp2_with fail
  refine HPK.out.mono ?_
  rintro e w1 ⟨rfl,h1,b1⟩
  have HF1:=Xa h1
  have HB1:=Xa b1
  have HZ1:Hid (∀x,Z x→x<w1.heap.size):=fun x hx=>Nat.lt_of_lt_of_le (HZ.out x hx) b1.size
  clear h1 b1
  have HTX:=Xa (Xs2 HF1.out (by omega) HAT.out)
  go_wp2_with fail
  refine HTX.out.mono ?_
  rintro e w5 ⟨b5,⟨l,q,ht,rfl,h5⟩|⟨ht,rfl⟩⟩
  rotate_left
  ·have HB5:=Xa (HB1.out.trans b5)
   have HT5:=Xa ht
   clear b5 ht
   unfold gup
   go_wp2_with fail
   exact ⟨rfl,FrOr.no (by rw[HE.out,HT5.out]) HB5.out⟩
  have HB5:=Xa (HB1.out.trans b5)
  have HT5:=Xa ht
  obtain ⟨T,hT⟩:∃T,txt l=T:=⟨_,rfl⟩
  have HTT:=Xa hT
  rw[hT]
  have HCC:=Xa (K0 h5 (fun x hx=>Nat.lt_of_lt_of_le (HZ1.out x hx) b5.size) (by omega) (by omega) 4 0 T)
  clear b5 ht h5 hT
  go_wp2_with fail
  refine HCC.out.mono ?_
  rintro e w2 ⟨b2,⟨n2,fs2,q2,hr,rfl,h2⟩|⟨hr,rfl⟩⟩
  ·have HB2:=Xa (HB5.out.trans b2)
   have HF2:=Xa h2
   have HR2:=Xa hr
   clear b2 h2 hr
   go_wp2_with fail
   go_ret
   exact ⟨HB2.out, .inl ⟨n2,fs2,q2,by rw[HE.out];exact (by rw[HT5.out];simp only;rw[HTT.out];exact HR2.out),rfl,HF2.out⟩⟩
  ·have HB2:=Xa (HB5.out.trans b2)
   have HR2:=Xa hr
   clear b2 hr
   unfold gup
   go_wp2_with fail
   exact ⟨rfl,FrOr.no (by rw[HE.out];exact (by rw[HT5.out];simp only;rw[HTT.out];exact HR2.out)) HB2.out⟩
 have HNO:Hid (¬Xe s.data.toList p 46=true∧¬Xe s.data.toList p 40=true∧¬Xe s.data.toList p 91=true∧¬Xe s.data.toList p 123=true∧¬Xe s.data.toList p 34=true):=⟨fun e=>n46 ((HIS.out 46 (by decide)).1 e),fun e=>n40 ((HIS.out 40 (by decide)).1 e),fun e=>n91 ((HIS.out 91 (by decide)).1 e),fun e=>n123 ((HIS.out 123 (by decide)).1 e),fun e=>n34 ((HIS.out 34 (by decide)).1 e)⟩
 have z46:((c:Int)==46)=false:=by simp;omega
 have zz46:¬(c:Int)=46:=by omega
 have z40:((c:Int)==40)=false:=by simp;omega
 have zz40:¬(c:Int)=40:=by omega
 have z91:((c:Int)==91)=false:=by simp;omega
 have zz91:¬(c:Int)=91:=by omega
 have z123:((c:Int)==123)=false:=by simp;omega
 have zz123:¬(c:Int)=123:=by omega
 have z34:((c:Int)==34)=false:=by simp;omega
 have zz34:¬(c:Int)=34:=by omega
 have HDA:Hid (K7 s.data.toList p=Zk c):=by rw[Hid,←HC.out];exact Xuy _ _
 have HLA:Hid (Yu s.data.toList p=Yt c):=by rw[Hid,←HC.out];exact Xuz _ _
 by_cases n45:c=45
 ·have HE:Hid (Xs WPr R s.data.toList fs p=Qx WPr s.data.toList p fun n q=>Xu WPr (Zt ⟨3,n,ByteArray.empty,[],[]⟩) fs q):=by
   rw[Hid];unfold Xs
   rw[if_neg HNO.out.1,if_neg HNO.out.2.1,if_neg HNO.out.2.2.1,if_neg HNO.out.2.2.2.1,if_neg HNO.out.2.2.2.2,if_neg (by rw[HLA.out,n45];decide),if_pos (.inl ((HIS.out 45 (by decide)).2 n45))]
  subst n45
  clear HIS
  go_enter Tryz.func110,Tryz.ntmps110
  go_wp2_with fail
  refine HPK.out.mono ?_
  rintro e w1 ⟨rfl,h1,b1⟩
  have HF1:=Xa h1
  have HB1:=Xa b1
  have HZ1:Hid (∀x,Z x→x<w1.heap.size):=fun x hx=>Nat.lt_of_lt_of_le (HZ.out x hx) b1.size
  clear h1 b1
  have HI:=Xa (Xbo HF1.out (by omega))
  go_wp2_with fail
  refine HI.out.mono ?_
  rintro e w5 ⟨b5,⟨v,hd,rfl,h5⟩|⟨hd,rfl⟩⟩
  rotate_left
  ·have HB5:=Xa (HB1.out.trans b5)
   have HD5:=Xa hd
   clear b5 hd
   unfold gup
   go_wp2_with fail
   exact ⟨rfl,FrOr.no (by rw[HE.out];unfold Qx;rw[show WPr.dec=Q8 from rfl,HD5.out]) HB5.out⟩
  have HB5:=Xa (HB1.out.trans b5)
  have HD5:=Xa hd
  have HCC:=Xa (K0 h5 (fun x hx=>Nat.lt_of_lt_of_le (HZ1.out x hx) b5.size) (by omega) (by omega) 3 v ByteArray.empty)
  clear b5 hd h5
  go_wp2_with fail
  refine HCC.out.mono ?_
  rintro e w2 ⟨b2,⟨n2,fs2,q2,hr,rfl,h2⟩|⟨hr,rfl⟩⟩
  ·have HB2:=Xa (HB5.out.trans b2)
   have HF2:=Xa h2
   have HR2:=Xa hr
   clear b2 h2 hr
   go_wp2_with fail
   go_ret
   exact ⟨HB2.out, .inl ⟨n2,fs2,q2,by rw[HE.out];exact (by unfold Qx;rw[show WPr.dec=Q8 from rfl,HD5.out];simp only;rw[Yh] at HR2;exact HR2.out),rfl,HF2.out⟩⟩
  ·have HB2:=Xa (HB5.out.trans b2)
   have HR2:=Xa hr
   clear b2 hr
   unfold gup
   go_wp2_with fail
   exact ⟨rfl,FrOr.no (by rw[HE.out];exact (by unfold Qx;rw[show WPr.dec=Q8 from rfl,HD5.out];simp only;rw[Yh] at HR2;exact HR2.out)) HB2.out⟩
 have z45:((c:Int)==45)=false:=by simp;omega
 have zz45:¬(c:Int)=45:=by omega
 cases hd:Zk c
 rotate_left
 ·have HE:Hid (Xs WPr R s.data.toList fs p=Qx WPr s.data.toList p fun n q=>Xu WPr (Zt ⟨3,n,ByteArray.empty,[],[]⟩) fs q):=by
   rw[Hid];unfold Xs
   have hnl:Yt c=false:=by
    unfold Zk at hd;unfold Yt
    simp only[Bool.and_eq_true,decide_eq_true_eq] at hd
    rw[Bool.or_eq_false_iff,Bool.or_eq_false_iff,Bool.and_eq_false_iff,Bool.and_eq_false_iff]
    simp only[decide_eq_false_iff_not]
    omega
   rw[if_neg HNO.out.1,if_neg HNO.out.2.1,if_neg HNO.out.2.2.1,if_neg HNO.out.2.2.2.1,if_neg HNO.out.2.2.2.2,if_neg (by rw[HLA.out,hnl];decide),if_pos (.inr (by rw[HDA.out];exact hd))]
  have HDG:=Xa (We c)
  rw[hd] at HDG
  clear HIS hd
  go_enter Tryz.func110,Tryz.ntmps110
  go_wp2_with fail
  refine HPK.out.mono ?_
  rintro e w1 ⟨rfl,h1,b1⟩
  have HF1:=Xa h1
  have HB1:=Xa b1
  have HZ1:Hid (∀x,Z x→x<w1.heap.size):=fun x hx=>Nat.lt_of_lt_of_le (HZ.out x hx) b1.size
  clear h1 b1
  go_wp2_with fail
  refine (HDG.out w1 hc256).mono ?_
  rintro e w4 ⟨rfl,rfl⟩
  have HI:=Xa (Xbo HF1.out (by omega))
  go_wp2_with fail
  refine HI.out.mono ?_
  rintro e w5 ⟨b5,⟨v,hd,rfl,h5⟩|⟨hd,rfl⟩⟩
  rotate_left
  ·have HB5:=Xa (HB1.out.trans b5)
   have HD5:=Xa hd
   clear b5 hd
   unfold gup
   go_wp2_with fail
   exact ⟨rfl,FrOr.no (by rw[HE.out];unfold Qx;rw[show WPr.dec=Q8 from rfl,HD5.out]) HB5.out⟩
  have HB5:=Xa (HB1.out.trans b5)
  have HD5:=Xa hd
  have HCC:=Xa (K0 h5 (fun x hx=>Nat.lt_of_lt_of_le (HZ1.out x hx) b5.size) (by omega) (by omega) 3 v ByteArray.empty)
  clear b5 hd h5
  go_wp2_with fail
  refine HCC.out.mono ?_
  rintro e w2 ⟨b2,⟨n2,fs2,q2,hr,rfl,h2⟩|⟨hr,rfl⟩⟩
  ·have HB2:=Xa (HB5.out.trans b2)
   have HF2:=Xa h2
   have HR2:=Xa hr
   clear b2 h2 hr
   go_wp2_with fail
   go_ret
   exact ⟨HB2.out, .inl ⟨n2,fs2,q2,by rw[HE.out];exact (by unfold Qx;rw[show WPr.dec=Q8 from rfl,HD5.out];simp only;rw[Yh] at HR2;exact HR2.out),rfl,HF2.out⟩⟩
  ·have HB2:=Xa (HB5.out.trans b2)
   have HR2:=Xa hr
   clear b2 hr
   unfold gup
   go_wp2_with fail
   exact ⟨rfl,FrOr.no (by rw[HE.out];exact (by unfold Qx;rw[show WPr.dec=Q8 from rfl,HD5.out];simp only;rw[Yh] at HR2;exact HR2.out)) HB2.out⟩
 have HDG:=Xa (We c)
 rw[hd] at HDG
 have HE:Hid (Xs WPr R s.data.toList fs p=X4 WPr R s.data.toList (X9 s.data.toList p) fs (skF s.data.toList (nmJ s.data.toList p))):=by
  rw[Hid];unfold Xs
  rw[if_neg HNO.out.1,if_neg HNO.out.2.1,if_neg HNO.out.2.2.1,if_neg HNO.out.2.2.2.1,if_neg HNO.out.2.2.2.2]
  cases hlt:Yt c
  ·rw[if_neg (by rw[HLA.out,hlt];decide),if_neg (by rintro (e|e);exact n45 ((HIS.out 45 (by decide)).1 e);rw[HDA.out,hd] at e;cases e)]
   have hnm:X9 s.data.toList p= []:=by
    have h0:nmJ s.data.toList p=p:=Q1 (fun e=>by have h1:=e.2;rw[HC.out] at h1;unfold nmC at h1;rw[hlt,hd] at h1;cases h1)
    unfold X9
    rw[h0,Nat.sub_self];rfl
   rw[hnm];rfl
  ·rw[if_pos (by rw[HLA.out];exact hlt)]
 clear HIS hd n46 n40 n91 n123 n34 n45
 go_enter Tryz.func110,Tryz.ntmps110
 go_wp2_with fail
 refine HPK.out.mono ?_
 rintro e w1 ⟨rfl,h1,b1⟩
 have HF1:=Xa h1
 have HB1:=Xa b1
 have HZ1:Hid (∀x,Z x→x<w1.heap.size):=fun x hx=>Nat.lt_of_lt_of_le (HZ.out x hx) b1.size
 clear h1 b1
 go_wp2_with fail
 refine (HDG.out w1 hc256).mono ?_
 rintro e w4 ⟨rfl,rfl⟩
 have HCC:=Xa (Xhw HHR.out HHG.out HF1.out HZ1.out hs hl hf)
 go_wp2_with fail
 refine HCC.out.mono ?_
 rintro e w2 ⟨b2,⟨n2,fs2,q2,hr,rfl,h2⟩|⟨hr,rfl⟩⟩
 ·have HB2:=Xa (HB1.out.trans b2)
  have HF2:=Xa h2
  have HR2:=Xa hr
  clear b2 h2 hr
  go_wp2_with fail
  go_ret
  exact ⟨HB2.out, .inl ⟨n2,fs2,q2,by rw[HE.out];exact HR2.out,rfl,HF2.out⟩⟩
 ·have HB2:=Xa (HB1.out.trans b2)
  have HR2:=Xa hr
  clear b2 hr
  unfold gup
  go_wp2_with fail
  exact ⟨rfl,FrOr.no (by rw[HE.out];exact HR2.out) HB2.out⟩
end

theorem Xh1 {rb mb base p:Nat} {Z:Nat→Prop} {s:ByteArray} {fs:List FN} {w:World} (h:FrAt w rb mb base Z s p fs) (hs:s.size≤4000):
  Calls Tryz.prog 111 #[.pointer (some ⟨rb,0,none⟩)] w fun e w'=>e= .returned (jhV (X0 s.data.toList p))∧Below w.heap.size w w':=by
 by_cases hq:p+1<s.size
 ·exact Xhu h hs hq
 ·exact Xht h hs hq
theorem ButF.box {rb base jb:Nat} {a b:World} {cs:Array Value} {T:TypeId} {z:Nat×Nat} (h:ButF rb base a b) (hx:a.heap[jb]? =some (.cells cs T z)) (hT:T≠51) (hr:jb≠rb):b.heap[jb]? =some (.cells cs T z):=
 (h.block jb (Wy hx) hr (fun _ ⟨cs',z',e⟩=>by rw[hx] at e;simp at e;exact hT e.2.1)).trans hx
section
variable {R:RD} {f rb mb base:Nat} {s:ByteArray} (HR:Xe0 R f rb mb base s) (HG:Jw s.data.toList R) (HW:WGood WPr s.data.toList)
include HR HG HW
set_option maxRecDepth 100000 in
theorem Xry {least:Int} {p:Nat} {Z:Nat→Prop} {fs:List FN} {w:World} (h1:1≤least) (h6:least≤6) (hZ:∀x,Z x→x<w.heap.size) (h:FrAt w rb mb base Z s p fs) (hs:s.size≤1000) (hl:fs.length≤p) (hf:s.size≤p+f):
  Calls Tryz.prog 75 #[.pointer (some ⟨rb,0,none⟩), .int .i64 least] w (FrOr (Xy (Xs WPr R s.data.toList fs p) fun n fs q=>Zx R s.data.toList WPr (s.data.toList.length+1) least 7 n fs q) rb mb base Z s w):=by
 obtain ⟨i1,hi1,hz1,hs1,hy1⟩:=info_parts Xpp
 have HLN:=Xa (Xm s)
 have hps:=h.le
 have hrbw:rb<w.heap.size:=h.cells.2.2.2
 have hbw:base≤w.heap.size:=h.box.sz
 have HWH:=Xa (Xh6 HR HG h hZ hs hl hf)
 have HZ:Hid (∀x,Z x→x<w.heap.size):=hZ
 have HHR:=Xa HR
 have HHG:=Xa HG
 have HHW:=Xa HW
 clear h hZ HR HG HW
 obtain ⟨r0,hr0⟩:∃r0,(Xy (Xs WPr R s.data.toList fs p) fun n fs q=>Zx R s.data.toList WPr (s.data.toList.length+1) least 7 n fs q)=r0:=⟨_,rfl⟩
 have HR0:=Xa hr0
 rw[hr0]
 clear hr0
 go_enter Tryz.func75,Tryz.ntmps75
 go_wp2_with fail
 refine HWH.out.mono ?_
 rintro e w1 ⟨b1,⟨n1,fs1,q1,hr,rfl,h1'⟩|⟨hr,rfl⟩⟩
 rotate_left
 ·have HB1:=Xa b1
  have HR1:=Xa hr
  clear b1 hr
  unfold gup
  go_wp2_with fail
  exact ⟨rfl,FrOr.no (by rw[←HR0.out];exact Vo HR1.out) HB1.out⟩
 have wt:=Kl HHG.out HHW.out (by rw[HLN.out];exact hps) hr
 have wlt:=wt.lt
 have wcn:=wt.cnt
 have HF1:=Xa h1'
 have HB1:=Xa b1
 have HEQ1:Hid (r0=Zx R s.data.toList WPr (s.size+1) least 7 n1 fs1 q1):=by rw[Hid,←HR0.out,Z5 hr,HLN.out]
 clear h1' b1 hr wt HR0 HWH
 go_wp2_with fail
 go_loopw [5,6] (fun pv bv wr=>∃(g y:Nat) (n bd:Int) (fs':List FN),pv= .int .i64 n∧bv= .int .i64 bd∧FrAt wr rb mb base Z s y fs'∧ButF rb base w wr∧p<y∧fs'.length≤y∧s.size<y+g∧-100≤bd∧bd≤100∧Hid (r0=Zx R s.data.toList WPr g least bd n fs' y)) (fun _ _ wr=>s.size+1-placeOf wr rb)
 case atStart=>exact ⟨s.size+1,q1,n1,7,fs1,rfl,rfl,HF1.out,HB1.out,wlt,by omega,by omega,by omega,by omega,HEQ1.out⟩
 case round =>
  obtain ⟨g,y,n,bd,fs',rfl,rfl,hfr,hbt,hpy,hfl,hgy,hbd1,hbd2,HEQ⟩:=hrel
  have hys:=hfr.le
  obtain ⟨g,rfl⟩:∃g',g=g'+1:=⟨g-1,by omega⟩
  have HS:=Xa hfr
  have HBT:=Xa hbt
  have HJH:=Xa (Xh1 hfr (by omega))
  clear hfr hbt
  cases hj:X0 s.data.toList y with
  | none =>
   rw[hj] at HJH
   have HE:Hid (r0=some (n,fs',y)):=by rw[Hid,HEQ.out,Zx,hj]
   unfold jhV at HJH
   simp only at HJH
   clear hj
   go_wp2_with fail
   refine HJH.out.mono ?_
   rintro e w2 ⟨rfl,b2⟩
   have HF2:=Xa (HS.out.below b2)
   have hba:Below w2.heap.size w2 (w2.alloc (.cells #[.int .i64 0, .string ⟨#[]⟩, .int .i64 0, .int .i64 0, .int .i64 0] 91)):=(Below.refl _ _).alloc (Nat.le_refl _) _
   have HF3:=Xa (HF2.out.below hba)
   have HB3:=Xa ((HBT.out.trans (ButF.of_below b2)).trans (ButF.of_below hba))
   clear b2 hba
   go_wp2_with fail
   go_ret
   exact ⟨HB3.out, .inl ⟨n,fs',y,HE.out,rfl,HF3.out⟩⟩
  | some kl =>
   obtain ⟨k,len⟩:=kl
   obtain ⟨j1,j2,j3,j4⟩:=Kr hj
   rw[HLN.out] at j2
   rw[hj] at HJH
   have HKS:Hid (k=6∨k=7∨k=21∨k=17∨k=18∨k=20∨k=19∨k=15∨k=16∨k=23):=Kk hj
   have HE:Hid (r0=if Xp k<least then some (n,fs',y) else if bd<Zw k then none else Xy (Jr R s.data.toList WPr k len n fs' y) fun n fs q=>Zx R s.data.toList WPr g least (Xp k) n fs q):=by rw[Hid,HEQ.out,Zx,hj];rfl
   unfold jhV at HJH
   simp only at HJH
   have hlen0:((len:Int)==0)=false:=by simp;omega
   have hlen1:¬(len:Int)=0:=by omega
   have hrr:(k=23∧Yv k=0)∨(k≠23∧1≤Yv k∧Yv k≤6∧Yv k=Qh k):=by
    rcases HKS.out with rfl|rfl|rfl|rfl|rfl|rfl|rfl|rfl|rfl|rfl<;>first|(exact .inl ⟨rfl,rfl⟩)|(exact .inr ⟨by decide,by decide,by decide,rfl⟩)
   obtain ⟨lv,hlv⟩:∃l,Xp k=l:=⟨_,rfl⟩
   obtain ⟨lf,hlf⟩:∃l,Zw k=l:=⟨_,rfl⟩
   obtain ⟨rg,hrg⟩:∃l,Yv k=l:=⟨_,rfl⟩
   obtain ⟨tx,htx⟩:∃t,txt (Zo k)=t:=⟨_,rfl⟩
   rw[hlv,hlf,hrg,htx] at HJH
   rw[hlv,hlf] at HE
   rw[hlv] at j3 j4
   rw[hrg] at hrr
   have HRR:=Xa hrr
   clear hj hlv hlf hrg htx hrr
   go_wp2_with fail
   refine HJH.out.mono ?_
   rintro e w2 ⟨rfl,b2⟩
   obtain ⟨W3,hW3⟩:∃W3,w2.alloc (.cells #[.int .i64 k, .string tx, .int .i64 lv, .int .i64 lf, .int .i64 rg] 91)=W3:=⟨_,rfl⟩
   have hba:Below w2.heap.size w2 W3:=by rw[←hW3];exact (Below.refl _ _).alloc (Nat.le_refl _) _
   have hx3:W3.heap[w2.heap.size]? =some (.cells #[.int .i64 k, .string tx, .int .i64 lv, .int .i64 lf, .int .i64 rg] 91 (0,0)):=by rw[←hW3];exact heap_alloc_new w2 _
   have HF3:=Xa ((HS.out.below b2).below hba)
   have HB3:=Xa ((HBT.out.trans (ButF.of_below b2)).trans (ButF.of_below hba))
   have HX3:=Xa hx3
   have HW3:=Xa hW3
   have hne:w2.heap.size≠rb:=by have:=(HS.out.below b2).cells.2.2.2;omega
   have HNE:=Xa hne
   have x0:=cellAt hx3 (i:=0) rfl
   have x2:=cellAt hx3 (i:=2) rfl
   have x3:=cellAt hx3 (i:=3) rfl
   have x4:=cellAt hx3 (i:=4) rfl
   have hzz:=HB3.out.size
   clear b2 hba hx3 hW3 hne
   by_cases hlow:lv<least
   ·have HE2:Hid (r0=some (n,fs',y)):=by rw[Hid,HE.out,if_pos hlow]
    go_wp2_with fail
    (try rw[HW3.out])
    go_ret
    exact ⟨HB3.out, .inl ⟨n,fs',y,HE2.out,rfl,HF3.out⟩⟩
   by_cases hbl:bd<lf
   ·have HE2:Hid (r0=none):=by rw[Hid,HE.out,if_neg hlow,if_pos hbl]
    go_wp2_with fail
    (try rw[HW3.out])
    exact ⟨rfl,FrOr.no HE2.out HB3.out⟩
   have HE2:Hid (r0=Xy (Jr R s.data.toList WPr k len n fs' y) fun n fs q=>Zx R s.data.toList WPr g least lv n fs q):=by rw[Hid,HE.out,if_neg hlow,if_neg hbl]
   clear HE
   have hZ3:∀x,Z x→x<W3.heap.size:=fun x hx=>by have:=HZ.out x hx;omega
   have HZ3:=Xa hZ3
   have e1:((y+len:Nat):Int)=(y:Int)+(len:Int):=by omega
   obtain ⟨c0,c1,f1,lt0⟩:=HF3.out.cells
   have h4:=HF3.out.to (q:=y+len) j2
   rw[e1] at h4
   obtain ⟨W4,hW4⟩:∃W4,W3.setCell ⟨rb,1,none⟩ (.int .i64 ((y:Int)+(len:Int)))=W4:=⟨_,rfl⟩
   rw[hW4] at h4
   have hb4:ButF rb base W3 W4:=by rw[←hW4];exact ButF.of_set _ _
   have HX4:=Xa (hb4.box HX3.out (by decide) HNE.out)
   have HB4:=Xa (HB3.out.trans hb4)
   have z4:=hb4.size
   have HSK:=Xa (Vx h4 (by omega))
   obtain ⟨y2,hy2⟩:∃y2,skF s.data.toList (y+len)=y2:=⟨_,rfl⟩
   have hyy:y+len≤y2:=by rw[←hy2];exact Xw _ _
   have HY2:=Xa hy2
   rw[hy2] at HSK
   have HW4:=Xa hW4
   clear h4 hb4 hZ3 e1 hy2 hW4
   go_upto_region 4 with fail
   rw[HW3.out]
   go_upto_region 9 with fail
   rw[HW4.out]
   clear x0 x2 x3 x4 c0 c1 f1 lt0
   go_upto_region 10 with (go_at_call 74;refine HSK.out.mono ?_;rintro e w5 ⟨rfl,h5,b5⟩)
   have HF5:=Xa h5
   have HB5:=Xa (HB4.out.trans b5)
   have hx5:=b5.box HX4.out (by decide) HNE.out
   have z5:=b5.size
   have hj5:=Wy hx5
   have HZ5:Hid (∀x,Z x→x<w5.heap.size):=fun x hx=>by have:=HZ3.out x hx;omega
   obtain ⟨W6,hW6⟩:∃W6,w5.alloc (.cells #[.int .i64 n] 2)=W6:=⟨_,rfl⟩
   have hba:Below w5.heap.size w5 W6:=by rw[←hW6];exact (Below.refl _ _).alloc (Nat.le_refl _) _
   have hx6:W6.heap[w2.heap.size]? =_:=(hba.block _ (Wy hx5)).trans hx5
   have HX6:=Xa hx6
   have x0:=cellAt hx6 (i:=0) rfl
   have x2:=cellAt hx6 (i:=2) rfl
   have x4:=cellAt hx6 (i:=4) rfl
   have hy2s:=h5.le
   clear h5 b5 hx5 hx6
   rcases HRR.out with ⟨rfl,rfl⟩|⟨hk23,hr1,hr6,hrF⟩
   ·have HA:=Xa (Xcq HF5.out HZ5.out (by omega) 23 [n] (by simp))
    have HA2:Hid (Calls Tryz.prog 112 #[.pointer (some ⟨rb,0,none⟩), .agg #[.int .i64 23, .string ByteArray.empty, .int .i64 0, .slice none 0 0, .slice none 0 0, .slice none 0 0], .slice (some ⟨w5.heap.size,0,none⟩) 1 1] W6 fun e w'=>e= .returned (.int .i64 (fs'.length:Int))∧FrAt w' rb mb base Z s y2 (fs'++ [Yw 23 [n]])∧ButF rb base w5 w'):=by rw[Hid,←hW6];exact HA.out
    have HEA:Hid (r0=Zx R s.data.toList WPr g least lv (fs'.length:Int) (fs'++ [Yw 23 [n]]) y2):=by rw[Hid,HE2.out];unfold Jr;rw[if_pos rfl,HY2.out,Xkg];rfl
    have HW6:=Xa hW6
    clear hW6 hba HA
    go_upto_region 11 with fail
    rw[HW6.out]
    go_wp2_with fail
    refine HA2.out.mono ?_
    rintro e w7 ⟨rfl,h7,b7⟩
    have HF7:=Xa h7
    have HB7:=Xa (HB5.out.trans b7)
    have hx7:w7.heap[w2.heap.size]? =some (.cells #[.int .i64 23, .string tx, .int .i64 lv, .int .i64 lf, .int .i64 0] 91 (0,0)):=b7.box (by have h0:=HX6.out;rw[←HW6.out] at h0;rw[←h0];exact (heap_alloc_old w5 _ hj5).symm) (by decide) HNE.out
    clear x0 x2 x4
    have x2:=cellAt hx7 (i:=2) rfl
    clear h7 b7 hx7
    go_wp2_with fail
    go_roundw
    case rel=>exact ⟨g,y2,_,lv,_,rfl,rfl,HF7.out,HB7.out,by omega,by rw[List.length_append,List.length_singleton];omega,by omega,by omega,by omega,HEA.out⟩
    case measure=>rw[HS.out.place,HF7.out.place];omega
   ·have hlit:=Xkh w5 w5.heap.size [n] (Nat.le_refl _) (by simp)
    have hlit6:W6.ownsRow w5.heap.size 2 1 (.slice (some ⟨w5.heap.size,0,none⟩) 1 1) 1 [.int .i64 n]:=by rw[←hW6];exact hlit
    have HL6:=Xa hlit6
    have HF6:Hid (FrAt W6 rb mb base (fun x=>Z x∨x=w5.heap.size) s y2 fs'):=HF5.out.fresh hba (fun x hx=>by rcases hx with hx|hx;exact .inl hx;exact .inr (.inl (by omega)))
    have HB6:=Xa (HB5.out.trans (ButF.of_below hba))
    have z6:=hba.size
    have hl6:w5.heap.size<W6.heap.size:=by rw[←hW6];simp
    have HRD:=Xa (HHR.out rg (fun x=>Z x∨x=w5.heap.size) fs' y2 W6 hr1 hr6 (fun x hx=>by rcases hx with hx|hx;have:=HZ5.out x hx;omega;omega) HF6.out (by omega) (by omega))
    have hrpos:(0:Int)<rg:=by omega
    have HW6:=Xa hW6
    have hbw5:base≤w5.heap.size:=HF5.out.box.sz
    have HRF:=Xa hrF
    clear hW6 hba hlit hlit6 hrF
    go_upto_region 11 with fail
    rw[HW6.out]
    go_wp2_with fail
    refine HRD.out.mono ?_
    rintro e w7 ⟨b7,⟨n2,fs2,q2,hr,rfl,h7⟩|⟨hr,rfl⟩⟩
    rotate_left
    ·have HB7:=Xa (HB6.out.trans b7)
     have HR7:=Xa hr
     clear b7 hr
     unfold gup
     go_wp2_with fail
     exact ⟨rfl,FrOr.no (by rw[HE2.out];refine Vo ?_;unfold Jr;rw[if_neg hk23,HY2.out,←HRF.out];exact Vo HR7.out) HB7.out⟩
    have wt:=HHG.out _ _ _ _ _ _ (by rw[HLN.out];exact hy2s) hr
    have w7lt:=wt.lt
    have w7cn:=wt.cnt
    have w7le:=wt.le
    rw[HLN.out] at w7le
    have HR7:=Xa hr
    have HB7:=Xa (HB6.out.trans b7)
    have HF7:=Xa h7
    have HL7:=Xa (b7.own HL6.out (by decide) (by omega))
    have hx7:=b7.box HX6.out (by decide) HNE.out
    have HX7:=Xa hx7
    have z7:=b7.size
    clear x0 x2 x4 h7 b7 hr wt hx7
    go_wp2_with (at_builtin;refine wpList_append_own_at _ rfl _ _ 49 rfl w5.heap.size 2 i1 (.int .i64 0) 1 8 Tryz.underlying49 hi1 hz1 hs1 hy1 rfl (by decide) _ _ _ rfl (HL7.out.alloc _) ⟨w7.heap.size,0,none⟩ 1 1 [.int .i64 n2] rfl rfl ?d1 ?d2 ?d3 ?d4 ?d5 ?_)
    case d1=>exact cell_one_new _ _ _
    case d2=>intro u hu;simp at hu;subst hu;rfl
    case d3=>unfold maxLen;omega
    case d4=>omega
    case d5=>simp;omega
    intro v8 w8 hown hgrow _ hat
    have hga:=(World.grownBy_alloc w7 (.cells #[.int .i64 n2] 2) (Value.slice (some ⟨w5.heap.size,0,none⟩) 1 1).ownBlock).trans hgrow
    have HF8:=Xa (HF7.out.grown HL7.out (by decide) hbw5 (fun x hx=>by simp[Value.ownBlock] at hx;exact .inl (.inr hx.symm)) hga)
    have HB8:=Xa (HB7.out.grownN hga (fun x hx=>by simp[Value.ownBlock] at hx;have:=HB5.out.size;omega))
    have HK8:Hid (w8.ownsRow w5.heap.size 2 1 v8 [n,n2].length ([n,n2].map (.int .i64))):=hown
    have HVB:Hid (∀x,v8.ownBlock=some x→(x=w5.heap.size∨w7.heap.size≤x)):=fun x hx=>by
     rcases hat with e|e
     ·rw[e] at hx;simp[Value.ownBlock] at hx;exact .inl hx.symm
     ·rw[e] at hx;simp at hx;exact .inr (by omega)
    have hx8:w8.heap[w2.heap.size]? =some (.cells #[.int .i64 k, .string tx, .int .i64 lv, .int .i64 lf, .int .i64 rg] 91 (0,0)):=(hga.block _ (Wy HX7.out) (fun e=>by
     have e2:w2.heap.size=w5.heap.size:=by simpa [Value.ownBlock] using e
     omega)).trans HX7.out
    have HX8:=Xa hx8
    have x0:=cellAt hx8 (i:=0) rfl
    have x2:=cellAt hx8 (i:=2) rfl
    obtain ⟨a8,c8,ev⟩:=Ki hown
    subst ev
    have HA:=Xa (Wq (Z':=Z) (x:=Yw k [n,n2]) (kc:= .slice none 0 0) (kn:= .slice none 0 0) (ki:= .slice a8 2 c8) (k0:= .slice none 0 0) HF8.out (U2 _ _) (World.ownsRow_nil _ _ _ _) (Xaq HK8.out hbw5) (fun x hx=>by
     rcases hx with hx|hx|hx
     ·cases hx
     ·cases hx
     ·rcases HVB.out x hx with e|e
      ·exact .inl (.inr e)
      ·exact .inr e) (fun x hx=>⟨.inl (.inl hx),fun e=>by
     have h0:=HZ5.out x hx
     rcases e with e|e|e
     ·cases e
     ·cases e
     ·rcases HVB.out x e with e|e<;>omega⟩) (by omega))
    have HEA:Hid (r0=Zx R s.data.toList WPr g least lv (fs2.length:Int) (fs2++ [Yw k [n,n2]]) q2):=by
     rw[Hid,HE2.out]
     refine Z5 (n:=(fs2.length:Int)) (fs:=fs2++ [Yw k [n,n2]]) (q:=q2) ?_
     unfold Jr
     rw[if_neg hk23,HY2.out,←HRF.out,Z5 HR7.out,Xkg]
    clear hown hgrow hat hga hx8
    go_wp2_with fail
    refine HA.out.mono ?_
    rintro e w9 ⟨rfl,h9,b9⟩
    have HF9:=Xa h9
    have HB9:=Xa (HB8.out.trans b9)
    have hx9:=b9.box HX8.out (by decide) HNE.out
    clear x0 x2
    have x2:=cellAt hx9 (i:=2) rfl
    clear h9 b9 hx9
    go_wp2_with fail
    go_roundw
    case rel=>exact ⟨g,q2,_,lv,_,rfl,rfl,HF9.out,HB9.out,by omega,by rw[List.length_append,List.length_singleton];omega,by omega,by omega,by omega,HEA.out⟩
    case measure=>rw[HS.out.place,HF9.out.place];omega
end
theorem Xrz {rb mb base:Nat} {s:ByteArray} (hs:s.size≤1000) (HW:WGood WPr s.data.toList):∀f,Xe0 (Ys WPr s.data.toList f) f rb mb base s:=by
 intro f
 induction f with
 | zero =>
  intro least Z fs p w _ _ _ h _ hf
  have:=h.le
  omega
 | succ f ih =>
  intro least Z fs p w h1 h6 hZ h hl hf
  rw[Ys]
  exact Xry ih (Xci HW f) HW h1 h6 hZ h hs hl (by omega)

theorem FNest.nodes {base:Nat} {w:World} {v:Value} {fs:List FN} {C N I:Nat→Value} (h:FNest base w v fs C N I) (hn:fs.length≤1048576) (hf:Y0 fs):FNodesAt w.heap.size w v fs:=by
 have fit:∀i,i<fs.length→FitF (Xi fs i):=fun i hi=>hf _ (by unfold Xi;rw[List.getD_eq_getElem?_getD,List.getElem?_eq_getElem hi];exact List.getElem_mem hi)
 refine ⟨hn, ?_⟩
 rcases Nat.eq_zero_or_pos fs.length with e|e
 ·rcases h.row.2 with ⟨rfl,_⟩|⟨g,cap,cur,rfl,_⟩
  ·exact ⟨none,0,by rw[e],fun hp=>by omega⟩
  ·exact ⟨_,cap,rfl,fun hp=>by omega⟩
 ·obtain ⟨g,cap,rfl,_,hlt⟩:=h.row.form e
  refine ⟨_,cap,rfl,fun _=>⟨g,0,rfl,hlt,fun i hi=>⟨C i,N i,I i, ?_⟩⟩⟩
  have f:=fit i hi
  have q:∀k,k<6→(i *6+k)%6=k∧(i *6+k)/6=i:=fun k hk=>by omega
  have q0:=q 0 (by omega)
  rw[Nat.add_zero] at q0
  rw[Nat.zero_add]
  have hcst:NodesAt w.heap.size w (C i) (Xi fs i).cst:=(h.rc i hi).nodes (by have:=f.cst.1;omega) (fun j hj=>by
   have hm:Xc (Xi fs i).cst j∈(Xi fs i).cst:=by unfold Xc;rw[List.getD_eq_getElem?_getD,List.getElem?_eq_getElem hj];exact List.getElem_mem hj
   obtain ⟨a1,a2,a3,a4,a5,a6,a7⟩:=f.cst.2 _ hm
   exact ⟨by rw[a1];simp,fun x hx=>by rw[a1] at hx;simp at hx,by rw[a2];simp,fun x hx=>by rw[a2] at hx;simp at hx,by omega,by omega,by omega,a6,a7⟩)
  have hstr:StrsAt w.heap.size w (N i) (Xi fs i).names:=Xeq (h.rn i hi) (by have:=f.names.1;omega) (fun j hj=>by
   have hm:Xt (Xi fs i).names j∈(Xi fs i).names:=by unfold Xt;rw[List.getD_eq_getElem?_getD,List.getElem?_eq_getElem hj];exact List.getElem_mem hj
   have:=f.names.2 _ hm;omega)
  have hint:IntsAt w.heap.size w (I i) (Xi fs i).kids:=Xer (h.ri i hi) (by have:=f.kids.1;omega) (fun j hj=>by
   have hm:Xk (Xi fs i).kids j∈(Xi fs i).kids:=by unfold Xk;rw[List.getD_eq_getElem?_getD,List.getElem?_eq_getElem hj];exact List.getElem_mem hj
   have:=f.kids.2 _ hm;omega)
  refine ⟨?_, ?_, ?_, ?_, ?_, ?_,⟨hcst,hstr,hint,by have:=f.name;omega,by have:=f.kind;omega,by have:=f.kind;omega,f.place.1,f.place.2⟩⟩
  ·rw[h.row.cellAt _ (by omega),Qm _ _ _ _ (by omega),Zs,q0.1,q0.2];rfl
  ·rw[h.row.cellAt _ (by omega),Qm _ _ _ _ (by omega),Zs,(q 1 (by omega)).1,(q 1 (by omega)).2];rfl
  ·rw[h.row.cellAt _ (by omega),Qm _ _ _ _ (by omega),Zs,(q 2 (by omega)).1,(q 2 (by omega)).2];rfl
  ·rw[h.row.cellAt _ (by omega),Qm _ _ _ _ (by omega),Zs,(q 3 (by omega)).1,(q 3 (by omega)).2];rfl
  ·rw[h.row.cellAt _ (by omega),Qm _ _ _ _ (by omega),Zs,(q 4 (by omega)).1,(q 4 (by omega)).2];rfl
  ·rw[h.row.cellAt _ (by omega),Qm _ _ _ _ (by omega),Zs,(q 5 (by omega)).1,(q 5 (by omega)).2];rfl
def rdA (L:List UInt8):Option (List FN):=match Ys WPr L (L.length+1) 1 [] (skF L 0) with
 |none=>none
 |some (_,fs,q)=>if q=L.length then some fs else none
set_option maxRecDepth 100000 in
theorem Xku {rb mb base:Nat} {Z:Nat→Prop} {s:ByteArray} {w:World} (h:FrAt w rb mb base Z s 0 []) (hZ:∀x,Z x→x<w.heap.size) (hs:s.size≤1000):
  Calls Tryz.prog 36 #[.pointer (some ⟨rb,0,none⟩)] w fun e w'=>ButF rb base w w'∧((∃v fs,rdA s.data.toList=some fs∧e= .returned v∧FRow base Z w' v fs∧Y0 fs∧fs.length≤1000)∨(rdA s.data.toList=none∧e=gup)):=by
 have HLN:=Xa (Xm s)
 have HSK:=Xa (Vx h (by omega))
 have HZ:Hid (∀x,Z x→x<w.heap.size):=hZ
 clear h hZ
 go_enter Tryz.func36,Tryz.ntmps36
 go_wp2_with fail
 refine HSK.out.mono ?_
 rintro e w1 ⟨rfl,h1,b1⟩
 have HB1:=Xa b1
 have HRD:=Xa (Xrz (rb:=rb) (mb:=mb) (base:=base) hs (Xn6 s.data.toList) (s.size+1) 1 Z [] _ w1 (by decide) (by decide) (fun x hx=>Nat.lt_of_lt_of_le (HZ.out x hx) b1.size) h1 (by simp) (by omega))
 clear h1 b1
 go_wp2_with fail
 refine HRD.out.mono ?_
 rintro e w2 ⟨b2,⟨n,fs,q,hr,rfl,h2⟩|⟨hr,rfl⟩⟩
 rotate_left
 ·have HB2:=Xa (HB1.out.trans b2)
  have HR2:=Xa hr
  clear b2 hr
  unfold gup
  go_wp2_with fail
  exact ⟨rfl,HB2.out, .inr ⟨by unfold rdA;rw[HLN.out,HR2.out],rfl⟩⟩
 have HB2:=Xa (HB1.out.trans b2)
 have HR2:=Xa hr
 have hsk0:skF s.data.toList 0≤s.data.toList.length:=X1 (by omega)
 have wt:=Xci (Xn6 s.data.toList) _ _ _ _ _ _ _ hsk0 hr
 have HALL:=Xa (Xrc (Xn6 s.data.toList) (Xvl s.data.toList) (by rw[HLN.out];omega) _ _ _ _ Xet (by simp) hsk0 _ _ _ hr)
 have hcn:=wt.cnt
 have hle:=wt.le
 rw[HLN.out] at hle
 have hfl:fs.length≤1000:=by simp at hcn;omega
 obtain ⟨c0,c1,f1,lt0⟩:=h2.cells
 obtain ⟨v,hsf,hrow⟩:=h2.ex
 have c4:w2.cell? ⟨rb,4,none⟩=some v:=hsf.bl 4 (by decide)
 have HROW:=Xa hrow
 have HSF:=Xa hsf
 obtain ⟨av,cv,ev⟩:=hrow.slice
 obtain ⟨lv,hlv⟩:∃l,fs.length=l:=⟨_,rfl⟩
 rw[hlv] at ev
 subst ev
 clear b2 hr wt h2 hsf hrow hlv hsk0
 by_cases hq:q<s.size
 ·have hq':(q:Int)<(s.size:Int):=by omega
  have hqd:decide ((q:Int)<(s.size:Int))=true:=by simpa using hq'
  have HN:Hid (rdA s.data.toList=none):=by rw[Hid];unfold rdA;rw[HLN.out,HR2.out];simp only;rw[if_neg (by omega)]
  go_wp2_with fail
  go_quiet (fail)
  have HD:=Xa (Xq (w:=w2) nq)
  generalize w2.drewN nq=W3 at HD⊢
  go_wp2_with fail
  exact ⟨rfl,HB2.out.trans (ButF.of_below HD.out), .inr ⟨HN.out,rfl⟩⟩
 ·have hq':¬(q:Int)<(s.size:Int):=by omega
  have hqd:decide ((q:Int)<(s.size:Int))=false:=by simpa using hq'
  have HN:Hid (rdA s.data.toList=some fs):=by rw[Hid];unfold rdA;rw[HLN.out,HR2.out];simp only;rw[if_pos (by omega)]
  go_wp2_with fail
  go_quiet (fail)
  have HD:=Xa (Xq (w:=w2) nq)
  have HROW3:=Xa (HROW.out.below HD.out)
  have HSF3:=Xa (HSF.out.below HD.out)
  have c43:=HSF3.out.bl 4 (by decide)
  generalize w2.drewN nq=W3 at HD HROW3 HSF3 c43⊢
  have c44:W3.cell? ⟨rb,4,none⟩=some (.slice av lv cv):=c43
  clear c43 c0 c1 f1 c4
  go_wp2_with fail
  go_ret
  exact ⟨HB2.out.trans (ButF.of_below HD.out), .inl ⟨_,fs,HN.out,rfl,HROW3.out,HALL.out,by omega⟩⟩

def Jg (L:List UInt8):Option (List FN):=if 1000<L.length then none else match rdA L with
 |none=>none
 |some fs=>if okF fs=true then some fs else none
structure TabsR (B:Nat) (w:World):Prop where
 tb:Tabs B w
 jt:JtB B w
 sp:SpB B w
theorem TabsR.next {B:Nat} {w w':World} (h:TabsR B w) (hb:Below B w w'):TabsR B w':=⟨h.tb.next hb,h.jt.next hb,h.sp.next hb⟩
theorem TabsR.wide {B C:Nat} {w:World} (h:TabsR B w) (hBC:B≤C):TabsR C w:=⟨h.tb.wide hBC,fun w2 h2=>h.jt w2 (h2.mono hBC),fun w2 h2=>h.sp w2 (h2.mono hBC)⟩
def RdFlt (L:List UInt8) (w:World) (e:Ending) (w':World):Prop:=Below w.heap.size w w'∧((∃v fs,Jg L=some fs∧e= .returned (.tuple #[v, .bool true])∧FRow w.heap.size (fun _=>False) w' v fs∧Y0 fs)∨(Jg L=none∧e= .returned (.tuple #[.slice none 0 0, .bool false])))
set_option maxRecDepth 100000 in
theorem Xqx (s b:ByteArray) (w:World):Calls Tryz.prog 33 #[.string s, .string b] w fun e w'=>e= .returned (.agg #[.string s, .int .i64 0, .string b])∧Below w.heap.size w w':=by
 go_enter Tryz.func33,Tryz.ntmps33
 go_wp2_with fail
 refine bodyPost_ret (v:= .agg #[.string s, .int .i64 0, .string b]) (by simp[results,Tryz.results33,go_sem]) rfl ?_
 exact ⟨rfl,(Below.refl _ _).alloc (Nat.le_refl _) _⟩
theorem Xjj (x:Value):∀w,(callFunc 36 #[x]).run Tryz.prog w= .ok (.enter 36 #[x]) w:=fun w=>by kernel_rfl
theorem Xtx {base b0:Nat} {Z:Nat→Prop} {w:World} {v:Value} {fs:List FN} {cs:Array Value} {T:TypeId} {z:Nat×Nat} (h:FRow base Z w v fs) (hx:w.heap[b0]? =some (.cells cs T z)) (hT:51≠T) (hZ:Z b0) (o:Nat) (u:Value):FRow base Z (w.setCell ⟨b0,o,none⟩ u) v fs:=by
 obtain ⟨C,N,I,hN,hS⟩:=h
 refine ⟨C,N,I,hN.keep (fun x hx'=>Below.heap_setCell _ _ _ _ (fun e=> ?_)) (fun x hx'=>Below.heap_setCell _ _ _ _ (fun e=> ?_)),hS⟩
 ·have e':x=b0:=e
  rw[e'] at hx'
  rcases hN.row.2 with ⟨e2,_⟩|⟨g,cap,cur,e2,_,hg,_⟩
  ·rw[e2] at hx';cases hx'
  ·rw[e2] at hx'
   have eg:g=b0:=by simpa [Value.ownBlock] using hx'
   rw[eg,hx] at hg
   simp at hg
   exact hT hg.2.1.symm
 ·have e':x=b0:=e
  rw[e'] at hx'
  exact hS b0 hx' hZ
theorem Xhg {base base':Nat} {Z Z':Nat→Prop} {w:World} {v:Value} {fs:List FN} (h:FRow base Z w v fs) (hb:base'≤base) (hz:∀x,Z' x→Z x):FRow base' Z' w v fs:=by
 obtain ⟨C,N,I,hN,hS⟩:=h
 exact ⟨C,N,I,⟨Xaq hN.row hb,fun i hi=>Xu8 (hN.rc i hi) hb,fun i hi=>Xaq (hN.rn i hi) hb,fun i hi=>Xaq (hN.ri i hi) hb,hN.dc,hN.dn,hN.di⟩,fun x hx hz'=>hS x hx (hz x hz')⟩
set_option maxRecDepth 100000 in
theorem Xdd {s:ByteArray} {w:World} (ht:TabsR w.heap.size w) (hs:s.size≤1048576):
  Calls Tryz.prog 13 #[.string s] w (RdFlt s.data.toList w):=by
 have HLN:=Xa (Xm s)
 have HT:=Xa ht
 clear ht
 by_cases hbig:1000<s.size
 ·have hbig':(1000:Int)<(s.size:Int):=by omega
  have HN:Hid (Jg s.data.toList=none):=by rw[Hid];unfold Jg;rw[if_pos (by rw[HLN.out];exact hbig)]
  go_enter Tryz.func13,Tryz.ntmps13
  go_wp2_with fail
  go_returns
  exact ⟨Below.refl _ _, .inr ⟨HN.out,rfl⟩⟩
 have hbig':¬(1000:Int)<(s.size:Int):=by omega
 have HFL:Hid (Jg s.data.toList=match rdA s.data.toList with|none=>none|some fs=>if okF fs=true then some fs else none):=by rw[Hid];unfold Jg;rw[if_neg (by rw[HLN.out];exact hbig)]
 have HNS:=Xa (Xqx s ⟨#[10,32]⟩ w)
 go_enter Tryz.func13,Tryz.ntmps13
 go_wp2_with fail
 refine HNS.out.mono ?_
 rintro e w1 ⟨rfl,b1⟩
 have HB1:=Xa b1
 have z1:=b1.size
 have HJS:=Xa (Xgq w1 (((HT.out.next b1).wide b1.size).jt) (((HT.out.next b1).wide b1.size).sp))
 clear b1
 go_wp2_with fail
 refine HJS.out.mono ?_
 rintro e w2 ⟨rfl,hmp,b2⟩
 have HB2:=Xa (HB1.out.trans (b2.mono z1))
 have HMP:=Xa hmp
 have z2:=b2.size
 have hmlt:w1.heap.size<w2.heap.size:=Wy hmp
 obtain ⟨W3,hW3⟩:∃W3,w2.alloc (.cells #[.string s, .int .i64 0, .string ⟨#[10,32]⟩, .map (some w1.heap.size), .slice none 0 0] 65)=W3:=⟨_,rfl⟩
 have hb3:Below w2.heap.size w2 W3:=by rw[←hW3];exact (Below.refl _ _).alloc (Nat.le_refl _) _
 have hx3:W3.heap[w2.heap.size]? =some (.cells #[.string s, .int .i64 0, .string ⟨#[10,32]⟩, .map (some w1.heap.size), .slice none 0 0] 65 (0,0)):=by rw[←hW3];exact heap_alloc_new w2 _
 have hz3:W3.heap.size=w2.heap.size+1:=by rw[←hW3];simp
 have HF3:Hid (FrAt W3 w2.heap.size w1.heap.size (w2.heap.size+1) (fun x=>x=W3.heap.size) s 0 []):=by
  refine ⟨⟨(hb3.block _ hmlt).trans hmp,((HT.out.next HB2.out).tb.next (hb3.mono (by omega))).wide (by omega),by omega,by omega,by omega,by omega⟩, .slice none 0 0,⟨⟨by omega,cellAt hx3 rfl,cellAt hx3 rfl,Lib.frozen_of_heap hx3 1,Nat.zero_le _⟩,fun j hj=> ?_,fun j=>Lib.frozen_of_heap hx3 j⟩,FRow.nil _ _ _⟩
  match j,hj with
  |0,_=>exact cellAt hx3 rfl
  |2,_=>exact cellAt hx3 rfl
  |3,_=>exact cellAt hx3 rfl
  |4,_=>exact cellAt hx3 rfl
  |(k+5),_=>rw[Lib.cell_of_heap hx3];rfl
 have HB3:=Xa (HB2.out.trans (hb3.mono (by omega)))
 have HZ3:=Xa hz3
 have HW3:=Xa hW3
 obtain ⟨WA,hWA⟩:∃WA,W3.alloc (.cells #[.bool false] 4)=WA:=⟨_,rfl⟩
 have hbA:Below W3.heap.size W3 WA:=by rw[←hWA];exact (Below.refl _ _).alloc (Nat.le_refl _) _
 have hxA:WA.heap[W3.heap.size]? =some (.cells #[.bool false] 4 (0,0)):=by rw[←hWA];exact heap_alloc_new W3 _
 have hzA:WA.heap.size=W3.heap.size+1:=by rw[←hWA];simp
 have HXA:=Xa hxA
 have HBA:=Xa hbA
 have HRA:=Xa (Xku (HF3.out.below hbA) (fun x hx=>by omega) (by omega))
 have HKEEP:Hid (∀w',ButF w2.heap.size (w2.heap.size+1) WA w'→w'.heap[W3.heap.size]? =some (.cells #[.bool false] 4 (0,0))):=fun w' hb'=>hb'.box HXA.out (by decide) (by omega)
 rw[←hWA] at HRA
 have HWA:=Xa hWA
 clear hmp b2 hb3 hx3 hz3 hW3 hbA hxA hWA
 cases hrd:rdA s.data.toList with
 | none =>
  have HN:Hid (Jg s.data.toList=none):=by rw[Hid,HFL.out,hrd]
  have HU:=Xa (Xny 36 (.pointer (some ⟨w2.heap.size,0,none⟩)) W3 (fun w'=>ButF w2.heap.size (w2.heap.size+1) WA w') (Xjj _) (HRA.out.mono (fun e w' h=>by
   obtain ⟨h1,⟨v,fs,h2,_⟩|⟨_,h3⟩⟩:=h
   ·rw[hrd] at h2;cases h2
   ·exact ⟨h3,by rw[HWA.out] at h1;exact h1⟩)) (fun w' hw'=>⟨cellAt (HKEEP.out w' hw') rfl,Lib.frozen_of_heap (HKEEP.out w' hw') 0⟩))
  clear hrd
  go_upto_region 4 with fail
  rw[HW3.out]
  go_wp2_with fail
  refine HU.out.mono ?_
  rintro e w5 ⟨rfl,w4,hb4,rfl⟩
  have HB5:Hid (Below w.heap.size w (w4.setCell ⟨W3.heap.size,0,none⟩ (.bool false))):=by
   have h1:Below w.heap.size WA w4:=(hb4.below (by have:=HZ3.out;omega)).mono (by omega)
   exact ((HB3.out.trans (HBA.out.mono (by have:=HZ3.out;omega))).trans h1).setCell (p:=⟨W3.heap.size,0,none⟩) (by show w.heap.size≤W3.heap.size;have:=HZ3.out;omega) _
  clear hb4
  go_wp2_with fail
  go_returns
  exact ⟨HB5.out, .inr ⟨HN.out,rfl⟩⟩
 | some fs =>
  have HU:=Xa (Xlc 36 (.pointer (some ⟨w2.heap.size,0,none⟩)) W3 (fun v w'=>ButF w2.heap.size (w2.heap.size+1) WA w'∧FRow (w2.heap.size+1) (fun x=>x=W3.heap.size) w' v fs∧Y0 fs∧fs.length≤1000) (Xjj _) (HRA.out.mono (fun e w' h=>by
   obtain ⟨h1,⟨v,fs',h2,h3,h4,h5,h6⟩|⟨h2,_⟩⟩:=h
   ·rw[hrd] at h2
    simp only[Option.some.injEq] at h2
    subst h2
    exact ⟨v,h3,by rw[HWA.out] at h1;exact h1,h4,h5,h6⟩
   ·rw[hrd] at h2;cases h2)) (fun v w' hw'=>⟨cellAt (HKEEP.out w' hw'.1) rfl,Lib.frozen_of_heap (HKEEP.out w' hw'.1) 0⟩))
  have HRD:=Xa hrd
  clear hrd
  go_upto_region 4 with fail
  rw[HW3.out]
  go_wp2_with fail
  refine HU.out.mono ?_
  rintro e w5 ⟨v,rfl,w4,⟨hb4,hrow,hall,hlen⟩,rfl⟩
  have hrow5:=Xtx hrow (HKEEP.out w4 hb4) (by decide) rfl 0 (.bool true)
  have HB5:Hid (Below w.heap.size w (w4.setCell ⟨W3.heap.size,0,none⟩ (.bool true))):=by
   have h1:Below w.heap.size WA w4:=(hb4.below (by have:=HZ3.out;omega)).mono (by omega)
   exact ((HB3.out.trans (HBA.out.mono (by have:=HZ3.out;omega))).trans h1).setCell (p:=⟨W3.heap.size,0,none⟩) (by show w.heap.size≤W3.heap.size;have:=HZ3.out;omega) _
  obtain ⟨av,cv,ev⟩:=hrow5.slice
  obtain ⟨lv,hlv⟩:∃l,fs.length=l:=⟨_,rfl⟩
  rw[hlv] at ev
  subst ev
  obtain ⟨W5,hW5⟩:∃W5,w4.setCell ⟨W3.heap.size,0,none⟩ (.bool true)=W5:=⟨_,rfl⟩
  rw[hW5] at hrow5 HB5⊢
  have HROW5:=Xa hrow5
  have hnodes:FNodesAt W5.heap.size W5 (.slice av lv cv) fs:=by
   obtain ⟨C,N,I,hN,_⟩:=hrow5
   exact hN.nodes (by omega) hall
  have HOK:=Xa (K5 W5.heap.size _ fs W5 hnodes (Nat.le_refl _))
  have HALL:=Xa hall
  clear hb4 hrow hall hlen hrow5 hnodes hW5 hlv
  cases hok:okF fs
  ·have HN:Hid (Jg s.data.toList=none):=by rw[Hid,HFL.out,HRD.out];simp only;rw[if_neg (by rw[hok];simp)]
   rw[hok] at HOK
   clear hok
   go_wp2_with fail
   refine HOK.out.mono ?_
   rintro e w6 ⟨rfl,b6⟩
   have HB6:=Xa (HB5.out.trans (b6.mono HB5.out.size))
   clear b6
   go_wp2_with fail
   go_returns
   exact ⟨HB6.out, .inr ⟨HN.out,rfl⟩⟩
  ·have HN:Hid (Jg s.data.toList=some fs):=by rw[Hid,HFL.out,HRD.out];simp only;rw[if_pos hok]
   rw[hok] at HOK
   clear hok
   go_wp2_with fail
   refine HOK.out.mono ?_
   rintro e w6 ⟨rfl,b6⟩
   have HB6:=Xa (HB5.out.trans (b6.mono HB5.out.size))
   have HROW6:=Xa (HROW5.out.below b6)
   clear b6
   go_wp2_with fail
   go_returns
   exact ⟨HB6.out, .inl ⟨_,fs,HN.out,rfl,Xhg HROW6.out (by omega) (fun x hx=>hx.elim),HALL.out⟩⟩

theorem Xy4 {L:List UInt8} (h:L.length≤1000):Jg L=match Up WSp L (L.length+1) 1 [] (skF L 0) with
  |none=>none
  |some (_,fs,q)=>if q=L.length∧okF fs=true then some fs else none:=by
 have h1:=Xlf (Xtg L) (Xvm L) (L.length+1)
 have h2:Jg L=Xc6 (Ys WPr L (L.length+1)) L:=by
  unfold Jg rdA Xc6
  rw[if_neg (by omega)]
  cases Ys WPr L (L.length+1) 1 [] (skF L 0) with
  |none=>rfl
  | some x =>
   obtain ⟨n,fs,q⟩:=x
   simp only
   by_cases e:q=L.length
   ·rw[if_pos e]
    simp only[e,true_and]
   ·rw[if_neg e,if_neg (fun e2=>e e2.1)]
 rw[h2,h1]
 rfl
set_option maxRecDepth 100000 in
theorem Wu {s:ByteArray} {w:World} (hs:s.size≤1048576):
  Calls Tryz.prog 16 #[.string s] w (RdFlt s.data.toList w):=by
 have HLN:=Xa (Xm s)
 by_cases hbig:1000<s.size
 ·have hbig':(1000:Int)<(s.size:Int):=by omega
  have HN:Hid (Jg s.data.toList=none):=by rw[Hid];unfold Jg;rw[if_pos (by rw[HLN.out];exact hbig)]
  go_enter Tryz.func16,Tryz.ntmps16
  go_wp2_with fail
  go_returns
  exact ⟨Below.refl _ _, .inr ⟨HN.out,rfl⟩⟩
 have hbig':¬(1000:Int)<(s.size:Int):=by omega
 have HFL:=Xa (Xy4 (L:=s.data.toList) (by rw[HLN.out];omega))
 obtain ⟨rb,hrb⟩:∃rb,w.heap.size=rb:=⟨_,rfl⟩
 obtain ⟨W1,hW1⟩:∃W1,w.alloc (.cells #[.string s, .int .i64 0, .bool false, .slice none 0 0] 77)=W1:=⟨_,rfl⟩
 have hb1:Below w.heap.size w W1:=by rw[←hW1];exact (Below.refl _ _).alloc (Nat.le_refl _) _
 have hx1:W1.heap[rb]? =some (.cells #[.string s, .int .i64 0, .bool false, .slice none 0 0] 77 (0,0)):=by rw[←hW1,←hrb];exact heap_alloc_new w _
 have hz1:W1.heap.size=rb+1:=by rw[←hW1,←hrb];simp
 have HF1:Hid (LfAt W1 rb (rb+1) (fun _=>False) s 0 false []):=⟨⟨_,hx1,FRow.nil _ _ _,fun x hx=>by cases hx⟩,Nat.zero_le _,by omega,by omega,fun x hx=>hx.elim⟩
 have HLV:=Xa (Xlh (rb:=rb) (base:=rb+1) (s:=s) (by omega) (s.size+1) 1 (fun _=>False) [] 0 W1 (by decide) (by decide) (fun x hx=>hx.elim) HF1.out (by simp) (by omega))
 have HW1:=Xb hW1
 have HZ1:=Xb hz1
 have HB1:=Xb hb1
 have HRB:=Xb hrb
 clear hW1 hb1 hx1 hz1
 go_enter Tryz.func16,Tryz.ntmps16
 go_wp2_with fail
 rw[HW1.out]
 (try rw[HRB.out])
 refine HLV.out.mono ?_
 rintro e w2 ⟨b2,n2,fs,p2,rfl,hp2,hc2⟩
 have HB2:=Xb b2
 have HFIN:Hid (∀w',LB rb (rb+1) (fun _=>False) W1 w'→Below w.heap.size w w'):=fun w' h=>by
  have h1:=h.below (by have:=HZ1.out;omega)
  rw[show min rb (rb+1)=rb by omega] at h1
  have h2:=HB1.out
  rw[HRB.out] at h2⊢
  exact h2.trans h1
 clear b2 HLV
 rcases hc2 with ⟨hr,ha,hl⟩|⟨hr,hl,ha⟩
 rotate_left
 ·have HN:Hid (Jg s.data.toList=none):=by rw[Hid,HFL.out,HLN.out,hr]
  have HBK:=Xb (Yy ha (by omega))
  clear hr ha hl
  go_wp2_with fail
  refine HBK.out.mono ?_
  rintro e w3 ⟨rfl,h3,b3⟩
  obtain ⟨c0,c1,c2⟩:=h3.cells
  have HB3:=Xb (HB2.out.trans b3)
  clear h3 b3
  go_wp2_with fail
  go_returns
  exact ⟨HFIN.out _ HB3.out, .inr ⟨HN.out,rfl⟩⟩
 have HSK0:=Xb (X1 (L:=s.data.toList) (p:=0) (by omega))
 have HALL:=Xb (Xrd (Xvm s.data.toList) (X0z s.data.toList) (by rw[HLN.out];omega) _ _ _ _ Xet (by simp) HSK0.out _ _ _ hr)
 have HR:=Xb hr
 have HBK:=Xb (Yy ha (by omega))
 clear hr ha
 go_wp2_with fail
 refine HBK.out.mono ?_
 rintro e w3 ⟨rfl,h3,b3⟩
 obtain ⟨q,hq⟩:∃q,skF s.data.toList p2=q:=⟨_,rfl⟩
 rw[hq] at h3 HR
 obtain ⟨c0,c1,c2⟩:=h3.cells
 have HB3:=Xb (HB2.out.trans b3)
 have HF3:=Xb h3
 clear b3 hq
 by_cases hqs:q=s.size
 rotate_left
 ·have hqs':¬(q:Int)=(s.size:Int):=by omega
  have dq:((q:Int) !=(s.size:Int))=true:=by simpa using hqs'
  have HN:Hid (Jg s.data.toList=none):=by rw[Hid,HFL.out,HLN.out,HR.out];simp only;rw[if_neg (fun e=>hqs e.1)]
  clear h3
  go_wp2_with fail
  go_returns
  exact ⟨HFIN.out _ HB3.out, .inr ⟨HN.out,rfl⟩⟩
 have dq:((q:Int) !=(s.size:Int))=false:=by simp;omega
 have hqs':(q:Int)=(s.size:Int):=by omega
 obtain ⟨v,hblk,hrow,_⟩:=h3.blk
 obtain ⟨av,cv,ev⟩:=hrow.slice
 obtain ⟨L,hL⟩:∃L,fs.length=L:=⟨_,rfl⟩
 rw[hL] at ev hl
 subst ev
 have c3:w3.cell? ⟨rb,3,none⟩=some (.slice av L cv):=cellAt hblk rfl
 have hnodes:FNodesAt w3.heap.size w3 (.slice av L cv) fs:=by
  obtain ⟨C,N,I,hN,_⟩:=hrow
  exact hN.nodes (by omega) HALL.out
 have HOK:=Xb (Vd w3.heap.size _ fs w3 hnodes (Nat.le_refl _))
 have HROW:=Xb hrow
 have HBLK:=Xb hblk
 have HRS:Hid (Jg s.data.toList=if okF fs=true then some fs else none):=by
  rw[Hid,HFL.out,HLN.out,HR.out];simp only
  by_cases e:okF fs=true
  ·rw[if_pos e,if_pos ⟨hqs,e⟩]
  ·rw[if_neg e,if_neg (fun e2=>e e2.2)]
 clear h3 hnodes hrow hblk hL hqs
 cases hok:okF fs
 ·have HN:Hid (Jg s.data.toList=none):=by rw[Hid,HRS.out,if_neg (by rw[hok];simp)]
  rw[hok] at HOK
  clear hok
  go_wp2_with fail
  refine HOK.out.mono ?_
  rintro e w6 ⟨rfl,b6⟩
  have HB6:=Xb (HB3.out.trans (LB.of_below b6))
  clear b6
  go_wp2_with fail
  go_returns
  exact ⟨HFIN.out _ HB6.out, .inr ⟨HN.out,rfl⟩⟩
 ·have HN:Hid (Jg s.data.toList=some fs):=by rw[Hid,HRS.out,if_pos hok]
  rw[hok] at HOK
  clear hok
  go_wp2_with fail
  refine HOK.out.mono ?_
  rintro e w6 ⟨rfl,b6⟩
  have HB6:=Xb (HB3.out.trans (LB.of_below b6))
  have HROW6:=Xb (HROW.out.below b6)
  have hb6:w6.heap[rb]? =some (.cells #[.string s, .int .i64 (q:Int), .bool false, .slice av L cv] 77 (0,0)):=(b6.block rb (ltH HBLK.out)).trans HBLK.out
  have d3:w6.cell? ⟨rb,3,none⟩=some (.slice av L cv):=cellAt hb6 rfl
  clear b6 hb6
  go_wp2_with fail
  go_returns
  exact ⟨HFIN.out _ HB6.out, .inl ⟨_,fs,HN.out,rfl,Xhg HROW6.out (by have:=HRB.out;omega) (fun x hx=>hx.elim),HALL.out⟩⟩

def Xbj (L:List UInt8):List FN:=(Jg L).getD []
def Xyu (L:List UInt8) (w:World) (e:Ending) (w':World):Prop:=Below w.heap.size w w'∧∃v,e= .returned (.tuple #[v, .bool (Jg L).isSome])∧FRow w.heap.size (fun _=>False) w' v (Xbj L)
theorem RdFlt.n {L:List UInt8} {w w':World} {e:Ending} (h:RdFlt L w e w'):Xyu L w e w'∧Y0 (Xbj L):=by
 obtain ⟨hb,⟨v,fs,h1,h2,h3,h4⟩|⟨h1,h2⟩⟩:=h
 ·refine ⟨⟨hb,v,by rw[h1];exact h2, ?_⟩, ?_⟩
  ·have:Xbj L=fs:=by unfold Xbj;rw[h1];rfl
   rw[this];exact h3
  ·have:Xbj L=fs:=by unfold Xbj;rw[h1];rfl
   rw[this];exact h4
 ·have:Xbj L= []:=by unfold Xbj;rw[h1];rfl
  refine ⟨⟨hb,_,by rw[h1];exact h2,by rw[this];exact FRow.nil _ _ _⟩,by rw[this];exact Xet⟩
theorem FRow.nodes {base:Nat} {Z:Nat→Prop} {w:World} {v:Value} {fs:List FN} (h:FRow base Z w v fs) (hn:fs.length≤1048576) (hf:Y0 fs):FNodesAt w.heap.size w v fs:=by
 obtain ⟨C,N,I,hN,_⟩:=h
 exact hN.nodes hn hf
theorem Below.nextF {A:Nat} {a b c:World} (h:Below A a b) (h2:Below b.heap.size b c) (hA:A≤b.heap.size):Below A a c:=h.trans (h2.mono hA)

theorem Xho {fs:List FN} (hok:okF fs=true) (hl:(Yz fs).length≤1000):Jg (Yz fs)=some fs:=by
 have h:=Xld hok (f:=(Yz fs).length+1) (by omega)
 unfold Jg rdA
 rw[if_neg (by omega)]
 unfold Xc6 at h
 split at h
 ·cases h
 ·rename_i e
  rw[e]
  split at h
  ·rename_i h2
   cases h
   simp only[]
   rw[if_pos h2.1]
   simp only[]
   rw[if_pos hok]
  ·cases h
theorem Xli {fs:List FN} (hok:okF fs=true):(Yz fs).length≤24600:=by
 obtain ⟨o1,_⟩:=Kd hok
 unfold Yz
 rw[if_pos hok,show ((fs.length:Int)-1)=((fs.length-1:Nat):Int) by omega]
 exact Xdu hok _ _ _ (by omega) (by omega)
theorem Xmg {L:List UInt8} {fs:List FN} (h:Jg L=some fs):okF fs=true:=by
 unfold Jg at h
 split at h
 ·cases h
 ·split at h
  ·cases h
  ·split at h
   ·rename_i h2;cases h;exact h2
   ·cases h
end Go.Proofs.YtehihemfepbmfaaGreatDoor
