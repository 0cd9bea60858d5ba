import Derived.Test.YtehihemfepbmfaaGreatDoorMkG
import Derived.Test.YtehihemfepbmfaaGreatDoorSgQ
import Derived.Test.YtehihemfepbmfaaGreatDoorFtH
namespace Go.Proofs.YtehihemfepbmfaaGreatDoor
set_option maxHeartbeats 6400000
open Go.RowKit
set_option linter.unusedSimpArgs false
set_option linter.unusedVariables false
set_option linter.unusedSectionVars false
theorem Xtu {R:RD} {L:List UInt8} {fs:List FN} {p:Nat} {k:Int→List FN→Nat→RF}:(Xy (R 1 fs p) fun n fs q=>Yj L q 93 fun q=>k n fs q)=Xy (Zl R L 93 fs p) k:=by
 unfold Zl
 cases R 1 fs p with
 |none=>rfl
 | some y =>
  obtain ⟨a,f1,q1⟩:=y
  rw[X2,X2]
  unfold Yj
  split<;>rfl
theorem Xtv {L:List UInt8} {q:Nat} (h1:Xe L q 45=false) (h2:K7 L q=false):Q6 (Jb L q)=none:=by
 have hn:Yc L q=q:=by unfold Yc;rw[h1];rfl
 have hd:dgJ L q=q:=Q1 (fun e=>by
  unfold K7 at h2
  rw[decide_eq_true e.1] at h2
  have:=e.2
  simp only[Bool.true_and] at h2
  unfold Zn at this
  unfold Zk at h2
  simp at this h2
  omega)
 have:Jb L q= []:=by unfold Jb;rw[hn,hd,Nat.sub_self];rfl
 rw[this];rfl
section
variable {R:RD} {f rb base:Nat} {s:ByteArray} (HR:Xgj R f rb base s)
include HR
set_option maxRecDepth 100000 in
theorem Xnp {p q:Nat} {Z:Nat→Prop} {fs:List FN} {w:World} (h:LfAt w rb base Z s p false fs) (hZ:∀x,Z x→x<w.heap.size) (hs:s.size≤1000) (hl:fs.length≤40) (hf:s.size≤p+f) (hq:skF s.data.toList p=q) (a46:Xe s.data.toList q 46=true):
  Calls Tryz.prog 78 #[.pointer (some ⟨rb,0,none⟩)] w (LfOr (Xs WSp R s.data.toList fs q) rb base Z s p w):=by
 have HLN:=Xa (Xm s)
 have HF0:=Xa h
 have HB0:Hid (LB rb base Z w w):=LB.refl _ _ _ _
 have HZ:Hid (∀x,Z x→x<w.heap.size):=hZ
 have HHR:=Xa HR
 have hpq:p≤q:=by rw[←hq];exact Xw _ _
 have HQQ:Hid (skF s.data.toList q=q):=by rw[Hid,←hq];exact Yh _ _
 have HPQ:=Xa hq
 have HA46:=Xa a46
 have HE:Hid (Xs WSp R s.data.toList fs q=Ym WSp s.data.toList fs (q+1)):=by rw[Hid];unfold Xs;rw[if_pos a46]
 clear a46
 clear h hZ HR hq
 go_enter Tryz.func78,Tryz.ntmps78
 have hi0:=Zu 46 HF0.out (by omega)
 rw[HPQ.out,show (46:UInt8).toNat=46 from rfl,HA46.out] at hi0
 have HI0:=Xa hi0
 clear hi0
 go_wp2_with fail
 refine HI0.out.mono ?_
 rintro e w1 ⟨rfl,h,b⟩
 have h9:LfAt w1 rb base Z s (q+1) false fs:=h
 have HF1:=Xa h9
 have HB1:=Xa (HB0.out.trans b)
 clear h h9 b HI0
 have HZ1:Hid (∀x,Z x→x<w1.heap.size):=fun x hx=>Nat.lt_of_lt_of_le (HZ.out x hx) HB1.out.size
 have HD:=Xa (Xqy HF1.out (by omega) hl)
 go_wp2_with fail
 refine HD.out.mono ?_
 intro e w9 h9
 obtain ⟨n9,rfl,b9,s9,hn9⟩:=h9.st
 have HO9:=Xa h9
 clear h9 b9 s9 hn9
 go_wp2_with fail
 go_ret
 exact LfOr.of HE.out (LfOr.after HB1.out (by omega) HO9.out)
set_option maxRecDepth 100000 in
theorem Xhz {p q:Nat} {Z:Nat→Prop} {fs:List FN} {w:World} (h:LfAt w rb base Z s p false fs) (hZ:∀x,Z x→x<w.heap.size) (hs:s.size≤1000) (hl:fs.length≤40) (hf:s.size≤p+f) (hq:skF s.data.toList p=q) (a46:Xe s.data.toList q 46=false) (a40:Xe s.data.toList q 40=true):
  Calls Tryz.prog 78 #[.pointer (some ⟨rb,0,none⟩)] w (LfOr (Xs WSp R s.data.toList fs q) rb base Z s p w):=by
 have HLN:=Xa (Xm s)
 have HF0:=Xa h
 have HB0:Hid (LB rb base Z w w):=LB.refl _ _ _ _
 have HZ:Hid (∀x,Z x→x<w.heap.size):=hZ
 have HHR:=Xa HR
 have hpq:p≤q:=by rw[←hq];exact Xw _ _
 have HQQ:Hid (skF s.data.toList q=q):=by rw[Hid,←hq];exact Yh _ _
 have HPQ:=Xa hq
 have HA46:=Xa a46
 have HA40:=Xa a40
 have HE:Hid (Xs WSp R s.data.toList fs q=Zl R s.data.toList 41 fs (skF s.data.toList (q+1))):=by rw[Hid];unfold Xs;rw[if_neg (by rw[a46];decide),if_pos a40]
 clear a46 a40
 clear h hZ HR hq
 go_enter Tryz.func78,Tryz.ntmps78
 have hi0:=Zu 46 HF0.out (by omega)
 rw[HPQ.out,show (46:UInt8).toNat=46 from rfl,HA46.out] at hi0
 have HI0:=Xa hi0
 clear hi0
 go_wp2_with fail
 refine HI0.out.mono ?_
 rintro e w1 ⟨rfl,h,b⟩
 have h9:LfAt w1 rb base Z s q false fs:=h
 have HF1:=Xa h9
 have HB1:=Xa (HB0.out.trans b)
 clear h h9 b HI0
 have hi1:=Zu 40 HF1.out (by omega)
 rw[HQQ.out,show (40:UInt8).toNat=40 from rfl,HA40.out] at hi1
 have HI1:=Xa hi1
 clear hi1
 go_wp2_with fail
 refine HI1.out.mono ?_
 rintro e w2 ⟨rfl,h,b⟩
 have h9:LfAt w2 rb base Z s (q+1) false fs:=h
 have HF2:=Xa h9
 have HB2:=Xa (HB1.out.trans b)
 clear h h9 b HI1
 have HZ2:Hid (∀x,Z x→x<w2.heap.size):=fun x hx=>Nat.lt_of_lt_of_le (HZ.out x hx) HB2.out.size
 have HL:=Xa (HHR.out 1 Z fs (q+1) w2 (by decide) (by decide) HZ2.out HF2.out hl (by omega))
 skip
 go_wp2_with fail
 refine HL.out.mono ?_
 intro e w11 h11
 obtain ⟨a,rfl,b11,s11,hn⟩:=h11.st
 have HB11:=Xa (HB2.out.trans b11)
 have HZ11:Hid (∀x,Z x→x<w11.heap.size):=fun x hx=>Nat.lt_of_lt_of_le (HZ2.out x hx) b11.size
 have HNA:=Xa hn
 obtain ⟨ca,hca⟩:∃ca:CF,(R 1 fs (skF s.data.toList (q+1))).map (·.2)=ca:=⟨_,rfl⟩
 rw[hca] at s11
 have HCA:=Xa hca
 have HW:=Xa (Xbs 41 (by omega) s11)
 clear h11 b11 s11 hn hca
 go_wp2_with fail
 refine HW.out.mono ?_
 rintro e w12 ⟨rfl,b12,s12⟩
 have HB12:=Xa (HB11.out.trans b12)
 have HZ12:Hid (∀x,Z x→x<w12.heap.size):=fun x hx=>Nat.lt_of_lt_of_le (HZ11.out x hx) b12.size
 obtain ⟨se,hse⟩:∃se:CF,(ca.bind fun x=>if Xe s.data.toList x.2 (41:UInt8).toNat=true then some (x.1,skF s.data.toList (x.2+1)) else none)=se:=⟨_,rfl⟩
 rw[hse] at s12
 have HSE:=Xa hse
 have HS12:=Xa s12
 clear b12 s12 hse
 go_wp2_with fail
 go_ret
 exact LfSt.or HS12.out (by omega) HB12.out (HE.out.trans (Xb9 HCA.out.symm HNA.out HSE.out.symm))
set_option maxRecDepth 100000 in
theorem Xk5 {p q:Nat} {Z:Nat→Prop} {fs:List FN} {w:World} (h:LfAt w rb base Z s p false fs) (hZ:∀x,Z x→x<w.heap.size) (hs:s.size≤1000) (hl:fs.length≤40) (hf:s.size≤p+f) (hq:skF s.data.toList p=q) (a46:Xe s.data.toList q 46=false) (a40:Xe s.data.toList q 40=false) (a91:Xe s.data.toList q 91=true):
  Calls Tryz.prog 78 #[.pointer (some ⟨rb,0,none⟩)] w (LfOr (Xs WSp R s.data.toList fs q) rb base Z s p w):=by
 have HLN:=Xa (Xm s)
 have HF0:=Xa h
 have HB0:Hid (LB rb base Z w w):=LB.refl _ _ _ _
 have HZ:Hid (∀x,Z x→x<w.heap.size):=hZ
 have HHR:=Xa HR
 have hpq:p≤q:=by rw[←hq];exact Xw _ _
 have HQQ:Hid (skF s.data.toList q=q):=by rw[Hid,←hq];exact Yh _ _
 have HPQ:=Xa hq
 have HA46:=Xa a46
 have HA40:=Xa a40
 have HA91:=Xa a91
 have HE:Hid (Xs WSp R s.data.toList fs q=Jo WSp R s.data.toList fs (skF s.data.toList (q+1))):=by rw[Hid];unfold Xs;rw[if_neg (by rw[a46];decide),if_neg (by rw[a40];decide),if_pos a91]
 obtain ⟨q2,hq2⟩:∃q2,skF s.data.toList (q+1)=q2:=⟨_,rfl⟩
 have hq2l:q+1≤q2:=by rw[←hq2];exact Xw _ _
 have HQ2:Hid (skF s.data.toList q2=q2):=by rw[Hid,←hq2];exact Yh _ _
 rw[hq2] at HE
 have HPQ2:=Xa hq2
 clear hq2
 clear a46 a40 a91
 clear h hZ HR hq
 go_enter Tryz.func78,Tryz.ntmps78
 have hi0:=Zu 46 HF0.out (by omega)
 rw[HPQ.out,show (46:UInt8).toNat=46 from rfl,HA46.out] at hi0
 have HI0:=Xa hi0
 clear hi0
 go_wp2_with fail
 refine HI0.out.mono ?_
 rintro e w1 ⟨rfl,h,b⟩
 have h9:LfAt w1 rb base Z s q false fs:=h
 have HF1:=Xa h9
 have HB1:=Xa (HB0.out.trans b)
 clear h h9 b HI0
 have hi1:=Zu 40 HF1.out (by omega)
 rw[HQQ.out,show (40:UInt8).toNat=40 from rfl,HA40.out] at hi1
 have HI1:=Xa hi1
 clear hi1
 go_wp2_with fail
 refine HI1.out.mono ?_
 rintro e w2 ⟨rfl,h,b⟩
 have h9:LfAt w2 rb base Z s q false fs:=h
 have HF2:=Xa h9
 have HB2:=Xa (HB1.out.trans b)
 clear h h9 b HI1
 have hi2:=Zu 91 HF2.out (by omega)
 rw[HQQ.out,show (91:UInt8).toNat=91 from rfl,HA91.out] at hi2
 have HI2:=Xa hi2
 clear hi2
 go_wp2_with fail
 refine HI2.out.mono ?_
 rintro e w3 ⟨rfl,h,b⟩
 have h9:LfAt w3 rb base Z s (q+1) false fs:=h
 have HF3:=Xa h9
 have HB3:=Xa (HB2.out.trans b)
 clear h h9 b HI2
 have HZ3:Hid (∀x,Z x→x<w3.heap.size):=fun x hx=>Nat.lt_of_lt_of_le (HZ.out x hx) HB3.out.size
 have hi:=Zu 93 HF3.out (by omega)
 rw[HPQ2.out,show (93:UInt8).toNat=93 from rfl] at hi
 cases a93:Xe s.data.toList q2 93
 rotate_left
 ·have HL:Hid (Xs WSp R s.data.toList fs q=Xu WSp (Qw 8) fs (skF s.data.toList (q2+1))):=by rw[Hid,HE.out];unfold Jo;rw[if_pos a93]
  rw[a93] at hi
  have HI:=Xa hi
  clear hi a93
  go_wp2_with fail
  refine HI.out.mono ?_
  rintro e w4 ⟨rfl,h,b⟩
  have h9:LfAt w4 rb base Z s (q2+1) false fs:=h
  have HA:=Xa (Qn h9 (by omega) 8 ByteArray.empty 0)
  have HB4:=Xa (HB3.out.trans b)
  clear h h9 b
  go_wp2_with fail
  refine HA.out.mono ?_
  rintro e w9 ⟨rfl,h9,b9⟩
  have HF9:=Xa h9
  have HB9:=Xa (HB4.out.trans b9)
  clear h9 b9
  go_wp2_with fail
  go_ret
  exact LfOr.of HL.out (LfOr.add HF9.out hl (by omega) HB9.out)
 have HEL:Hid (Xs WSp R s.data.toList fs q=Xy (Zl R s.data.toList 93 fs q2) fun n fs q=>Xu WSp (Yw 8 [n]) fs q):=by rw[Hid,HE.out];unfold Jo;rw[if_neg (by rw[a93];decide)];exact Xtu
 rw[a93] at hi
 have HI:=Xa hi
 clear hi a93
 go_wp2_with fail
 refine HI.out.mono ?_
 rintro e w4 ⟨rfl,h,b⟩
 have h9:LfAt w4 rb base Z s q2 false fs:=h
 have HF4:=Xa h9
 have HB4:=Xa (HB3.out.trans b)
 have HZ4:Hid (∀x,Z x→x<w4.heap.size):=fun x hx=>Nat.lt_of_lt_of_le (HZ3.out x hx) b.size
 clear h h9 b
 have HL:=Xa (HHR.out 1 Z fs q2 w4 (by decide) (by decide) HZ4.out HF4.out hl (by omega))
 rw[HQ2.out] at HL
 go_wp2_with fail
 refine HL.out.mono ?_
 intro e w11 h11
 obtain ⟨a,rfl,b11,s11,hn⟩:=h11.st
 have HB11:=Xa (HB4.out.trans b11)
 have HZ11:Hid (∀x,Z x→x<w11.heap.size):=fun x hx=>Nat.lt_of_lt_of_le (HZ4.out x hx) b11.size
 have HNA:=Xa hn
 obtain ⟨ca,hca⟩:∃ca:CF,(R 1 fs q2).map (·.2)=ca:=⟨_,rfl⟩
 rw[hca] at s11
 have HCA:=Xa hca
 have HW:=Xa (Xbs 93 (by omega) s11)
 clear h11 b11 s11 hn hca
 go_wp2_with fail
 refine HW.out.mono ?_
 rintro e w12 ⟨rfl,b12,s12⟩
 have HB12:=Xa (HB11.out.trans b12)
 have HZ12:Hid (∀x,Z x→x<w12.heap.size):=fun x hx=>Nat.lt_of_lt_of_le (HZ11.out x hx) b12.size
 obtain ⟨se,hse⟩:∃se:CF,(ca.bind fun x=>if Xe s.data.toList x.2 (93:UInt8).toNat=true then some (x.1,skF s.data.toList (x.2+1)) else none)=se:=⟨_,rfl⟩
 rw[hse] at s12
 have HSE:=Xa hse
 have HS12:=Xa s12
 clear b12 s12 hse
 have HA:=Xa (Xgl (p0:=p) HS12.out (by omega) (by omega) HZ12.out 8 [a] (by simp))
 go_wp2_with fail
 refine HA.out.mono ?_
 intro e w9 h9
 obtain ⟨n9,rfl,b9,s9,hn9⟩:=h9.st
 have HO9:=Xa h9
 clear h9 b9 s9 hn9
 go_wp2_with fail
 go_ret
 refine LfOr.of ?_ (LfOr.after HB12.out (Nat.le_refl _) HO9.out)
 rw[HEL.out,Xb9 (c:=93) HCA.out.symm HNA.out HSE.out.symm]
 exact Xhf
set_option maxRecDepth 100000 in
theorem Xnq {p q:Nat} {Z:Nat→Prop} {fs:List FN} {w:World} (h:LfAt w rb base Z s p false fs) (hZ:∀x,Z x→x<w.heap.size) (hs:s.size≤1000) (hl:fs.length≤40) (hf:s.size≤p+f) (hq:skF s.data.toList p=q) (a46:Xe s.data.toList q 46=false) (a40:Xe s.data.toList q 40=false) (a91:Xe s.data.toList q 91=false) (a123:Xe s.data.toList q 123=true):
  Calls Tryz.prog 78 #[.pointer (some ⟨rb,0,none⟩)] w (LfOr (Xs WSp R s.data.toList fs q) rb base Z s p w):=by
 have HLN:=Xa (Xm s)
 have HF0:=Xa h
 have HB0:Hid (LB rb base Z w w):=LB.refl _ _ _ _
 have HZ:Hid (∀x,Z x→x<w.heap.size):=hZ
 have HHR:=Xa HR
 have hpq:p≤q:=by rw[←hq];exact Xw _ _
 have HQQ:Hid (skF s.data.toList q=q):=by rw[Hid,←hq];exact Yh _ _
 have HPQ:=Xa hq
 have HA46:=Xa a46
 have HA40:=Xa a40
 have HA91:=Xa a91
 have HA123:=Xa a123
 have HE:Hid (Xs WSp R s.data.toList fs q=Jf WSp R s.data.toList fs (skF s.data.toList (q+1))):=by rw[Hid];unfold Xs;rw[if_neg (by rw[a46];decide),if_neg (by rw[a40];decide),if_neg (by rw[a91];decide),if_pos a123]
 clear a46 a40 a91 a123
 clear h hZ HR hq
 go_enter Tryz.func78,Tryz.ntmps78
 have hi0:=Zu 46 HF0.out (by omega)
 rw[HPQ.out,show (46:UInt8).toNat=46 from rfl,HA46.out] at hi0
 have HI0:=Xa hi0
 clear hi0
 go_wp2_with fail
 refine HI0.out.mono ?_
 rintro e w1 ⟨rfl,h,b⟩
 have h9:LfAt w1 rb base Z s q false fs:=h
 have HF1:=Xa h9
 have HB1:=Xa (HB0.out.trans b)
 clear h h9 b HI0
 have hi1:=Zu 40 HF1.out (by omega)
 rw[HQQ.out,show (40:UInt8).toNat=40 from rfl,HA40.out] at hi1
 have HI1:=Xa hi1
 clear hi1
 go_wp2_with fail
 refine HI1.out.mono ?_
 rintro e w2 ⟨rfl,h,b⟩
 have h9:LfAt w2 rb base Z s q false fs:=h
 have HF2:=Xa h9
 have HB2:=Xa (HB1.out.trans b)
 clear h h9 b HI1
 have hi2:=Zu 91 HF2.out (by omega)
 rw[HQQ.out,show (91:UInt8).toNat=91 from rfl,HA91.out] at hi2
 have HI2:=Xa hi2
 clear hi2
 go_wp2_with fail
 refine HI2.out.mono ?_
 rintro e w3 ⟨rfl,h,b⟩
 have h9:LfAt w3 rb base Z s q false fs:=h
 have HF3:=Xa h9
 have HB3:=Xa (HB2.out.trans b)
 clear h h9 b HI2
 have hi3:=Zu 123 HF3.out (by omega)
 rw[HQQ.out,show (123:UInt8).toNat=123 from rfl,HA123.out] at hi3
 have HI3:=Xa hi3
 clear hi3
 go_wp2_with fail
 refine HI3.out.mono ?_
 rintro e w4 ⟨rfl,h,b⟩
 have h9:LfAt w4 rb base Z s (q+1) false fs:=h
 have HF4:=Xa h9
 have HB4:=Xa (HB3.out.trans b)
 clear h h9 b HI3
 have HZ4:Hid (∀x,Z x→x<w4.heap.size):=fun x hx=>Nat.lt_of_lt_of_le (HZ.out x hx) HB4.out.size
 have HD:=Xa (Xpx HHR.out HF4.out HZ4.out (by omega) hl (by omega))
 go_wp2_with fail
 refine HD.out.mono ?_
 intro e w9 h9
 obtain ⟨n9,rfl,b9,s9,hn9⟩:=h9.st
 have HO9:=Xa h9
 clear h9 b9 s9 hn9
 go_wp2_with fail
 go_ret
 exact LfOr.of HE.out (LfOr.after HB4.out (by omega) HO9.out)
set_option maxRecDepth 100000 in
theorem Xk6 {p q:Nat} {Z:Nat→Prop} {fs:List FN} {w:World} (h:LfAt w rb base Z s p false fs) (hZ:∀x,Z x→x<w.heap.size) (hs:s.size≤1000) (hl:fs.length≤40) (hf:s.size≤p+f) (hq:skF s.data.toList p=q) (a46:Xe s.data.toList q 46=false) (a40:Xe s.data.toList q 40=false) (a91:Xe s.data.toList q 91=false) (a123:Xe s.data.toList q 123=false) (a34:Xe s.data.toList q 34=true):
  Calls Tryz.prog 78 #[.pointer (some ⟨rb,0,none⟩)] w (LfOr (Xs WSp R s.data.toList fs q) rb base Z s p w):=by
 have HLN:=Xa (Xm s)
 have HF0:=Xa h
 have HB0:Hid (LB rb base Z w w):=LB.refl _ _ _ _
 have HZ:Hid (∀x,Z x→x<w.heap.size):=hZ
 have HHR:=Xa HR
 have hpq:p≤q:=by rw[←hq];exact Xw _ _
 have HQQ:Hid (skF s.data.toList q=q):=by rw[Hid,←hq];exact Yh _ _
 have HPQ:=Xa hq
 have HA46:=Xa a46
 have HA40:=Xa a40
 have HA91:=Xa a91
 have HA123:=Xa a123
 have HA34:=Xa a34
 have HE:Hid (Xs WSp R s.data.toList fs q=match txS s.data.toList (q+1) with
  |none=>none
  |some (t,q)=>Xu WSp (Zt ⟨4,0,txt t,[],[]⟩) fs (skF s.data.toList q)):=by rw[Hid];unfold Xs;rw[if_neg (by rw[a46];decide),if_neg (by rw[a40];decide),if_neg (by rw[a91];decide),if_neg (by rw[a123];decide),if_pos a34];rfl
 clear a46 a40 a91 a123 a34
 clear h hZ HR hq
 go_enter Tryz.func78,Tryz.ntmps78
 have hi0:=Zu 46 HF0.out (by omega)
 rw[HPQ.out,show (46:UInt8).toNat=46 from rfl,HA46.out] at hi0
 have HI0:=Xa hi0
 clear hi0
 go_wp2_with fail
 refine HI0.out.mono ?_
 rintro e w1 ⟨rfl,h,b⟩
 have h9:LfAt w1 rb base Z s q false fs:=h
 have HF1:=Xa h9
 have HB1:=Xa (HB0.out.trans b)
 clear h h9 b HI0
 have hi1:=Zu 40 HF1.out (by omega)
 rw[HQQ.out,show (40:UInt8).toNat=40 from rfl,HA40.out] at hi1
 have HI1:=Xa hi1
 clear hi1
 go_wp2_with fail
 refine HI1.out.mono ?_
 rintro e w2 ⟨rfl,h,b⟩
 have h9:LfAt w2 rb base Z s q false fs:=h
 have HF2:=Xa h9
 have HB2:=Xa (HB1.out.trans b)
 clear h h9 b HI1
 have hi2:=Zu 91 HF2.out (by omega)
 rw[HQQ.out,show (91:UInt8).toNat=91 from rfl,HA91.out] at hi2
 have HI2:=Xa hi2
 clear hi2
 go_wp2_with fail
 refine HI2.out.mono ?_
 rintro e w3 ⟨rfl,h,b⟩
 have h9:LfAt w3 rb base Z s q false fs:=h
 have HF3:=Xa h9
 have HB3:=Xa (HB2.out.trans b)
 clear h h9 b HI2
 have hi3:=Zu 123 HF3.out (by omega)
 rw[HQQ.out,show (123:UInt8).toNat=123 from rfl,HA123.out] at hi3
 have HI3:=Xa hi3
 clear hi3
 go_wp2_with fail
 refine HI3.out.mono ?_
 rintro e w4 ⟨rfl,h,b⟩
 have h9:LfAt w4 rb base Z s q false fs:=h
 have HF4:=Xa h9
 have HB4:=Xa (HB3.out.trans b)
 clear h h9 b HI3
 have hi4:=Zu 34 HF4.out (by omega)
 rw[HQQ.out,show (34:UInt8).toNat=34 from rfl,HA34.out] at hi4
 have HI4:=Xa hi4
 clear hi4
 go_wp2_with fail
 refine HI4.out.mono ?_
 rintro e w5 ⟨rfl,h,b⟩
 have h9:LfAt w5 rb base Z s (q+1) false fs:=h
 have HF5:=Xa h9
 have HB5:=Xa (HB4.out.trans b)
 clear h h9 b HI4
 have HZ5:Hid (∀x,Z x→x<w5.heap.size):=fun x hx=>Nat.lt_of_lt_of_le (HZ.out x hx) HB5.out.size
 have f1:=HF5.out.free 1
 have f2:=HF5.out.free 2
 have lt5:=HF5.out.lt
 have le5:=HF5.out.le
 have e1:((q+1:Nat):Int)=(q:Int)+1:=by omega
 have hc5:=HF5.out.cells
 rw[e1] at hc5
 obtain ⟨c0,c1,c2⟩:=hc5
 obtain ⟨W6,hW6⟩:∃W6,(w5.alloc (.cells #[.string s, .int .i64 ((q:Int)+1), .bool false, .int .i64 0] 149)).drew=W6:=⟨_,rfl⟩
 obtain ⟨jb,hjb⟩:∃jb,w5.heap.size=jb:=⟨_,rfl⟩
 have hb6:Below w5.heap.size w5 W6:=by rw[←hW6];exact ((Below.refl _ _).alloc (Nat.le_refl _) _).drew
 have HJ6:Hid (SjAt W6 jb s (q+1) false 0):=by
  rw[Hid,←hW6,←hjb]
  refine ⟨?_,le5,by omega⟩
  rw[e1]
  exact heap_alloc_new w5 _
 have HBL6:=Xb hb6
 have HJB:=Xb hjb
 have HQU:=Xb (Xkx HJ6.out (by omega))
 have HW6:=Xb hW6
 have HTX:Hid (TxNo s.data.toList (q+1)→Xs WSp R s.data.toList fs q=none):=fun hno=>by
  rw[HE.out]
  have:txS s.data.toList (q+1)=none:=by
   unfold txS
   cases e:txJ s.data.toList (q+1) with
   |none=>rfl
   | some x =>
    obtain ⟨l,z⟩:=x
    have:=hno l z e
    simp only
    rw[if_neg (by omega)]
  rw[this]
 clear hb6 hW6
 go_wp2_with fail
 go_region
 rw[HW6.out]
 (try rw[HJB.out])
 clear c0 c1 c2
 go_wp2_with fail
 refine HQU.out.mono ?_
 rintro e w7 ⟨b7,t,z,bb,rfl,ht60,hqz,hj7,hor⟩
 have hb57:Below w5.heap.size w5 w7:=by
  refine ⟨b7.os.trans HBL6.out.os,b7.tape.trans HBL6.out.tape,b7.output.trans HBL6.out.output,Nat.le_trans HBL6.out.size b7.size,fun c hc=> ?_⟩
  exact (b7.block c (Nat.lt_of_lt_of_le hc HBL6.out.size) (by have:=HJB.out;omega)).trans (HBL6.out.block c hc)
 have HF7:=Xb (HF5.out.below hb57)
 have HB7:=Xb (HB5.out.trans (LB.of_below hb57))
 have HZ7:Hid (∀x,Z x→x<w7.heap.size):=fun x hx=>Nat.lt_of_lt_of_le (HZ5.out x hx) hb57.size
 have hzs:=hj7.le
 obtain ⟨j0,j1,j2,j3⟩:=hj7.cells
 obtain ⟨c0,c1,c2⟩:=HF7.out.cells
 have g1:=HF7.out.free 1
 have g2:=HF7.out.free 2
 have hjr:jb≠rb:=by have:=HJB.out;omega
 have HBX:Hid (Below w5.heap.size w5 w7):=hb57
 have n1:w7.cell? ⟨jb,1,none⟩=some (.int .i64 (z:Int)):=j1
 cases hbb:bb
 ·subst hbb
  have HY:Hid (Xs WSp R s.data.toList fs q=Xu WSp (Zt ⟨4,0,t,[],[]⟩) fs (skF s.data.toList z)):=by
   rcases hor with ⟨l,h1,h2,h3,_⟩|⟨h1,_⟩
   ·rw[Hid,HE.out]
    have:txS s.data.toList (q+1)=some (l,z):=by unfold txS;rw[h1];simp only;rw[if_pos h2]
    rw[this,h3]
   ·cases h1
  obtain ⟨W8,hW8⟩:∃W8,(w7.setCell ⟨rb,2,none⟩ (.bool false)).setCell ⟨rb,1,none⟩ (.int .i64 (z:Int))=W8:=⟨_,rfl⟩
  have HF8:Hid (LfAt W8 rb base Z s z false fs):=by rw[Hid,←hW8];exact (HF7.out.setB false).setP hzs
  have HB8:Hid (LB rb base Z w W8):=by rw[Hid,←hW8];exact (HB7.out.trans (LB.of_set _ _)).trans (LB.of_set _ _)
  have HZ8:Hid (∀x,Z x→x<W8.heap.size):=fun x hx=>by rw[←hW8];simpa using HZ7.out x hx
  have HW8:=Xb hW8
  clear hor hj7 b7 hb57 hW8 HQU
  go_wp2_with fail
  rw[HW8.out]
  refine (Xhs t W8).mono ?_
  rintro e w8 ⟨rfl,hn,b8⟩
  have HC:=Xa (Va HF8.out HZ8.out (by omega) b8 hn)
  clear hn b8
  go_wp2_with fail
  refine HC.out.mono ?_
  rintro e w9 ⟨rfl,h9,b9⟩
  have HF9:=Xa h9
  have HB9:=Xa (HB8.out.trans b9)
  clear h9 b9
  go_wp2_with fail
  go_ret
  exact LfOr.of HY.out (LfOr.add HF9.out hl (by omega) HB9.out)
 ·subst hbb
  have HY:Hid (Xs WSp R s.data.toList fs q=none):=by
   rcases hor with ⟨_,_,_,_,h1⟩|⟨_,h1⟩
   ·cases h1
   ·exact HTX.out h1
  obtain ⟨W8,hW8⟩:∃W8,(w7.setCell ⟨rb,2,none⟩ (.bool true)).setCell ⟨rb,1,none⟩ (.int .i64 (z:Int))=W8:=⟨_,rfl⟩
  have HF8:Hid (LfAt W8 rb base Z s z true fs):=by rw[Hid,←hW8];exact (HF7.out.setB true).setP hzs
  have HB8:Hid (LB rb base Z w W8):=by rw[Hid,←hW8];exact (HB7.out.trans (LB.of_set _ _)).trans (LB.of_set _ _)
  have HZ8:Hid (∀x,Z x→x<W8.heap.size):=fun x hx=>by rw[←hW8];simpa using HZ7.out x hx
  have HW8:=Xb hW8
  clear hor hj7 b7 hb57 hW8 HQU
  go_wp2_with fail
  rw[HW8.out]
  refine (Xhs t W8).mono ?_
  rintro e w8 ⟨rfl,hn,b8⟩
  have HC:=Xa (Va HF8.out HZ8.out (by omega) b8 hn)
  clear hn b8
  go_wp2_with fail
  refine HC.out.mono ?_
  rintro e w9 ⟨rfl,h9,b9⟩
  have HF9:=Xa h9
  have HB9:=Xa (HB8.out.trans b9)
  clear h9 b9
  go_wp2_with fail
  go_ret
  exact LfOr.addB HY.out HF9.out (by omega) (by omega) HB9.out
set_option maxRecDepth 100000 in
theorem Xk7 {p q:Nat} {Z:Nat→Prop} {fs:List FN} {w:World} (h:LfAt w rb base Z s p false fs) (hZ:∀x,Z x→x<w.heap.size) (hs:s.size≤1000) (hl:fs.length≤40) (hf:s.size≤p+f) (hq:skF s.data.toList p=q) (a46:Xe s.data.toList q 46=false) (a40:Xe s.data.toList q 40=false) (a91:Xe s.data.toList q 91=false) (a123:Xe s.data.toList q 123=false) (a34:Xe s.data.toList q 34=false):
  Calls Tryz.prog 78 #[.pointer (some ⟨rb,0,none⟩)] w (LfOr (Xs WSp R s.data.toList fs q) rb base Z s p w):=by
 have HLN:=Xa (Xm s)
 have HF0:=Xa h
 have HB0:Hid (LB rb base Z w w):=LB.refl _ _ _ _
 have HZ:Hid (∀x,Z x→x<w.heap.size):=hZ
 have HHR:=Xa HR
 have hpq:p≤q:=by rw[←hq];exact Xw _ _
 have HQQ:Hid (skF s.data.toList q=q):=by rw[Hid,←hq];exact Yh _ _
 have HPQ:=Xa hq
 have HA46:=Xa a46
 have HA40:=Xa a40
 have HA91:=Xa a91
 have HA123:=Xa a123
 have HA34:=Xa a34
 have HW:Hid (Xs WSp R s.data.toList fs q=if Yu s.data.toList q=true then X4 WSp R s.data.toList (X9 s.data.toList q) fs (skF s.data.toList (nmJ s.data.toList q)) else if Xe s.data.toList q 45=true∨K7 s.data.toList q=true then Qx WSp s.data.toList q fun n q=>Xu WSp (Zt ⟨3,n,ByteArray.empty,[],[]⟩) fs q else none):=by rw[Hid];unfold Xs;rw[if_neg (by rw[a46];decide),if_neg (by rw[a40];decide),if_neg (by rw[a91];decide),if_neg (by rw[a123];decide),if_neg (by rw[a34];decide)]
 clear a46 a40 a91 a123 a34
 clear h hZ HR hq
 go_enter Tryz.func78,Tryz.ntmps78
 have hi0:=Zu 46 HF0.out (by omega)
 rw[HPQ.out,show (46:UInt8).toNat=46 from rfl,HA46.out] at hi0
 have HI0:=Xa hi0
 clear hi0
 go_wp2_with fail
 refine HI0.out.mono ?_
 rintro e w1 ⟨rfl,h,b⟩
 have h9:LfAt w1 rb base Z s q false fs:=h
 have HF1:=Xa h9
 have HB1:=Xa (HB0.out.trans b)
 clear h h9 b HI0
 have hi1:=Zu 40 HF1.out (by omega)
 rw[HQQ.out,show (40:UInt8).toNat=40 from rfl,HA40.out] at hi1
 have HI1:=Xa hi1
 clear hi1
 go_wp2_with fail
 refine HI1.out.mono ?_
 rintro e w2 ⟨rfl,h,b⟩
 have h9:LfAt w2 rb base Z s q false fs:=h
 have HF2:=Xa h9
 have HB2:=Xa (HB1.out.trans b)
 clear h h9 b HI1
 have hi2:=Zu 91 HF2.out (by omega)
 rw[HQQ.out,show (91:UInt8).toNat=91 from rfl,HA91.out] at hi2
 have HI2:=Xa hi2
 clear hi2
 go_wp2_with fail
 refine HI2.out.mono ?_
 rintro e w3 ⟨rfl,h,b⟩
 have h9:LfAt w3 rb base Z s q false fs:=h
 have HF3:=Xa h9
 have HB3:=Xa (HB2.out.trans b)
 clear h h9 b HI2
 have hi3:=Zu 123 HF3.out (by omega)
 rw[HQQ.out,show (123:UInt8).toNat=123 from rfl,HA123.out] at hi3
 have HI3:=Xa hi3
 clear hi3
 go_wp2_with fail
 refine HI3.out.mono ?_
 rintro e w4 ⟨rfl,h,b⟩
 have h9:LfAt w4 rb base Z s q false fs:=h
 have HF4:=Xa h9
 have HB4:=Xa (HB3.out.trans b)
 clear h h9 b HI3
 have hi4:=Zu 34 HF4.out (by omega)
 rw[HQQ.out,show (34:UInt8).toNat=34 from rfl,HA34.out] at hi4
 have HI4:=Xa hi4
 clear hi4
 go_wp2_with fail
 refine HI4.out.mono ?_
 rintro e w5 ⟨rfl,h,b⟩
 have h9:LfAt w5 rb base Z s q false fs:=h
 have HF5:=Xa h9
 have HB5:=Xa (HB4.out.trans b)
 clear h h9 b HI4
 have HZ5:Hid (∀x,Z x→x<w5.heap.size):=fun x hx=>Nat.lt_of_lt_of_le (HZ.out x hx) HB5.out.size
 have HWD:=Xa (Uv HF5.out (by omega))
 rw[if_neg (by decide),if_neg (by decide),HQQ.out] at HWD
 obtain ⟨T,hT⟩:∃T,txt ((s.data.toList.drop q).take (wdJ s.data.toList q-q))=T:=⟨_,rfl⟩
 obtain ⟨M,hM⟩:∃M,wdJ s.data.toList q=M:=⟨_,rfl⟩
 rw[hT,hM] at HWD
 have HT:=Xa hT
 have HM:=Xa hM
 clear hT hM
 cases hle:Yu s.data.toList q
 ·have HMQ:Hid (M=q):=by rw[Hid,←HM.out];unfold wdJ;rw[if_neg (by rw[hle];decide)]
  have HTE:Hid (T=ByteArray.empty):=by rw[Hid,←HT.out,HM.out,HMQ.out,Nat.sub_self];rfl
  have HTL0:Hid (T.toList= []):=by rw[Hid,ByteArray.toList_eq,HTE.out];rfl
  have q1:(T.toList== [])=true:=by rw[HTL0.out];rfl
  have q2:(T.toList != [])=false:=by rw[HTL0.out];rfl
  have HWN:Hid (Xs WSp R s.data.toList fs q=if Xe s.data.toList q 45=true∨K7 s.data.toList q=true then Qx WSp s.data.toList q fun n q=>Xu WSp (Zt ⟨3,n,ByteArray.empty,[],[]⟩) fs q else none):=by rw[Hid,HW.out,if_neg (by rw[hle];decide)]
  have HNN:Hid (¬(Xe s.data.toList q 45=true∨K7 s.data.toList q=true)→Q6 (Jb s.data.toList q)=none):=fun h=>by
   refine Xtv ?_ ?_
   ·rw[←Bool.not_eq_true];exact fun e=>h (.inl e)
   ·rw[←Bool.not_eq_true];exact fun e=>h (.inr e)
  clear hle
  go_wp2_with fail
  refine HWD.out.mono ?_
  rintro e w6 ⟨b,rfl,h6⟩
  have h7:LfAt w6 rb base Z s q false fs:=by rw[←HMQ.out];exact h6
  have HB6:=Xa (HB5.out.trans b)
  have HZ6:Hid (∀x,Z x→x<w6.heap.size):=fun x hx=>Nat.lt_of_lt_of_le (HZ5.out x hx) b.size
  have HN:=Xa (Xhj h7 (by omega))
  rw[HQQ.out] at HN
  clear b h6 h7
  go_wp2_with fail
  refine HN.out.mono ?_
  rintro e w7 ⟨b,n,rfl,⟨hd,h7⟩|⟨hd,rfl,h7⟩⟩
  ·obtain ⟨D,hD⟩:∃D,dgJ s.data.toList (Yc s.data.toList q)=D:=⟨_,rfl⟩
   have hqD:q≤D:=by rw[←hD];exact Nat.le_trans (Wb _ _) (Zh _ _ _)
   rw[hD] at h7
   have HE:Hid (Xs WSp R s.data.toList fs q=Xu WSp (Zt ⟨3,n,ByteArray.empty,[],[]⟩) fs (skF s.data.toList D)):=by
    rw[Hid,HWN.out]
    by_cases e:Xe s.data.toList q 45=true∨K7 s.data.toList q=true
    ·rw[if_pos e];unfold Qx;rw[show WSp.dec=Q6 from rfl,hd,hD]
    ·rw[HNN.out e] at hd;cases hd
   have HF7:=Xa h7
   have HB7:=Xa (HB6.out.trans b)
   have HZ7:Hid (∀x,Z x→x<w7.heap.size):=fun x hx=>Nat.lt_of_lt_of_le (HZ6.out x hx) b.size
   clear b h7 hd hD
   go_wp2_with fail
   refine (Xd9 n w7).mono ?_
   rintro e w8 ⟨rfl,hn,b8⟩
   have HC:=Xa (Va HF7.out HZ7.out (by omega) b8 hn)
   clear hn b8
   go_wp2_with fail
   refine HC.out.mono ?_
   rintro e w9 ⟨rfl,h9,b9⟩
   have HF9:=Xa h9
   have HB9:=Xa (HB7.out.trans b9)
   clear h9 b9
   go_wp2_with fail
   go_ret
   exact LfOr.of HE.out (LfOr.add HF9.out hl (by omega) HB9.out)
  ·have HE:Hid (Xs WSp R s.data.toList fs q=none):=by
    rw[Hid,HWN.out]
    by_cases e:Xe s.data.toList q 45=true∨K7 s.data.toList q=true
    ·rw[if_pos e];unfold Qx;rw[show WSp.dec=Q6 from rfl,hd]
    ·rw[if_neg e]
   have HF7:=Xa h7
   have HB7:=Xa (HB6.out.trans b)
   have HZ7:Hid (∀x,Z x→x<w7.heap.size):=fun x hx=>Nat.lt_of_lt_of_le (HZ6.out x hx) b.size
   clear b h7 hd
   go_wp2_with fail
   refine (Xd9 0 w7).mono ?_
   rintro e w8 ⟨rfl,hn,b8⟩
   have HC:=Xa (Va HF7.out HZ7.out (by omega) b8 hn)
   clear hn b8
   go_wp2_with fail
   refine HC.out.mono ?_
   rintro e w9 ⟨rfl,h9,b9⟩
   have HF9:=Xa h9
   have HB9:=Xa (HB7.out.trans b9)
   clear h9 b9
   go_wp2_with fail
   go_ret
   exact LfOr.addB HE.out HF9.out (by omega) (by omega) HB9.out
 ·have HMQ:Hid (M=nmJ s.data.toList q):=by rw[Hid,←HM.out];unfold wdJ;rw[if_pos hle]
  have hqM:q<M:=by rw[HMQ.out];exact (Xdf hle).1
  have HTL:Hid (T.data.toList=X9 s.data.toList q):=by rw[Hid,←HT.out,Xz,HM.out,HMQ.out];rfl
  have HTN:Hid (T.toList≠ []):=by
   rw[Hid,ByteArray.toList_eq,HTL.out]
   unfold X9
   intro e
   have:=congrArg List.length e
   rw[List.length_take,List.length_drop,←HMQ.out] at this
   have h2:=(Xdf hle).2
   have h0:min (M-q) (s.data.toList.length-q)=0:=this
   omega
  have q1:(T.toList== [])=false:=beq_false_of_ne HTN.out
  have q2:(T.toList != [])=true:=by rw[bne,q1];rfl
  have HE:Hid (Xs WSp R s.data.toList fs q=X4 WSp R s.data.toList T.data.toList fs (skF s.data.toList M)):=by rw[Hid,HW.out,if_pos hle,HTL.out,HMQ.out]
  clear hle
  go_wp2_with fail
  refine HWD.out.mono ?_
  rintro e w6 ⟨b,rfl,h6⟩
  have HF6:=Xa h6
  have HB6:=Xa (HB5.out.trans b)
  have HZ6:Hid (∀x,Z x→x<w6.heap.size):=fun x hx=>Nat.lt_of_lt_of_le (HZ5.out x hx) b.size
  have HN:=Xa (Xk4 HHR.out (T:=T) HF6.out HZ6.out hs hl (by omega) (by omega))
  clear b h6
  go_wp2_with fail
  refine HN.out.mono ?_
  intro e w9 h9
  obtain ⟨n9,rfl,b9,s9,hn9⟩:=h9.st
  have HO9:=Xa h9
  clear h9 b9 s9 hn9
  go_wp2_with fail
  go_ret
  exact LfOr.of HE.out (LfOr.after HB6.out (by omega) HO9.out)
theorem Xh0 {p:Nat} {Z:Nat→Prop} {fs:List FN} {w:World} (h:LfAt w rb base Z s p false fs) (hZ:∀x,Z x→x<w.heap.size) (hs:s.size≤1000) (hl:fs.length≤40) (hf:s.size≤p+f):
  Calls Tryz.prog 78 #[.pointer (some ⟨rb,0,none⟩)] w (LfOr (Xs WSp R s.data.toList fs (skF s.data.toList p)) rb base Z s p w):=by
 cases a46:Xe s.data.toList (skF s.data.toList p) 46
 rotate_left
 ·exact Xnp HR h hZ hs hl hf rfl a46
 cases a40:Xe s.data.toList (skF s.data.toList p) 40
 rotate_left
 ·exact Xhz HR h hZ hs hl hf rfl a46 a40
 cases a91:Xe s.data.toList (skF s.data.toList p) 91
 rotate_left
 ·exact Xk5 HR h hZ hs hl hf rfl a46 a40 a91
 cases a123:Xe s.data.toList (skF s.data.toList p) 123
 rotate_left
 ·exact Xnq HR h hZ hs hl hf rfl a46 a40 a91 a123
 cases a34:Xe s.data.toList (skF s.data.toList p) 34
 rotate_left
 ·exact Xk6 HR h hZ hs hl hf rfl a46 a40 a91 a123 a34
 exact Xk7 HR h hZ hs hl hf rfl a46 a40 a91 a123 a34
end

theorem Xnk {L:List UInt8} {p:Nat} {c d:UInt8}:Qp L p [c,d]=(Xe L p c.toNat&&Xe L (p+1) d.toNat):=by
 rw[←Jd,←Jd]
 unfold Qp
 rw[Bool.eq_iff_iff]
 simp only[Bool.and_eq_true,decide_eq_true_eq]
 rw[show L.drop (p+1)=(L.drop p).drop 1 by rw[List.drop_drop]]
 cases L.drop p with
 |nil=>simp
 | cons a l =>
  cases l with
  |nil=>simp
  |cons b l=>simp
theorem Xie {rb base p:Nat} {Z:Nat→Prop} {s:ByteArray} {fs:List FN} {w:World} (c d:UInt8) (h:LfAt w rb base Z s p false fs) (hs:s.size≤4000):
  Calls Tryz.prog 79 #[.pointer (some ⟨rb,0,none⟩), .string ⟨#[c,d]⟩] w fun e w'=>e= .returned (.bool (Xe s.data.toList (skF s.data.toList p) c.toNat&&Xe s.data.toList (skF s.data.toList p+1) d.toNat))∧LfAt w' rb base Z s (if (Xe s.data.toList (skF s.data.toList p) c.toNat&&Xe s.data.toList (skF s.data.toList p+1) d.toNat)=true then skF s.data.toList p+2 else skF s.data.toList p) false fs∧LB rb base Z w w':=by
 have hw:Qp s.data.toList (skF s.data.toList p) (⟨#[c,d]⟩:ByteArray).data.toList=(Xe s.data.toList (skF s.data.toList p) c.toNat&&Xe s.data.toList (skF s.data.toList p+1) d.toNat):=Xnk
 cases hi:(Xe s.data.toList (skF s.data.toList p) c.toNat&&Xe s.data.toList (skF s.data.toList p+1) d.toNat)
 ·refine (Ke (u:=⟨#[c,d]⟩) h hs (by show (2:Nat)≤100;omega) (.inr (by rw[hw];exact hi))).mono ?_
  rintro e w1 ⟨rfl,h1,h2⟩
  exact ⟨rfl,h1,h2⟩
 ·refine (Xj8 (u:=⟨#[c,d]⟩) h hs (by show (2:Nat)≤100;omega) (by rw[hw];exact hi)).mono ?_
  rintro e w1 ⟨rfl,h1,h2⟩
  exact ⟨rfl,h1,h2⟩
def Xdw (l:Int) (rb base:Nat) (Z:Nat→Prop) (s:ByteArray) (q:Nat) (fs:List FN) (w:World) (e:Ending) (w':World):Prop:=
 LB rb base Z w w'∧((Zy l s.data.toList q=none∧e= .returned (.int .i64 0)∧LfAt w' rb base Z s q false fs)∨∃k len,Zy l s.data.toList q=some (k,len)∧k≠0∧1≤len∧e= .returned (.int .i64 k)∧LfAt w' rb base Z s (q+len) false fs)
set_option maxRecDepth 100000 in
theorem Xtn {rb base p q:Nat} {Z:Nat→Prop} {s:ByteArray} {fs:List FN} {w:World} (h:LfAt w rb base Z s p false fs) (hs:s.size≤4000) (hq:skF s.data.toList p=q):
  Calls Tryz.prog 81 #[.pointer (some ⟨rb,0,none⟩), .int .i64 1] w (Xdw 1 rb base Z s q fs w):=by
 have HBK:=Xa (Yy h hs)
 have HLN:=Xa (Xm s)
 have HQQ:Hid (skF s.data.toList q=q):=by rw[Hid,←hq];exact Yh _ _
 have hql:q≤s.size:=by rw[←hq,←HLN.out];exact X1 (by rw[HLN.out];exact h.le)
 rw[hq] at HBK
 clear h hq
 by_cases hlt:q+1<s.size
 focus
  have hlt0:(q:Int)<(s.size:Int):=by omega
  have hlt1:(q:Int)+1<(s.size:Int):=by omega
  have hd1:decide ((q:Int)+1<(s.size:Int))=true:=by simpa using hlt1
  have HBA:=Xa (byS (show q<s.size by omega))
  have HBB:=Xa (byS hlt)
  obtain ⟨c,hc⟩:∃c,s[q].toNat=c:=⟨_,rfl⟩
  obtain ⟨d,hd⟩:∃d,s[q+1].toNat=d:=⟨_,rfl⟩
  have HC:Hid (Xh s.data.toList q=c):=by rw[Hid,←HBA.out];exact hc
  have HD:Hid (Xh s.data.toList (q+1)=d):=by rw[Hid,←HBB.out];exact hd
  have et:((q:Int)+1).toNat=q+1:=by omega
  by_cases e1:c=47
  focus
   have n1:((c:Int)==47)=true:=by rw[e1];rfl
   have n1':(c:Int)=47:=by omega
   by_cases e2:d=47
   focus
    have n2:((d:Int)==47)=true:=by rw[e2];rfl
    have n2':(d:Int)=47:=by omega
    have HTW:Hid ((Xe s.data.toList q 47&&Xe s.data.toList (q+1) 47)=true):=by
     rw[Hid,Bool.and_eq_true];exact ⟨Xl.2 ⟨by rw[HLN.out];omega,by rw[HC.out,e1]⟩,Xl.2 ⟨by rw[HLN.out];omega,by rw[HD.out,e2]⟩⟩
    go_enter Tryz.func81,Tryz.ntmps81
    go_wp2_with fail
    refine HBK.out.mono ?_
    rintro e w1 ⟨rfl,h,b⟩
    have HF1:=Xa h
    have HB1:=Xa b
    obtain ⟨c0,c1,c2⟩:=h.cells
    clear h b
    go_wp2_with fail
    go_quiet (fail)
   rotate_left
   focus
    have n2:((d:Int)==47)=false:=by simp;omega
    have n2':¬(d:Int)=47:=by omega
    have HTW:Hid ((Xe s.data.toList q 47&&Xe s.data.toList (q+1) 47)=false):=by
     rw[Hid,Bool.and_eq_false_iff];right;rw[X7];rintro ⟨_,e⟩;rw[HD.out] at e;exact e2 e
    go_enter Tryz.func81,Tryz.ntmps81
    go_wp2_with fail
    refine HBK.out.mono ?_
    rintro e w1 ⟨rfl,h,b⟩
    have HF1:=Xa h
    have HB1:=Xa b
    obtain ⟨c0,c1,c2⟩:=h.cells
    clear h b
    go_wp2_with fail
    go_quiet (fail)
  rotate_left 2
  focus
   have n1:((c:Int)==47)=false:=by simp;omega
   have n1':¬(c:Int)=47:=by omega
   have HTW:Hid ((Xe s.data.toList q 47&&Xe s.data.toList (q+1) 47)=false):=by
    rw[Hid,Bool.and_eq_false_iff];left;rw[X7];rintro ⟨_,e⟩;rw[HC.out] at e;exact e1 e
   go_enter Tryz.func81,Tryz.ntmps81
   go_wp2_with fail
   refine HBK.out.mono ?_
   rintro e w1 ⟨rfl,h,b⟩
   have HF1:=Xa h
   have HB1:=Xa b
   obtain ⟨c0,c1,c2⟩:=h.cells
   clear h b
   go_wp2_with fail
   go_quiet (fail)
 rotate_left 3
 focus
  have hlt1:¬(q:Int)+1<(s.size:Int):=by omega
  have hd1:decide ((q:Int)+1<(s.size:Int))=false:=by simpa using hlt1
  have HTW:Hid ((Xe s.data.toList q 47&&Xe s.data.toList (q+1) 47)=false):=by
   rw[Hid,Bool.and_eq_false_iff];right;rw[X7];rintro ⟨e,_⟩;rw[HLN.out] at e;omega
  go_enter Tryz.func81,Tryz.ntmps81
  go_wp2_with fail
  refine HBK.out.mono ?_
  rintro e w1 ⟨rfl,h,b⟩
  have HF1:=Xa h
  have HB1:=Xa b
  obtain ⟨c0,c1,c2⟩:=h.cells
  clear h b
  go_wp2_with fail
  go_quiet (fail)
 all_goals
  have HDD:=Xa (Xq (w:=w1) nq)
  have HF2:=Xa (HF1.out.below HDD.out)
  have HB2:=Xa (HB1.out.trans (LB.of_below HDD.out))
  clear c0 c1 c2
  generalize w1.drewN nq=W0 at HDD HF2 HB2⊢
  clear nq
  have hi:=Zu 124 HF2.out (by omega)
  rw[HQQ.out,show (124:UInt8).toNat=124 from rfl] at hi
  cases a0:(Xe s.data.toList q 124)
  rotate_left
  ·have HEQ:Hid (Zy 1 s.data.toList q=some (6,1)):=by rw[Hid,Xyn];rw[if_pos a0]
   rw[a0] at hi
   have HI:=Xa hi
   clear hi a0
   go_wp2_with fail
   refine HI.out.mono ?_
   rintro e w3 ⟨rfl,h3,b3⟩
   have h9:LfAt w3 rb base Z s (q+1) false fs:=h3
   have HF3:=Xa h9
   have HB3:=Xa (HB2.out.trans b3)
   clear h3 b3 h9
   go_wp2_with fail
   go_ret
   exact ⟨HB3.out, .inr ⟨6,1,HEQ.out,by decide,by decide,rfl,HF3.out⟩⟩
  rw[a0] at hi
  have HI0:=Xa hi
  have HA0:=Xa a0
  clear hi a0
  go_wp2_with fail
  refine HI0.out.mono ?_
  rintro e v0 ⟨rfl,h3,b3⟩
  have h9:LfAt v0 rb base Z s q false fs:=h3
  have HG0:=Xa h9
  have HC0:=Xa (HB2.out.trans b3)
  clear h3 b3 h9
  have HEQ:Hid (Zy 1 s.data.toList q=none):=by rw[Hid,Xyn];rw[if_neg (by rw[HA0.out];decide)]
  go_wp2_with fail
  go_ret
  exact ⟨HC0.out, .inl ⟨HEQ.out,rfl,HG0.out⟩⟩
set_option maxRecDepth 100000 in
theorem Xto {rb base p q:Nat} {Z:Nat→Prop} {s:ByteArray} {fs:List FN} {w:World} (h:LfAt w rb base Z s p false fs) (hs:s.size≤4000) (hq:skF s.data.toList p=q):
  Calls Tryz.prog 81 #[.pointer (some ⟨rb,0,none⟩), .int .i64 2] w (Xdw 2 rb base Z s q fs w):=by
 have HBK:=Xa (Yy h hs)
 have HLN:=Xa (Xm s)
 have HQQ:Hid (skF s.data.toList q=q):=by rw[Hid,←hq];exact Yh _ _
 have hql:q≤s.size:=by rw[←hq,←HLN.out];exact X1 (by rw[HLN.out];exact h.le)
 rw[hq] at HBK
 clear h hq
 by_cases hlt:q+1<s.size
 focus
  have hlt0:(q:Int)<(s.size:Int):=by omega
  have hlt1:(q:Int)+1<(s.size:Int):=by omega
  have hd1:decide ((q:Int)+1<(s.size:Int))=true:=by simpa using hlt1
  have HBA:=Xa (byS (show q<s.size by omega))
  have HBB:=Xa (byS hlt)
  obtain ⟨c,hc⟩:∃c,s[q].toNat=c:=⟨_,rfl⟩
  obtain ⟨d,hd⟩:∃d,s[q+1].toNat=d:=⟨_,rfl⟩
  have HC:Hid (Xh s.data.toList q=c):=by rw[Hid,←HBA.out];exact hc
  have HD:Hid (Xh s.data.toList (q+1)=d):=by rw[Hid,←HBB.out];exact hd
  have et:((q:Int)+1).toNat=q+1:=by omega
  by_cases e1:c=47
  focus
   have n1:((c:Int)==47)=true:=by rw[e1];rfl
   have n1':(c:Int)=47:=by omega
   by_cases e2:d=47
   focus
    have n2:((d:Int)==47)=true:=by rw[e2];rfl
    have n2':(d:Int)=47:=by omega
    have HTW:Hid ((Xe s.data.toList q 47&&Xe s.data.toList (q+1) 47)=true):=by
     rw[Hid,Bool.and_eq_true];exact ⟨Xl.2 ⟨by rw[HLN.out];omega,by rw[HC.out,e1]⟩,Xl.2 ⟨by rw[HLN.out];omega,by rw[HD.out,e2]⟩⟩
    go_enter Tryz.func81,Tryz.ntmps81
    go_wp2_with fail
    refine HBK.out.mono ?_
    rintro e w1 ⟨rfl,h,b⟩
    have HF1:=Xa h
    have HB1:=Xa b
    obtain ⟨c0,c1,c2⟩:=h.cells
    clear h b
    go_wp2_with fail
    go_quiet (fail)
   rotate_left
   focus
    have n2:((d:Int)==47)=false:=by simp;omega
    have n2':¬(d:Int)=47:=by omega
    have HTW:Hid ((Xe s.data.toList q 47&&Xe s.data.toList (q+1) 47)=false):=by
     rw[Hid,Bool.and_eq_false_iff];right;rw[X7];rintro ⟨_,e⟩;rw[HD.out] at e;exact e2 e
    go_enter Tryz.func81,Tryz.ntmps81
    go_wp2_with fail
    refine HBK.out.mono ?_
    rintro e w1 ⟨rfl,h,b⟩
    have HF1:=Xa h
    have HB1:=Xa b
    obtain ⟨c0,c1,c2⟩:=h.cells
    clear h b
    go_wp2_with fail
    go_quiet (fail)
  rotate_left 2
  focus
   have n1:((c:Int)==47)=false:=by simp;omega
   have n1':¬(c:Int)=47:=by omega
   have HTW:Hid ((Xe s.data.toList q 47&&Xe s.data.toList (q+1) 47)=false):=by
    rw[Hid,Bool.and_eq_false_iff];left;rw[X7];rintro ⟨_,e⟩;rw[HC.out] at e;exact e1 e
   go_enter Tryz.func81,Tryz.ntmps81
   go_wp2_with fail
   refine HBK.out.mono ?_
   rintro e w1 ⟨rfl,h,b⟩
   have HF1:=Xa h
   have HB1:=Xa b
   obtain ⟨c0,c1,c2⟩:=h.cells
   clear h b
   go_wp2_with fail
   go_quiet (fail)
 rotate_left 3
 focus
  have hlt1:¬(q:Int)+1<(s.size:Int):=by omega
  have hd1:decide ((q:Int)+1<(s.size:Int))=false:=by simpa using hlt1
  have HTW:Hid ((Xe s.data.toList q 47&&Xe s.data.toList (q+1) 47)=false):=by
   rw[Hid,Bool.and_eq_false_iff];right;rw[X7];rintro ⟨e,_⟩;rw[HLN.out] at e;omega
  go_enter Tryz.func81,Tryz.ntmps81
  go_wp2_with fail
  refine HBK.out.mono ?_
  rintro e w1 ⟨rfl,h,b⟩
  have HF1:=Xa h
  have HB1:=Xa b
  obtain ⟨c0,c1,c2⟩:=h.cells
  clear h b
  go_wp2_with fail
  go_quiet (fail)
 all_goals
  have HDD:=Xa (Xq (w:=w1) nq)
  have HF2:=Xa (HF1.out.below HDD.out)
  have HB2:=Xa (HB1.out.trans (LB.of_below HDD.out))
  clear c0 c1 c2
  generalize w1.drewN nq=W0 at HDD HF2 HB2⊢
  clear nq
  have hi:=Zu 44 HF2.out (by omega)
  rw[HQQ.out,show (44:UInt8).toNat=44 from rfl] at hi
  cases a0:(Xe s.data.toList q 44)
  rotate_left
  ·have HEQ:Hid (Zy 2 s.data.toList q=some (7,1)):=by rw[Hid,Xyo];rw[if_pos a0]
   rw[a0] at hi
   have HI:=Xa hi
   clear hi a0
   go_wp2_with fail
   refine HI.out.mono ?_
   rintro e w3 ⟨rfl,h3,b3⟩
   have h9:LfAt w3 rb base Z s (q+1) false fs:=h3
   have HF3:=Xa h9
   have HB3:=Xa (HB2.out.trans b3)
   clear h3 b3 h9
   go_wp2_with fail
   go_ret
   exact ⟨HB3.out, .inr ⟨7,1,HEQ.out,by decide,by decide,rfl,HF3.out⟩⟩
  rw[a0] at hi
  have HI0:=Xa hi
  have HA0:=Xa a0
  clear hi a0
  go_wp2_with fail
  refine HI0.out.mono ?_
  rintro e v0 ⟨rfl,h3,b3⟩
  have h9:LfAt v0 rb base Z s q false fs:=h3
  have HG0:=Xa h9
  have HC0:=Xa (HB2.out.trans b3)
  clear h3 b3 h9
  have HEQ:Hid (Zy 2 s.data.toList q=none):=by rw[Hid,Xyo];rw[if_neg (by rw[HA0.out];decide)]
  go_wp2_with fail
  go_ret
  exact ⟨HC0.out, .inl ⟨HEQ.out,rfl,HG0.out⟩⟩
set_option maxRecDepth 100000 in
theorem Xtp {rb base p q:Nat} {Z:Nat→Prop} {s:ByteArray} {fs:List FN} {w:World} (h:LfAt w rb base Z s p false fs) (hs:s.size≤4000) (hq:skF s.data.toList p=q):
  Calls Tryz.prog 81 #[.pointer (some ⟨rb,0,none⟩), .int .i64 3] w (Xdw 3 rb base Z s q fs w):=by
 have HBK:=Xa (Yy h hs)
 have HLN:=Xa (Xm s)
 have HQQ:Hid (skF s.data.toList q=q):=by rw[Hid,←hq];exact Yh _ _
 have hql:q≤s.size:=by rw[←hq,←HLN.out];exact X1 (by rw[HLN.out];exact h.le)
 rw[hq] at HBK
 clear h hq
 by_cases hlt:q+1<s.size
 focus
  have hlt0:(q:Int)<(s.size:Int):=by omega
  have hlt1:(q:Int)+1<(s.size:Int):=by omega
  have hd1:decide ((q:Int)+1<(s.size:Int))=true:=by simpa using hlt1
  have HBA:=Xa (byS (show q<s.size by omega))
  have HBB:=Xa (byS hlt)
  obtain ⟨c,hc⟩:∃c,s[q].toNat=c:=⟨_,rfl⟩
  obtain ⟨d,hd⟩:∃d,s[q+1].toNat=d:=⟨_,rfl⟩
  have HC:Hid (Xh s.data.toList q=c):=by rw[Hid,←HBA.out];exact hc
  have HD:Hid (Xh s.data.toList (q+1)=d):=by rw[Hid,←HBB.out];exact hd
  have et:((q:Int)+1).toNat=q+1:=by omega
  by_cases e1:c=47
  focus
   have n1:((c:Int)==47)=true:=by rw[e1];rfl
   have n1':(c:Int)=47:=by omega
   by_cases e2:d=47
   focus
    have n2:((d:Int)==47)=true:=by rw[e2];rfl
    have n2':(d:Int)=47:=by omega
    have HTW:Hid ((Xe s.data.toList q 47&&Xe s.data.toList (q+1) 47)=true):=by
     rw[Hid,Bool.and_eq_true];exact ⟨Xl.2 ⟨by rw[HLN.out];omega,by rw[HC.out,e1]⟩,Xl.2 ⟨by rw[HLN.out];omega,by rw[HD.out,e2]⟩⟩
    go_enter Tryz.func81,Tryz.ntmps81
    go_wp2_with fail
    refine HBK.out.mono ?_
    rintro e w1 ⟨rfl,h,b⟩
    have HF1:=Xa h
    have HB1:=Xa b
    obtain ⟨c0,c1,c2⟩:=h.cells
    clear h b
    go_wp2_with fail
    go_quiet (fail)
   rotate_left
   focus
    have n2:((d:Int)==47)=false:=by simp;omega
    have n2':¬(d:Int)=47:=by omega
    have HTW:Hid ((Xe s.data.toList q 47&&Xe s.data.toList (q+1) 47)=false):=by
     rw[Hid,Bool.and_eq_false_iff];right;rw[X7];rintro ⟨_,e⟩;rw[HD.out] at e;exact e2 e
    go_enter Tryz.func81,Tryz.ntmps81
    go_wp2_with fail
    refine HBK.out.mono ?_
    rintro e w1 ⟨rfl,h,b⟩
    have HF1:=Xa h
    have HB1:=Xa b
    obtain ⟨c0,c1,c2⟩:=h.cells
    clear h b
    go_wp2_with fail
    go_quiet (fail)
  rotate_left 2
  focus
   have n1:((c:Int)==47)=false:=by simp;omega
   have n1':¬(c:Int)=47:=by omega
   have HTW:Hid ((Xe s.data.toList q 47&&Xe s.data.toList (q+1) 47)=false):=by
    rw[Hid,Bool.and_eq_false_iff];left;rw[X7];rintro ⟨_,e⟩;rw[HC.out] at e;exact e1 e
   go_enter Tryz.func81,Tryz.ntmps81
   go_wp2_with fail
   refine HBK.out.mono ?_
   rintro e w1 ⟨rfl,h,b⟩
   have HF1:=Xa h
   have HB1:=Xa b
   obtain ⟨c0,c1,c2⟩:=h.cells
   clear h b
   go_wp2_with fail
   go_quiet (fail)
 rotate_left 3
 focus
  have hlt1:¬(q:Int)+1<(s.size:Int):=by omega
  have hd1:decide ((q:Int)+1<(s.size:Int))=false:=by simpa using hlt1
  have HTW:Hid ((Xe s.data.toList q 47&&Xe s.data.toList (q+1) 47)=false):=by
   rw[Hid,Bool.and_eq_false_iff];right;rw[X7];rintro ⟨e,_⟩;rw[HLN.out] at e;omega
  go_enter Tryz.func81,Tryz.ntmps81
  go_wp2_with fail
  refine HBK.out.mono ?_
  rintro e w1 ⟨rfl,h,b⟩
  have HF1:=Xa h
  have HB1:=Xa b
  obtain ⟨c0,c1,c2⟩:=h.cells
  clear h b
  go_wp2_with fail
  go_quiet (fail)
 all_goals
  have HDD:=Xa (Xq (w:=w1) nq)
  have HF2:=Xa (HF1.out.below HDD.out)
  have HB2:=Xa (HB1.out.trans (LB.of_below HDD.out))
  clear c0 c1 c2
  generalize w1.drewN nq=W0 at HDD HF2 HB2⊢
  clear nq
  have HEQ:Hid (Zy 3 s.data.toList q=if (Xe s.data.toList q 47&&Xe s.data.toList (q+1) 47)=true then some (21,2) else none):=by rw[Hid,X1d];simp only[Bool.and_eq_true]
  rw[HTW.out] at HEQ
  have hi:=Xie 47 47 HF2.out (by omega)
  rw[HQQ.out,show (47:UInt8).toNat=47 from rfl] at hi
  rw[HTW.out] at hi
  have HI:=Xa hi
  clear hi
  first
   | (go_wp2_with fail
      go_ret
      exact ⟨HB2.out, .inl ⟨HEQ.out,rfl,HF2.out⟩⟩)
   | (go_wp2_with fail
      refine HI.out.mono ?_
      rintro e w3 ⟨rfl,h3,b3⟩
      have h9:LfAt w3 rb base Z s (q+2) false fs:=h3
      have HF3:=Xa h9
      have HB3:=Xa (HB2.out.trans b3)
      clear h3 b3 h9
      go_wp2_with fail
      go_ret
      exact ⟨HB3.out, .inr ⟨21,2,HEQ.out,by decide,by decide,rfl,HF3.out⟩⟩)
set_option maxRecDepth 100000 in
theorem Xtq {rb base p q:Nat} {Z:Nat→Prop} {s:ByteArray} {fs:List FN} {w:World} (h:LfAt w rb base Z s p false fs) (hs:s.size≤4000) (hq:skF s.data.toList p=q):
  Calls Tryz.prog 81 #[.pointer (some ⟨rb,0,none⟩), .int .i64 4] w (Xdw 4 rb base Z s q fs w):=by
 have HBK:=Xa (Yy h hs)
 have HLN:=Xa (Xm s)
 have HQQ:Hid (skF s.data.toList q=q):=by rw[Hid,←hq];exact Yh _ _
 have hql:q≤s.size:=by rw[←hq,←HLN.out];exact X1 (by rw[HLN.out];exact h.le)
 rw[hq] at HBK
 clear h hq
 by_cases hlt:q+1<s.size
 focus
  have hlt0:(q:Int)<(s.size:Int):=by omega
  have hlt1:(q:Int)+1<(s.size:Int):=by omega
  have hd1:decide ((q:Int)+1<(s.size:Int))=true:=by simpa using hlt1
  have HBA:=Xa (byS (show q<s.size by omega))
  have HBB:=Xa (byS hlt)
  obtain ⟨c,hc⟩:∃c,s[q].toNat=c:=⟨_,rfl⟩
  obtain ⟨d,hd⟩:∃d,s[q+1].toNat=d:=⟨_,rfl⟩
  have HC:Hid (Xh s.data.toList q=c):=by rw[Hid,←HBA.out];exact hc
  have HD:Hid (Xh s.data.toList (q+1)=d):=by rw[Hid,←HBB.out];exact hd
  have et:((q:Int)+1).toNat=q+1:=by omega
  by_cases e1:c=47
  focus
   have n1:((c:Int)==47)=true:=by rw[e1];rfl
   have n1':(c:Int)=47:=by omega
   by_cases e2:d=47
   focus
    have n2:((d:Int)==47)=true:=by rw[e2];rfl
    have n2':(d:Int)=47:=by omega
    have HTW:Hid ((Xe s.data.toList q 47&&Xe s.data.toList (q+1) 47)=true):=by
     rw[Hid,Bool.and_eq_true];exact ⟨Xl.2 ⟨by rw[HLN.out];omega,by rw[HC.out,e1]⟩,Xl.2 ⟨by rw[HLN.out];omega,by rw[HD.out,e2]⟩⟩
    go_enter Tryz.func81,Tryz.ntmps81
    go_wp2_with fail
    refine HBK.out.mono ?_
    rintro e w1 ⟨rfl,h,b⟩
    have HF1:=Xa h
    have HB1:=Xa b
    obtain ⟨c0,c1,c2⟩:=h.cells
    clear h b
    go_wp2_with fail
    go_quiet (fail)
   rotate_left
   focus
    have n2:((d:Int)==47)=false:=by simp;omega
    have n2':¬(d:Int)=47:=by omega
    have HTW:Hid ((Xe s.data.toList q 47&&Xe s.data.toList (q+1) 47)=false):=by
     rw[Hid,Bool.and_eq_false_iff];right;rw[X7];rintro ⟨_,e⟩;rw[HD.out] at e;exact e2 e
    go_enter Tryz.func81,Tryz.ntmps81
    go_wp2_with fail
    refine HBK.out.mono ?_
    rintro e w1 ⟨rfl,h,b⟩
    have HF1:=Xa h
    have HB1:=Xa b
    obtain ⟨c0,c1,c2⟩:=h.cells
    clear h b
    go_wp2_with fail
    go_quiet (fail)
  rotate_left 2
  focus
   have n1:((c:Int)==47)=false:=by simp;omega
   have n1':¬(c:Int)=47:=by omega
   have HTW:Hid ((Xe s.data.toList q 47&&Xe s.data.toList (q+1) 47)=false):=by
    rw[Hid,Bool.and_eq_false_iff];left;rw[X7];rintro ⟨_,e⟩;rw[HC.out] at e;exact e1 e
   go_enter Tryz.func81,Tryz.ntmps81
   go_wp2_with fail
   refine HBK.out.mono ?_
   rintro e w1 ⟨rfl,h,b⟩
   have HF1:=Xa h
   have HB1:=Xa b
   obtain ⟨c0,c1,c2⟩:=h.cells
   clear h b
   go_wp2_with fail
   go_quiet (fail)
 rotate_left 3
 focus
  have hlt1:¬(q:Int)+1<(s.size:Int):=by omega
  have hd1:decide ((q:Int)+1<(s.size:Int))=false:=by simpa using hlt1
  have HTW:Hid ((Xe s.data.toList q 47&&Xe s.data.toList (q+1) 47)=false):=by
   rw[Hid,Bool.and_eq_false_iff];right;rw[X7];rintro ⟨e,_⟩;rw[HLN.out] at e;omega
  go_enter Tryz.func81,Tryz.ntmps81
  go_wp2_with fail
  refine HBK.out.mono ?_
  rintro e w1 ⟨rfl,h,b⟩
  have HF1:=Xa h
  have HB1:=Xa b
  obtain ⟨c0,c1,c2⟩:=h.cells
  clear h b
  go_wp2_with fail
  go_quiet (fail)
 all_goals
  have HDD:=Xa (Xq (w:=w1) nq)
  have HF2:=Xa (HF1.out.below HDD.out)
  have HB2:=Xa (HB1.out.trans (LB.of_below HDD.out))
  clear c0 c1 c2
  generalize w1.drewN nq=W0 at HDD HF2 HB2⊢
  clear nq
  have hi:=Xie 61 61 HF2.out (by omega)
  rw[HQQ.out,show (61:UInt8).toNat=61 from rfl] at hi
  cases a0:(Xe s.data.toList q 61&&Xe s.data.toList (q+1) 61)
  rotate_left
  ·have HEQ:Hid (Zy 4 s.data.toList q=some (17,2)):=by rw[Hid,Xiy];rw[Bool.and_eq_true] at a0;rw[if_pos a0]
   rw[a0] at hi
   have HI:=Xa hi
   clear hi a0
   go_wp2_with fail
   refine HI.out.mono ?_
   rintro e w3 ⟨rfl,h3,b3⟩
   have h9:LfAt w3 rb base Z s (q+2) false fs:=h3
   have HF3:=Xa h9
   have HB3:=Xa (HB2.out.trans b3)
   clear h3 b3 h9
   go_wp2_with fail
   go_ret
   exact ⟨HB3.out, .inr ⟨17,2,HEQ.out,by decide,by decide,rfl,HF3.out⟩⟩
  rw[a0] at hi
  have HI0:=Xa hi
  have HA0:=Xa a0
  clear hi a0
  go_wp2_with fail
  refine HI0.out.mono ?_
  rintro e v0 ⟨rfl,h3,b3⟩
  have h9:LfAt v0 rb base Z s q false fs:=h3
  have HG0:=Xa h9
  have HC0:=Xa (HB2.out.trans b3)
  clear h3 b3 h9
  have hi:=Xie 33 61 HG0.out (by omega)
  rw[HQQ.out,show (33:UInt8).toNat=33 from rfl,show (61:UInt8).toNat=61 from rfl] at hi
  cases a1:(Xe s.data.toList q 33&&Xe s.data.toList (q+1) 61)
  rotate_left
  ·have HEQ:Hid (Zy 4 s.data.toList q=some (18,2)):=by have a0:=HA0.out;rw[Hid,Xiy];rw[if_neg (fun e=>by rw[e.1,e.2] at a0;cases a0)];rw[Bool.and_eq_true] at a1;rw[if_pos a1]
   rw[a1] at hi
   have HI:=Xa hi
   clear hi a1
   go_wp2_with fail
   refine HI.out.mono ?_
   rintro e w3 ⟨rfl,h3,b3⟩
   have h9:LfAt w3 rb base Z s (q+2) false fs:=h3
   have HF3:=Xa h9
   have HB3:=Xa (HC0.out.trans b3)
   clear h3 b3 h9
   go_wp2_with fail
   go_ret
   exact ⟨HB3.out, .inr ⟨18,2,HEQ.out,by decide,by decide,rfl,HF3.out⟩⟩
  rw[a1] at hi
  have HI1:=Xa hi
  have HA1:=Xa a1
  clear hi a1
  go_wp2_with fail
  refine HI1.out.mono ?_
  rintro e v1 ⟨rfl,h3,b3⟩
  have h9:LfAt v1 rb base Z s q false fs:=h3
  have HG1:=Xa h9
  have HC1:=Xa (HC0.out.trans b3)
  clear h3 b3 h9
  have hi:=Xie 60 61 HG1.out (by omega)
  rw[HQQ.out,show (60:UInt8).toNat=60 from rfl,show (61:UInt8).toNat=61 from rfl] at hi
  cases a2:(Xe s.data.toList q 60&&Xe s.data.toList (q+1) 61)
  rotate_left
  ·have HEQ:Hid (Zy 4 s.data.toList q=some (20,2)):=by have a0:=HA0.out;have a1:=HA1.out;rw[Hid,Xiy];rw[if_neg (fun e=>by rw[e.1,e.2] at a0;cases a0)];rw[if_neg (fun e=>by rw[e.1,e.2] at a1;cases a1)];rw[Bool.and_eq_true] at a2;rw[if_pos a2]
   rw[a2] at hi
   have HI:=Xa hi
   clear hi a2
   go_wp2_with fail
   refine HI.out.mono ?_
   rintro e w3 ⟨rfl,h3,b3⟩
   have h9:LfAt w3 rb base Z s (q+2) false fs:=h3
   have HF3:=Xa h9
   have HB3:=Xa (HC1.out.trans b3)
   clear h3 b3 h9
   go_wp2_with fail
   go_ret
   exact ⟨HB3.out, .inr ⟨20,2,HEQ.out,by decide,by decide,rfl,HF3.out⟩⟩
  rw[a2] at hi
  have HI2:=Xa hi
  have HA2:=Xa a2
  clear hi a2
  go_wp2_with fail
  refine HI2.out.mono ?_
  rintro e v2 ⟨rfl,h3,b3⟩
  have h9:LfAt v2 rb base Z s q false fs:=h3
  have HG2:=Xa h9
  have HC2:=Xa (HC1.out.trans b3)
  clear h3 b3 h9
  have hi:=Zu 60 HG2.out (by omega)
  rw[HQQ.out,show (60:UInt8).toNat=60 from rfl] at hi
  cases a3:(Xe s.data.toList q 60)
  rotate_left
  ·have HEQ:Hid (Zy 4 s.data.toList q=some (19,1)):=by have a0:=HA0.out;have a1:=HA1.out;have a2:=HA2.out;rw[Hid,Xiy];rw[if_neg (fun e=>by rw[e.1,e.2] at a0;cases a0)];rw[if_neg (fun e=>by rw[e.1,e.2] at a1;cases a1)];rw[if_neg (fun e=>by rw[e.1,e.2] at a2;cases a2)];rw[if_pos a3]
   rw[a3] at hi
   have HI:=Xa hi
   clear hi a3
   go_wp2_with fail
   refine HI.out.mono ?_
   rintro e w3 ⟨rfl,h3,b3⟩
   have h9:LfAt w3 rb base Z s (q+1) false fs:=h3
   have HF3:=Xa h9
   have HB3:=Xa (HC2.out.trans b3)
   clear h3 b3 h9
   go_wp2_with fail
   go_ret
   exact ⟨HB3.out, .inr ⟨19,1,HEQ.out,by decide,by decide,rfl,HF3.out⟩⟩
  rw[a3] at hi
  have HI3:=Xa hi
  have HA3:=Xa a3
  clear hi a3
  go_wp2_with fail
  refine HI3.out.mono ?_
  rintro e v3 ⟨rfl,h3,b3⟩
  have h9:LfAt v3 rb base Z s q false fs:=h3
  have HG3:=Xa h9
  have HC3:=Xa (HC2.out.trans b3)
  clear h3 b3 h9
  have HEQ:Hid (Zy 4 s.data.toList q=none):=by rw[Hid,Xiy];rw[if_neg (fun e=>by have:=HA0.out;rw[e.1,e.2] at this;cases this)];rw[if_neg (fun e=>by have:=HA1.out;rw[e.1,e.2] at this;cases this)];rw[if_neg (fun e=>by have:=HA2.out;rw[e.1,e.2] at this;cases this)];rw[if_neg (by rw[HA3.out];decide)]
  go_wp2_with fail
  go_ret
  exact ⟨HC3.out, .inl ⟨HEQ.out,rfl,HG3.out⟩⟩
set_option maxRecDepth 100000 in
theorem Xtr {rb base p q:Nat} {Z:Nat→Prop} {s:ByteArray} {fs:List FN} {w:World} (h:LfAt w rb base Z s p false fs) (hs:s.size≤4000) (hq:skF s.data.toList p=q):
  Calls Tryz.prog 81 #[.pointer (some ⟨rb,0,none⟩), .int .i64 5] w (Xdw 5 rb base Z s q fs w):=by
 have HBK:=Xa (Yy h hs)
 have HLN:=Xa (Xm s)
 have HQQ:Hid (skF s.data.toList q=q):=by rw[Hid,←hq];exact Yh _ _
 have hql:q≤s.size:=by rw[←hq,←HLN.out];exact X1 (by rw[HLN.out];exact h.le)
 rw[hq] at HBK
 clear h hq
 by_cases hlt:q+1<s.size
 focus
  have hlt0:(q:Int)<(s.size:Int):=by omega
  have hlt1:(q:Int)+1<(s.size:Int):=by omega
  have hd1:decide ((q:Int)+1<(s.size:Int))=true:=by simpa using hlt1
  have HBA:=Xa (byS (show q<s.size by omega))
  have HBB:=Xa (byS hlt)
  obtain ⟨c,hc⟩:∃c,s[q].toNat=c:=⟨_,rfl⟩
  obtain ⟨d,hd⟩:∃d,s[q+1].toNat=d:=⟨_,rfl⟩
  have HC:Hid (Xh s.data.toList q=c):=by rw[Hid,←HBA.out];exact hc
  have HD:Hid (Xh s.data.toList (q+1)=d):=by rw[Hid,←HBB.out];exact hd
  have et:((q:Int)+1).toNat=q+1:=by omega
  by_cases e1:c=47
  focus
   have n1:((c:Int)==47)=true:=by rw[e1];rfl
   have n1':(c:Int)=47:=by omega
   by_cases e2:d=47
   focus
    have n2:((d:Int)==47)=true:=by rw[e2];rfl
    have n2':(d:Int)=47:=by omega
    have HTW:Hid ((Xe s.data.toList q 47&&Xe s.data.toList (q+1) 47)=true):=by
     rw[Hid,Bool.and_eq_true];exact ⟨Xl.2 ⟨by rw[HLN.out];omega,by rw[HC.out,e1]⟩,Xl.2 ⟨by rw[HLN.out];omega,by rw[HD.out,e2]⟩⟩
    go_enter Tryz.func81,Tryz.ntmps81
    go_wp2_with fail
    refine HBK.out.mono ?_
    rintro e w1 ⟨rfl,h,b⟩
    have HF1:=Xa h
    have HB1:=Xa b
    obtain ⟨c0,c1,c2⟩:=h.cells
    clear h b
    go_wp2_with fail
    go_quiet (fail)
   rotate_left
   focus
    have n2:((d:Int)==47)=false:=by simp;omega
    have n2':¬(d:Int)=47:=by omega
    have HTW:Hid ((Xe s.data.toList q 47&&Xe s.data.toList (q+1) 47)=false):=by
     rw[Hid,Bool.and_eq_false_iff];right;rw[X7];rintro ⟨_,e⟩;rw[HD.out] at e;exact e2 e
    go_enter Tryz.func81,Tryz.ntmps81
    go_wp2_with fail
    refine HBK.out.mono ?_
    rintro e w1 ⟨rfl,h,b⟩
    have HF1:=Xa h
    have HB1:=Xa b
    obtain ⟨c0,c1,c2⟩:=h.cells
    clear h b
    go_wp2_with fail
    go_quiet (fail)
  rotate_left 2
  focus
   have n1:((c:Int)==47)=false:=by simp;omega
   have n1':¬(c:Int)=47:=by omega
   have HTW:Hid ((Xe s.data.toList q 47&&Xe s.data.toList (q+1) 47)=false):=by
    rw[Hid,Bool.and_eq_false_iff];left;rw[X7];rintro ⟨_,e⟩;rw[HC.out] at e;exact e1 e
   go_enter Tryz.func81,Tryz.ntmps81
   go_wp2_with fail
   refine HBK.out.mono ?_
   rintro e w1 ⟨rfl,h,b⟩
   have HF1:=Xa h
   have HB1:=Xa b
   obtain ⟨c0,c1,c2⟩:=h.cells
   clear h b
   go_wp2_with fail
   go_quiet (fail)
 rotate_left 3
 focus
  have hlt1:¬(q:Int)+1<(s.size:Int):=by omega
  have hd1:decide ((q:Int)+1<(s.size:Int))=false:=by simpa using hlt1
  have HTW:Hid ((Xe s.data.toList q 47&&Xe s.data.toList (q+1) 47)=false):=by
   rw[Hid,Bool.and_eq_false_iff];right;rw[X7];rintro ⟨e,_⟩;rw[HLN.out] at e;omega
  go_enter Tryz.func81,Tryz.ntmps81
  go_wp2_with fail
  refine HBK.out.mono ?_
  rintro e w1 ⟨rfl,h,b⟩
  have HF1:=Xa h
  have HB1:=Xa b
  obtain ⟨c0,c1,c2⟩:=h.cells
  clear h b
  go_wp2_with fail
  go_quiet (fail)
 all_goals
  have HDD:=Xa (Xq (w:=w1) nq)
  have HF2:=Xa (HF1.out.below HDD.out)
  have HB2:=Xa (HB1.out.trans (LB.of_below HDD.out))
  clear c0 c1 c2
  generalize w1.drewN nq=W0 at HDD HF2 HB2⊢
  clear nq
  have hi:=Zu 43 HF2.out (by omega)
  rw[HQQ.out,show (43:UInt8).toNat=43 from rfl] at hi
  cases a0:(Xe s.data.toList q 43)
  rotate_left
  ·have HEQ:Hid (Zy 5 s.data.toList q=some (15,1)):=by rw[Hid,Xta];rw[if_pos a0]
   rw[a0] at hi
   have HI:=Xa hi
   clear hi a0
   go_wp2_with fail
   refine HI.out.mono ?_
   rintro e w3 ⟨rfl,h3,b3⟩
   have h9:LfAt w3 rb base Z s (q+1) false fs:=h3
   have HF3:=Xa h9
   have HB3:=Xa (HB2.out.trans b3)
   clear h3 b3 h9
   go_wp2_with fail
   go_ret
   exact ⟨HB3.out, .inr ⟨15,1,HEQ.out,by decide,by decide,rfl,HF3.out⟩⟩
  rw[a0] at hi
  have HI0:=Xa hi
  have HA0:=Xa a0
  clear hi a0
  go_wp2_with fail
  refine HI0.out.mono ?_
  rintro e v0 ⟨rfl,h3,b3⟩
  have h9:LfAt v0 rb base Z s q false fs:=h3
  have HG0:=Xa h9
  have HC0:=Xa (HB2.out.trans b3)
  clear h3 b3 h9
  have hi:=Zu 45 HG0.out (by omega)
  rw[HQQ.out,show (45:UInt8).toNat=45 from rfl] at hi
  cases a1:(Xe s.data.toList q 45)
  rotate_left
  ·have HEQ:Hid (Zy 5 s.data.toList q=some (16,1)):=by have a0:=HA0.out;rw[Hid,Xta];rw[if_neg (by rw[a0];decide)];rw[if_pos a1]
   rw[a1] at hi
   have HI:=Xa hi
   clear hi a1
   go_wp2_with fail
   refine HI.out.mono ?_
   rintro e w3 ⟨rfl,h3,b3⟩
   have h9:LfAt w3 rb base Z s (q+1) false fs:=h3
   have HF3:=Xa h9
   have HB3:=Xa (HC0.out.trans b3)
   clear h3 b3 h9
   go_wp2_with fail
   go_ret
   exact ⟨HB3.out, .inr ⟨16,1,HEQ.out,by decide,by decide,rfl,HF3.out⟩⟩
  rw[a1] at hi
  have HI1:=Xa hi
  have HA1:=Xa a1
  clear hi a1
  go_wp2_with fail
  refine HI1.out.mono ?_
  rintro e v1 ⟨rfl,h3,b3⟩
  have h9:LfAt v1 rb base Z s q false fs:=h3
  have HG1:=Xa h9
  have HC1:=Xa (HC0.out.trans b3)
  clear h3 b3 h9
  have HEQ:Hid (Zy 5 s.data.toList q=none):=by rw[Hid,Xta];rw[if_neg (by rw[HA0.out];decide)];rw[if_neg (by rw[HA1.out];decide)]
  go_wp2_with fail
  go_ret
  exact ⟨HC1.out, .inl ⟨HEQ.out,rfl,HG1.out⟩⟩
theorem Xnl {rb base p q:Nat} {Z:Nat→Prop} {s:ByteArray} {fs:List FN} {w:World} {l:Int} (h1:1≤l) (h5:l≤5) (h:LfAt w rb base Z s p false fs) (hs:s.size≤4000) (hq:skF s.data.toList p=q):
  Calls Tryz.prog 81 #[.pointer (some ⟨rb,0,none⟩), .int .i64 l] w (Xdw l rb base Z s q fs w):=by
 rcases (show l=1∨l=2∨l=3∨l=4∨l=5 by omega) with rfl|rfl|rfl|rfl|rfl
 ·exact Xtn h hs hq
 ·exact Xto h hs hq
 ·exact Xtp h hs hq
 ·exact Xtq h hs hq
 ·exact Xtr h hs hq
end Go.Proofs.YtehihemfepbmfaaGreatDoor
