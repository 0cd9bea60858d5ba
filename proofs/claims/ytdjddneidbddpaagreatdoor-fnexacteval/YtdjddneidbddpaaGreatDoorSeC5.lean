import Derived.Test.YtdjddneidbddpaaGreatDoorSeD20
import Derived.Test.YtdjddneidbddpaaGreatDoorSeDD
import Derived.Test.YtdjddneidbddpaaGreatDoorSSort
import Derived.Test.YtdjddneidbddpaaGreatDoorSeF
namespace Go.Proofs.YtdjddneidbddpaaGreatDoor
set_option linter.unusedSectionVars false
set_option maxHeartbeats 6400000
open Go.RowKit
set_option linter.unusedSimpArgs false
set_option linter.unusedVariables false
set_option maxRecDepth 100000 in
theorem X0r {B E d j n:Nat} {fv v:Value} {fs:List FN} {x:FN} {ns:List VN} {w:World} (hok:okF fs=true) (ho:Zs B E fv fs d) (hx:NodeOk fs x) (k:x.kind=1) (hn:n<fs.length) (hxn:Xr fs n=x) (hse:SE B E fv fs (j+1) 0 w) (hv:NR E w v ns) (hj:j≤d) (hd:d≤100000):
  Calls Tryz.prog 35 #[.pointer (some ⟨E,0,none⟩), .int .i64 n,v] w (RunAns B E (100 *(d+2)) fv fs (evM (Xf fs d) x ns Xk (j,[])).1 (evM (Xf fs d) x ns Xk (j,[])).2.2 (evM (Xf fs d) x ns Xk (j,[])).2.1 w):=by
 obtain ⟨W1,W2,W3,b0,o0,cap,aC,cC,aK,cK,aI,cI,hp⟩:=Qo hse hn hxn
 obtain ⟨hfv,q0,q1,q2,z1,hW1,p0,s0,s1,s2,s3,s4,s5,hW2,hW3,g1,g2,g3,hse3,hbut,hbu3,hbox,hE,hB⟩:=hp
 have HS3:=Xa hse3
 have HBT:=Xa hbut
 have HB3:=Xa hbu3
 have HBX:=Xa hbox
 have HV3:Hid (NR E W3 v ns):=(hv.but hbut).below hbu3
 have HOK:=Xa hv.ok
 have HO:=Xa ho
 have HX:=Xa hx
 have HE:=Xa hE
 obtain ⟨av,cv,rfl⟩:=hv.slice
 obtain ⟨R,hR⟩:∃R,evM (Xf fs d) x ns Xk (j,[])=R:=⟨_,rfl⟩
 have HRR:=Xa hR
 rw[hR]
 have hnI:(n:Int)<(fs.length:Int):=by omega
 have hj0:¬((j:Int)+1=0):=by omega
 have hjb:(j:Int)≤1000000:=by omega
 obtain ⟨NF,hNF⟩:∃NF,fs.length=NF:=⟨_,rfl⟩
 rw[hNF] at q0 p0 hnI hn
 have y0:=(Xc hbu3 (by omega)).trans hbox.c0
 have y1:=(Xc hbu3 (by omega)).trans hbox.c1
 have y2:=(Xc hbu3 (by omega)).trans hbox.c2
 have y3:=(Xc hbu3 (by omega)).trans hbox.c3
 have y4:=(Xc hbu3 (by omega)).trans hbox.c4
 have y5:=(Xc hbu3 (by omega)).trans hbox.c5
 obtain ⟨KK,hKK⟩:∃KK,x.kind=KK:=⟨_,rfl⟩
 rw[hKK] at s0 hW2 y0
 obtain rfl:KK=1:=by omega
 have HNW:Hid (Now R Xy 0 j [ns]):=by
  have h1:=Ko (r:=Yf x ns) (fu:=j) (R:=R) (by rw[←hR,Xcc (.inl k)])
  have h2:Yf x ns=(0,ns):=by unfold Yf;rw[if_neg (by omega),if_neg (by omega),if_neg (by omega),if_neg (by omega),if_neg (by omega),if_neg (by omega)]
  rw[h2] at h1
  exact h1
 clear hse hv ho hx hxn hok hR hfv hse3 hbut hbu3 hbox hNF hKK hE hB k
 go_enter Tryz.func35,Tryz.ntmps35
 go_wp2_with fail
 refine (Kh HS3.out HV3.out).mono ?_
 rintro e w4 ha
 have HA:=Xa (Vl (M:=100 *(d+2)) ha HNW.out HBT.out (.of_below HB3.out) HE.out (by simp;omega))
 obtain ⟨sv,xs,rfl,-,-,hl⟩:=ha
 obtain ⟨a5,c5,rfl⟩:=hl.slice
 clear hl
 go_wp2_with fail
 go_ret
 exact HA.out
set_option maxRecDepth 100000 in
theorem Xw7 {B E d j n:Nat} {fv v:Value} {fs:List FN} {x:FN} {ns:List VN} {w:World} (hok:okF fs=true) (ho:Zs B E fv fs d) (hx:NodeOk fs x) (k:x.kind=5) (hn:n<fs.length) (hxn:Xr fs n=x) (hse:SE B E fv fs (j+1) 0 w) (hv:NR E w v ns) (hj:j≤d) (hd:d≤100000):
  Calls Tryz.prog 35 #[.pointer (some ⟨E,0,none⟩), .int .i64 n,v] w (RunAns B E (100 *(d+2)) fv fs (evM (Xf fs d) x ns Xk (j,[])).1 (evM (Xf fs d) x ns Xk (j,[])).2.2 (evM (Xf fs d) x ns Xk (j,[])).2.1 w):=by
 obtain ⟨W1,W2,W3,b0,o0,cap,aC,cC,aK,cK,aI,cI,hp⟩:=Qo hse hn hxn
 obtain ⟨hfv,q0,q1,q2,z1,hW1,p0,s0,s1,s2,s3,s4,s5,hW2,hW3,g1,g2,g3,hse3,hbut,hbu3,hbox,hE,hB⟩:=hp
 have HS3:=Xa hse3
 have HBT:=Xa hbut
 have HB3:=Xa hbu3
 have HBX:=Xa hbox
 have HV3:Hid (NR E W3 v ns):=(hv.but hbut).below hbu3
 have HOK:=Xa hv.ok
 have HO:=Xa ho
 have HX:=Xa hx
 have HE:=Xa hE
 obtain ⟨av,cv,rfl⟩:=hv.slice
 obtain ⟨R,hR⟩:∃R,evM (Xf fs d) x ns Xk (j,[])=R:=⟨_,rfl⟩
 have HRR:=Xa hR
 rw[hR]
 have hnI:(n:Int)<(fs.length:Int):=by omega
 have hj0:¬((j:Int)+1=0):=by omega
 have hjb:(j:Int)≤1000000:=by omega
 obtain ⟨NF,hNF⟩:∃NF,fs.length=NF:=⟨_,rfl⟩
 rw[hNF] at q0 p0 hnI hn
 have y0:=(Xc hbu3 (by omega)).trans hbox.c0
 have y1:=(Xc hbu3 (by omega)).trans hbox.c1
 have y2:=(Xc hbu3 (by omega)).trans hbox.c2
 have y3:=(Xc hbu3 (by omega)).trans hbox.c3
 have y4:=(Xc hbu3 (by omega)).trans hbox.c4
 have y5:=(Xc hbu3 (by omega)).trans hbox.c5
 obtain ⟨KK,hKK⟩:∃KK,x.kind=KK:=⟨_,rfl⟩
 rw[hKK] at s0 hW2 y0
 have hC5:=(hx.cst k).2
 have HCN:Hid (NR E W3 (.slice aC x.cst.length cC) x.cst):=(NR.old (hbox.inn.cst) hC5 hB (by omega)).below hbu3
 obtain rfl:KK=5:=by omega
 have HNW:Hid (Now R Xy 0 j [x.cst]):=by
  have h1:=Ko (r:=Yf x ns) (fu:=j) (R:=R) (by rw[←hR,Xcc (by omega)])
  have h2:Yf x ns=(0,x.cst):=by unfold Yf;rw[if_neg (by omega),if_neg (by omega),if_pos k]
  rw[h2] at h1
  exact h1
 clear hse hv ho hx hxn hok hR hfv hse3 hbut hbu3 hbox hNF hKK hE hB k hC5
 go_enter Tryz.func35,Tryz.ntmps35
 go_wp2_with fail
 refine (Kh HS3.out HCN.out).mono ?_
 rintro e w4 ha
 have HA:=Xa (Vl (M:=100 *(d+2)) ha HNW.out HBT.out (.of_below HB3.out) HE.out (by simp;omega))
 obtain ⟨sv,xs,rfl,-,-,hl⟩:=ha
 obtain ⟨a5,c5,rfl⟩:=hl.slice
 clear hl
 go_wp2_with fail
 go_ret
 exact HA.out
set_option maxRecDepth 100000 in
theorem Xrr {B E d j n:Nat} {fv v:Value} {fs:List FN} {x:FN} {ns:List VN} {w:World} (hok:okF fs=true) (ho:Zs B E fv fs d) (hx:NodeOk fs x) (k:x.kind=11) (hn:n<fs.length) (hxn:Xr fs n=x) (hse:SE B E fv fs (j+1) 0 w) (hv:NR E w v ns) (hj:j≤d) (hd:d≤100000):
  Calls Tryz.prog 35 #[.pointer (some ⟨E,0,none⟩), .int .i64 n,v] w (RunAns B E (100 *(d+2)) fv fs (evM (Xf fs d) x ns Xk (j,[])).1 (evM (Xf fs d) x ns Xk (j,[])).2.2 (evM (Xf fs d) x ns Xk (j,[])).2.1 w):=by
 obtain ⟨W1,W2,W3,b0,o0,cap,aC,cC,aK,cK,aI,cI,hp⟩:=Qo hse hn hxn
 obtain ⟨hfv,q0,q1,q2,z1,hW1,p0,s0,s1,s2,s3,s4,s5,hW2,hW3,g1,g2,g3,hse3,hbut,hbu3,hbox,hE,hB⟩:=hp
 have HS3:=Xa hse3
 have HBT:=Xa hbut
 have HB3:=Xa hbu3
 have HBX:=Xa hbox
 have HV3:Hid (NR E W3 v ns):=(hv.but hbut).below hbu3
 have HOK:=Xa hv.ok
 have HO:=Xa ho
 have HX:=Xa hx
 have HE:=Xa hE
 obtain ⟨av,cv,rfl⟩:=hv.slice
 obtain ⟨R,hR⟩:∃R,evM (Xf fs d) x ns Xk (j,[])=R:=⟨_,rfl⟩
 have HRR:=Xa hR
 rw[hR]
 have hnI:(n:Int)<(fs.length:Int):=by omega
 have hj0:¬((j:Int)+1=0):=by omega
 have hjb:(j:Int)≤1000000:=by omega
 obtain ⟨NF,hNF⟩:∃NF,fs.length=NF:=⟨_,rfl⟩
 rw[hNF] at q0 p0 hnI hn
 have y0:=(Xc hbu3 (by omega)).trans hbox.c0
 have y1:=(Xc hbu3 (by omega)).trans hbox.c1
 have y2:=(Xc hbu3 (by omega)).trans hbox.c2
 have y3:=(Xc hbu3 (by omega)).trans hbox.c3
 have y4:=(Xc hbu3 (by omega)).trans hbox.c4
 have y5:=(Xc hbu3 (by omega)).trans hbox.c5
 obtain ⟨KK,hKK⟩:∃KK,x.kind=KK:=⟨_,rfl⟩
 rw[hKK] at s0 hW2 y0
 obtain rfl:KK=11:=by omega
 obtain ⟨r,hr⟩:∃r,(Xa9 ns,G9 ns)=r:=⟨_,rfl⟩
 have HNW:Hid (Now R Xy r.1 j (Y0 r)):=by
  have h1:=Ko (r:=Yf x ns) (fu:=j) (R:=R) (by rw[←hR,Xcc (by omega)])
  have h2:Yf x ns=r:=by rw[←hr];unfold Yf;rw[if_neg (by omega),if_neg (by omega),if_neg (by omega),if_pos k]
  rw[h2] at h1
  exact h1
 have HC:=Xa (Xzt HV3.out (by omega))
 rw[hr] at HC
 clear hse hv ho hx hxn hok hR hfv hse3 hbut hbu3 hbox hNF hKK hE hB k hr
 go_enter Tryz.func35,Tryz.ntmps35
 go_wp2_with fail
 refine HC.out.mono ?_
 rintro e w4 ⟨u,rfl,⟨a4,l4,c4,rfl⟩,hnr,hb4⟩
 have HB4:=Xa (HB3.out.trans (hb4.mono (by omega)))
 have HCO:=Xa (Xab (HS3.out.below hb4) ⟨a4,l4,c4,rfl⟩ hnr)
 have HL1:Hid ((Y0 r).length≤100 *(d+2)):=by have:=Vm r;unfold Hid;omega
 obtain ⟨rc,hrc⟩:∃rc,r.1=rc:=⟨_,rfl⟩
 rw[hrc] at HCO HNW⊢
 clear hnr hb4 hrc
 go_wp2_with fail
 refine HCO.out.mono ?_
 rintro e w5 ha
 have HA:=Xa (Vl (M:=100 *(d+2)) ha HNW.out HBT.out (.of_below HB4.out) HE.out HL1.out)
 obtain ⟨sv,xs,rfl,-,-,hl⟩:=ha
 obtain ⟨a5,c5,rfl⟩:=hl.slice
 obtain ⟨L5,hL5⟩:∃L5,(Y0 r).length=L5:=⟨_,rfl⟩
 rw[hL5] at HA⊢
 clear hl hL5
 go_wp2_with fail
 go_ret
 exact HA.out
set_option maxRecDepth 100000 in
theorem Xw8 {B E d j n:Nat} {fv v:Value} {fs:List FN} {x:FN} {ns:List VN} {w:World} (hok:okF fs=true) (ho:Zs B E fv fs d) (hx:NodeOk fs x) (k:x.kind=12) (hn:n<fs.length) (hxn:Xr fs n=x) (hse:SE B E fv fs (j+1) 0 w) (hv:NR E w v ns) (hj:j≤d) (hd:d≤100000):
  Calls Tryz.prog 35 #[.pointer (some ⟨E,0,none⟩), .int .i64 n,v] w (RunAns B E (100 *(d+2)) fv fs (evM (Xf fs d) x ns Xk (j,[])).1 (evM (Xf fs d) x ns Xk (j,[])).2.2 (evM (Xf fs d) x ns Xk (j,[])).2.1 w):=by
 obtain ⟨W1,W2,W3,b0,o0,cap,aC,cC,aK,cK,aI,cI,hp⟩:=Qo hse hn hxn
 obtain ⟨hfv,q0,q1,q2,z1,hW1,p0,s0,s1,s2,s3,s4,s5,hW2,hW3,g1,g2,g3,hse3,hbut,hbu3,hbox,hE,hB⟩:=hp
 have HS3:=Xa hse3
 have HBT:=Xa hbut
 have HB3:=Xa hbu3
 have HBX:=Xa hbox
 have HV3:Hid (NR E W3 v ns):=(hv.but hbut).below hbu3
 have HOK:=Xa hv.ok
 have HO:=Xa ho
 have HX:=Xa hx
 have HE:=Xa hE
 obtain ⟨av,cv,rfl⟩:=hv.slice
 obtain ⟨R,hR⟩:∃R,evM (Xf fs d) x ns Xk (j,[])=R:=⟨_,rfl⟩
 have HRR:=Xa hR
 rw[hR]
 have hnI:(n:Int)<(fs.length:Int):=by omega
 have hj0:¬((j:Int)+1=0):=by omega
 have hjb:(j:Int)≤1000000:=by omega
 obtain ⟨NF,hNF⟩:∃NF,fs.length=NF:=⟨_,rfl⟩
 rw[hNF] at q0 p0 hnI hn
 have y0:=(Xc hbu3 (by omega)).trans hbox.c0
 have y1:=(Xc hbu3 (by omega)).trans hbox.c1
 have y2:=(Xc hbu3 (by omega)).trans hbox.c2
 have y3:=(Xc hbu3 (by omega)).trans hbox.c3
 have y4:=(Xc hbu3 (by omega)).trans hbox.c4
 have y5:=(Xc hbu3 (by omega)).trans hbox.c5
 obtain ⟨KK,hKK⟩:∃KK,x.kind=KK:=⟨_,rfl⟩
 rw[hKK] at s0 hW2 y0
 obtain rfl:KK=12:=by omega
 obtain ⟨r,hr⟩:∃r,Vf ns=r:=⟨_,rfl⟩
 have HNW:Hid (Now R Xy r.1 j (Y0 r)):=by
  have h1:=Ko (r:=Yf x ns) (fu:=j) (R:=R) (by rw[←hR,Xcc (by omega)])
  have h2:Yf x ns=r:=by rw[←hr];unfold Yf;rw[if_neg (by omega),if_neg (by omega),if_neg (by omega),if_neg (by omega),if_pos k]
  rw[h2] at h1
  exact h1
 have HC:=Xa (Xyq HV3.out (by omega))
 rw[hr] at HC
 clear hse hv ho hx hxn hok hR hfv hse3 hbut hbu3 hbox hNF hKK hE hB k hr
 go_enter Tryz.func35,Tryz.ntmps35
 go_wp2_with fail
 refine HC.out.mono ?_
 rintro e w4 ⟨u,rfl,⟨a4,l4,c4,rfl⟩,hnr,hb4⟩
 have HB4:=Xa (HB3.out.trans (hb4.mono (by omega)))
 have HCO:=Xa (Xab (HS3.out.below hb4) ⟨a4,l4,c4,rfl⟩ hnr)
 have HL1:Hid ((Y0 r).length≤100 *(d+2)):=by have:=Vm r;unfold Hid;omega
 obtain ⟨rc,hrc⟩:∃rc,r.1=rc:=⟨_,rfl⟩
 rw[hrc] at HCO HNW⊢
 clear hnr hb4 hrc
 go_wp2_with fail
 refine HCO.out.mono ?_
 rintro e w5 ha
 have HA:=Xa (Vl (M:=100 *(d+2)) ha HNW.out HBT.out (.of_below HB4.out) HE.out HL1.out)
 obtain ⟨sv,xs,rfl,-,-,hl⟩:=ha
 obtain ⟨a5,c5,rfl⟩:=hl.slice
 obtain ⟨L5,hL5⟩:∃L5,(Y0 r).length=L5:=⟨_,rfl⟩
 rw[hL5] at HA⊢
 clear hl hL5
 go_wp2_with fail
 go_ret
 exact HA.out
set_option maxRecDepth 100000 in
theorem X3c {B E d j n:Nat} {fv v:Value} {fs:List FN} {x:FN} {ns:List VN} {w:World} (hok:okF fs=true) (ho:Zs B E fv fs d) (hx:NodeOk fs x) (k:x.kind=13) (hn:n<fs.length) (hxn:Xr fs n=x) (hse:SE B E fv fs (j+1) 0 w) (hv:NR E w v ns) (hj:j≤d) (hd:d≤100000):
  Calls Tryz.prog 35 #[.pointer (some ⟨E,0,none⟩), .int .i64 n,v] w (RunAns B E (100 *(d+2)) fv fs (evM (Xf fs d) x ns Xk (j,[])).1 (evM (Xf fs d) x ns Xk (j,[])).2.2 (evM (Xf fs d) x ns Xk (j,[])).2.1 w):=by
 obtain ⟨W1,W2,W3,b0,o0,cap,aC,cC,aK,cK,aI,cI,hp⟩:=Qo hse hn hxn
 obtain ⟨hfv,q0,q1,q2,z1,hW1,p0,s0,s1,s2,s3,s4,s5,hW2,hW3,g1,g2,g3,hse3,hbut,hbu3,hbox,hE,hB⟩:=hp
 have HS3:=Xa hse3
 have HBT:=Xa hbut
 have HB3:=Xa hbu3
 have HBX:=Xa hbox
 have HV3:Hid (NR E W3 v ns):=(hv.but hbut).below hbu3
 have HOK:=Xa hv.ok
 have HO:=Xa ho
 have HX:=Xa hx
 have HE:=Xa hE
 obtain ⟨av,cv,rfl⟩:=hv.slice
 obtain ⟨R,hR⟩:∃R,evM (Xf fs d) x ns Xk (j,[])=R:=⟨_,rfl⟩
 have HRR:=Xa hR
 rw[hR]
 have hnI:(n:Int)<(fs.length:Int):=by omega
 have hj0:¬((j:Int)+1=0):=by omega
 have hjb:(j:Int)≤1000000:=by omega
 obtain ⟨NF,hNF⟩:∃NF,fs.length=NF:=⟨_,rfl⟩
 rw[hNF] at q0 p0 hnI hn
 have y0:=(Xc hbu3 (by omega)).trans hbox.c0
 have y1:=(Xc hbu3 (by omega)).trans hbox.c1
 have y2:=(Xc hbu3 (by omega)).trans hbox.c2
 have y3:=(Xc hbu3 (by omega)).trans hbox.c3
 have y4:=(Xc hbu3 (by omega)).trans hbox.c4
 have y5:=(Xc hbu3 (by omega)).trans hbox.c5
 obtain ⟨KK,hKK⟩:∃KK,x.kind=KK:=⟨_,rfl⟩
 rw[hKK] at s0 hW2 y0
 obtain rfl:KK=13:=by omega
 have HNW:Hid (Now R Xy 0 j [Qd (!Xx ns)]):=by
  have h1:=Ko (r:=Yf x ns) (fu:=j) (R:=R) (by rw[←hR,Xcc (by omega)])
  have h2:Yf x ns=(0,Qd (!Xx ns)):=by unfold Yf;rw[if_neg (by omega),if_neg (by omega),if_neg (by omega),if_neg (by omega),if_neg (by omega),if_pos k]
  rw[h2] at h1
  exact h1
 have HC:=Xa (Xcp HV3.out)
 obtain ⟨tb,htb⟩:∃tb,Xx ns=tb:=⟨_,rfl⟩
 rw[htb] at HC HNW
 clear hse hv ho hx hxn hok hR hfv hse3 hbut hbu3 hbox hNF hKK hE hB k htb
 go_enter Tryz.func35,Tryz.ntmps35
 go_wp2_with fail
 refine HC.out.mono ?_
 rintro e w4 ⟨rfl,hb4⟩
 have HB4:=Xa (HB3.out.trans (hb4.mono (by omega)))
 have HS4:=Xa (HS3.out.below hb4)
 have z4:=HB4.out.size
 clear hb4
 go_wp2_with fail
 refine (Xao E (!tb) w4 (by have:=HE.out;omega)).mono ?_
 rintro e w5 ⟨u,rfl,⟨a5,c5,rfl⟩,hnr,hb5⟩
 have HB5:=Xa (HB4.out.trans (hb5.mono (by omega)))
 have HCO:=Xa (Kh (HS4.out.below hb5) hnr)
 clear hnr hb5
 go_wp2_with fail
 refine HCO.out.mono ?_
 rintro e w6 ha
 have HA:=Xa (Vl (M:=100 *(d+2)) ha HNW.out HBT.out (.of_below HB5.out) HE.out (by simp;omega))
 obtain ⟨sv,xs,rfl,-,-,hl⟩:=ha
 obtain ⟨a6,c6,rfl⟩:=hl.slice
 clear hl
 go_wp2_with fail
 go_ret
 exact HA.out
set_option maxRecDepth 100000 in
theorem Xw9 {B E d j n:Nat} {fv v:Value} {fs:List FN} {x:FN} {ns:List VN} {w:World} (hok:okF fs=true) (ho:Zs B E fv fs d) (hx:NodeOk fs x) (k:x.kind=14) (hn:n<fs.length) (hxn:Xr fs n=x) (hse:SE B E fv fs (j+1) 0 w) (hv:NR E w v ns) (hj:j≤d) (hd:d≤100000):
  Calls Tryz.prog 35 #[.pointer (some ⟨E,0,none⟩), .int .i64 n,v] w (RunAns B E (100 *(d+2)) fv fs (evM (Xf fs d) x ns Xk (j,[])).1 (evM (Xf fs d) x ns Xk (j,[])).2.2 (evM (Xf fs d) x ns Xk (j,[])).2.1 w):=by
 obtain ⟨W1,W2,W3,b0,o0,cap,aC,cC,aK,cK,aI,cI,hp⟩:=Qo hse hn hxn
 obtain ⟨hfv,q0,q1,q2,z1,hW1,p0,s0,s1,s2,s3,s4,s5,hW2,hW3,g1,g2,g3,hse3,hbut,hbu3,hbox,hE,hB⟩:=hp
 have HS3:=Xa hse3
 have HBT:=Xa hbut
 have HB3:=Xa hbu3
 have HBX:=Xa hbox
 have HV3:Hid (NR E W3 v ns):=(hv.but hbut).below hbu3
 have HOK:=Xa hv.ok
 have HO:=Xa ho
 have HX:=Xa hx
 have HE:=Xa hE
 obtain ⟨av,cv,rfl⟩:=hv.slice
 obtain ⟨R,hR⟩:∃R,evM (Xf fs d) x ns Xk (j,[])=R:=⟨_,rfl⟩
 have HRR:=Xa hR
 rw[hR]
 have hnI:(n:Int)<(fs.length:Int):=by omega
 have hj0:¬((j:Int)+1=0):=by omega
 have hjb:(j:Int)≤1000000:=by omega
 obtain ⟨NF,hNF⟩:∃NF,fs.length=NF:=⟨_,rfl⟩
 rw[hNF] at q0 p0 hnI hn
 have y0:=(Xc hbu3 (by omega)).trans hbox.c0
 have y1:=(Xc hbu3 (by omega)).trans hbox.c1
 have y2:=(Xc hbu3 (by omega)).trans hbox.c2
 have y3:=(Xc hbu3 (by omega)).trans hbox.c3
 have y4:=(Xc hbu3 (by omega)).trans hbox.c4
 have y5:=(Xc hbu3 (by omega)).trans hbox.c5
 obtain ⟨KK,hKK⟩:∃KK,x.kind=KK:=⟨_,rfl⟩
 rw[hKK] at s0 hW2 y0
 obtain rfl:KK=14:=by omega
 have HNW:Hid (Now R Xy 0 j []):=Now.start (by rw[←hR,Xpb k]) (by simp)
 have HL3:Hid (LR E (w.heap.size+1) W3 (.slice (some ⟨w.heap.size+1,0,none⟩) 0 0) [] []):=by rw[Hid,←hW3,←g2];exact ⟨World.ownsRow_lit W2 #[] 0 (Nat.le_refl _) (by simp[maxLen]) rfl,by omega,fun j hj=>absurd hj (by simp)⟩
 clear hse hv ho hx hxn hok hR hfv hse3 hbut hbu3 hbox hNF hKK hE hB k
 go_enter Tryz.func35,Tryz.ntmps35
 go_wp2_with fail
 refine (Zc _ 0 0 HS3.out).mono ?_
 rintro e w4 ⟨rfl,hs4,hb4⟩
 rw[W8 (by omega)] at hs4
 have HA:=Xa (Q2 (M:=100 *(d+2)) (e:= .returned (.slice (some ⟨w.heap.size+1,0,none⟩) 0 0)) rfl HNW.out hs4 HBT.out ((ButE.of_below HB3.out).trans hb4) (HL3.out.keep hb4) (by omega) HE.out (by simp))
 clear hs4 hb4
 go_wp2_with fail
 go_ret
 exact HA.out
set_option maxRecDepth 100000 in
theorem X0s {B E d j n:Nat} {fv v:Value} {fs:List FN} {x:FN} {ns:List VN} {w:World} (hok:okF fs=true) (ho:Zs B E fv fs d) (hx:NodeOk fs x) (k:x.kind=4) (hn:n<fs.length) (hxn:Xr fs n=x) (hse:SE B E fv fs (j+1) 0 w) (hv:NR E w v ns) (hj:j≤d) (hd:d≤100000):
  Calls Tryz.prog 35 #[.pointer (some ⟨E,0,none⟩), .int .i64 n,v] w (RunAns B E (100 *(d+2)) fv fs (evM (Xf fs d) x ns Xk (j,[])).1 (evM (Xf fs d) x ns Xk (j,[])).2.2 (evM (Xf fs d) x ns Xk (j,[])).2.1 w):=by
 obtain ⟨W1,W2,W3,b0,o0,cap,aC,cC,aK,cK,aI,cI,hp⟩:=Qo hse hn hxn
 obtain ⟨hfv,q0,q1,q2,z1,hW1,p0,s0,s1,s2,s3,s4,s5,hW2,hW3,g1,g2,g3,hse3,hbut,hbu3,hbox,hE,hB⟩:=hp
 have HS3:=Xa hse3
 have HBT:=Xa hbut
 have HB3:=Xa hbu3
 have HBX:=Xa hbox
 have HV3:Hid (NR E W3 v ns):=(hv.but hbut).below hbu3
 have HOK:=Xa hv.ok
 have HO:=Xa ho
 have HX:=Xa hx
 have HE:=Xa hE
 obtain ⟨av,cv,rfl⟩:=hv.slice
 obtain ⟨R,hR⟩:∃R,evM (Xf fs d) x ns Xk (j,[])=R:=⟨_,rfl⟩
 have HRR:=Xa hR
 rw[hR]
 have hnI:(n:Int)<(fs.length:Int):=by omega
 have hj0:¬((j:Int)+1=0):=by omega
 have hjb:(j:Int)≤1000000:=by omega
 obtain ⟨NF,hNF⟩:∃NF,fs.length=NF:=⟨_,rfl⟩
 rw[hNF] at q0 p0 hnI hn
 have y0:=(Xc hbu3 (by omega)).trans hbox.c0
 have y1:=(Xc hbu3 (by omega)).trans hbox.c1
 have y2:=(Xc hbu3 (by omega)).trans hbox.c2
 have y3:=(Xc hbu3 (by omega)).trans hbox.c3
 have y4:=(Xc hbu3 (by omega)).trans hbox.c4
 have y5:=(Xc hbu3 (by omega)).trans hbox.c5
 obtain ⟨KK,hKK⟩:∃KK,x.kind=KK:=⟨_,rfl⟩
 rw[hKK] at s0 hW2 y0
 obtain rfl:KK=4:=by omega
 obtain ⟨p1a,p1b⟩:=HV3.out.sized
 obtain ⟨b1,o1,c1,aK1,nK1,cK1,aI1,nI1,cI1,ev,hb1,u1,u2,d0,d1,d2,d3,d4⟩:=Jf HV3.out.nodes (by omega)
 injection ev with ev1 ev2 ev3
 subst ev1 ev3
 clear u1 u2 ev2 d1 d2 d3 d4
 have HKR:Hid (R=if (Xd ns).kind=5∨(Xd ns).kind=6 then Xo Xk (Ys ns) (j,[]) else (2,(j,[]))):=by rw[Hid,←hR,Xs3 k]
 have HKI:Hid (1≤(Xd ns).kind∧(Xd ns).kind≤6):=Q4 HOK.out
 have HPL:Hid ((Ys ns).length≤80):=by unfold Hid;rw[Qv];have:=(Xp HOK.out).2.2.2 (ns.length-1) (by omega);unfold Xe;omega
 have HCP:=Xa (Xt1 HV3.out (by omega))
 obtain ⟨kr,hkr⟩:∃kr,(Xd ns).kind=kr:=⟨_,rfl⟩
 rw[hkr] at HKR HKI d0
 obtain ⟨N1,hN1⟩:∃N1,ns.length=N1:=⟨_,rfl⟩
 rw[hN1] at p1a p1b d0 HCP⊢
 have z9:((N1:Int)-1).toNat=N1-1:=by omega
 by_cases hlt:kr<5
 ·have HNW:Hid (Now R Xy 2 j []):=Xpa (by decide) (by rw[HKR.out,if_neg (by omega)])
  clear hse hv ho hx hxn hok hR hfv hse3 hbut hbu3 hbox hNF hKK hE hB k hkr hN1
  go_enter Tryz.func35,Tryz.ntmps35
  go_wp2_with fail
  refine (Xjx none 0 0 HS3.out (by decide)).mono ?_
  rintro e w4 ha
  have HA:=Xa (Vl (M:=100 *(d+2)) ha HNW.out HBT.out (.of_below HB3.out) HE.out (by simp))
  obtain ⟨sv,xs,rfl,-,-,hl⟩:=ha
  obtain ⟨a5,c5,rfl⟩:=hl.slice
  clear hl
  go_wp2_with fail
  go_ret
  exact HA.out
 ·have HNW:Hid (Now R Xy (Y6 0 (Ys ns).length) j (Ys ns)):=by
   have h1:=Wz (R:=R) (c0:=0) (l:=Ys ns) (m:=Ys ns) (out:= []) (fu:=j) (by simp) (fun _=>rfl) (by rw[if_pos rfl,HKR.out,if_pos (by have:=HKI.out;omega)])
   unfold Hid
   simpa using h1
  clear hse hv ho hx hxn hok hR hfv hse3 hbut hbu3 hbox hNF hKK hE hB k hkr hN1
  go_enter Tryz.func35,Tryz.ntmps35
  go_wp2_with fail
  refine HCP.out.mono ?_
  rintro e w4 ⟨sv,xs,rfl,hl4,hb4⟩
  have HB4:=Xa (HB3.out.trans (hb4.mono (by omega)))
  have HS4:=Xa (HS3.out.below hb4)
  have HL4:=Xa hl4
  obtain ⟨a4,c4,rfl⟩:=hl4.slice
  obtain ⟨M4,hM4⟩:∃M4,(Ys ns).length=M4:=⟨_,rfl⟩
  rw[hM4] at HL4 HNW HPL⊢
  have HM4:=Xa hM4
  clear hl4 hb4 hM4
  go_wp2_with fail
  refine (Zc a4 M4 c4 HS4.out).mono ?_
  rintro e w5 ⟨rfl,hs5,hb5⟩
  have HA:=Xa (Q2 (M:=100 *(d+2)) (e:= .returned (.slice a4 M4 c4)) rfl HNW.out hs5 HBT.out ((ButE.of_below HB4.out).trans hb5) (HL4.out.keep hb5) (by omega) HE.out (by have:=HPL.out;rw[HM4.out];omega))
  clear hs5 hb5
  go_wp2_with fail
  go_ret
  exact HA.out

set_option maxRecDepth 100000 in
theorem Xo8 {B E fu:Nat} {fv v kc kn ki:Value} {fs:List FN} {x:FN} {ns:List VN} {w:World} (hx:NodeOk fs x) (k:x.kind=2) (hin:FNodeIn B w x kc kn ki) (hs:SE B E fv fs fu 0 w) (hv:NR E w v ns) (hr:(Xd ns).kind=6) (hh:Y5 (Xd ns).keys x.name=true):
  Calls Tryz.prog 71 #[.pointer (some ⟨E,0,none⟩),v,Ya x kc kn ki] w (Q3 B E fv fs (Yf x ns).1 (Y0 (Yf x ns)) fu w):=by
 have HX:=Xa hx
 have HOK:=Xa hv.ok
 have HS:=Xa hs
 have HV:=Xa hv
 have HIN:=Xa hin
 obtain ⟨p1a,p1b⟩:=hv.sized
 have hkr:=Q4 hv.ok
 obtain ⟨_,b1,o1,c1,rfl,hb1,hcx⟩:∃(_:ns.length≤1759218604416) (b o c:Nat),v= .slice (some ⟨b,o,none⟩) ns.length c∧b<w.heap.size∧∃ka ki,NodeAt w.heap.size w b (o+(ns.length-1) *5) (Xd ns) ka ki:=by
  obtain ⟨hl,a,c,e,hx⟩:=hv.nodes
  obtain ⟨b,o,ea,hb,hcc⟩:=hx (by omega)
  exact ⟨hl,b,o,c,by rw[e,ea],hb,hcc _ (by omega)⟩
 obtain ⟨ka1,ki1,hn1⟩:=hcx
 have HNI:=Xa hn1.inn
 obtain ⟨_,_,aK1,cK1,rfl,_⟩:=id hn1.inn.keys
 obtain ⟨_,_,aI1,cI1,rfl,hki⟩:=id hn1.inn.kids
 have HKI:=Xa hki
 have d0:=hn1.c0
 have d1:=hn1.c1
 have d2:=hn1.c2
 have d3:=hn1.c3
 have d4:=hn1.c4
 obtain ⟨_,aC,cC,rfl,_⟩:=id hin.cst
 obtain ⟨_,_,aK,cK,rfl,_⟩:=id hin.names
 obtain ⟨_,_,aI,cI,rfl,_⟩:=id hin.kids
 have hE:=hs.lt
 obtain ⟨hpl0,hpl3⟩:=J5 hx
 have hk80:(Xd ns).kids.length≤80:=by have:=(Xp hv.ok).2.2.2 (ns.length-1) (by omega);unfold Xd;omega
 have HRK:Hid (Xe ns=(Xd ns).kids):=rfl
 have HKP:Hid (∀W,Below w.heap.size w W→∀j,j<(Xe ns).length→Calls Tryz.prog 129 #[.slice (some ⟨b1,o1,none⟩) ns.length c1, .int .i64 (Xm (Xe ns) j)] W (Gg E (PL ns j) W)):=fun W hb j hj=>Kt (hv.below hb) (Nat.lt_of_lt_of_le hE hb.size) hj
 have HSB:Hid (∀W,Below w.heap.size w W→SE B E fv fs fu 0 W):=fun W hb=>hs.below hb
 obtain ⟨rr,hrr⟩:∃rr,Yf x ns=rr:=⟨_,rfl⟩
 have HRR:=Xa hrr
 rw[hrr]
 have HQ2:Hid (x.kind=2→rr=Jb ns x.name):=fun k=>by rw[←hrr];unfold Yf;rw[if_pos k]
 have HQ3:Hid (x.kind=3→rr=atR ns x.place):=fun k=>by rw[←hrr];unfold Yf;rw[if_neg (by omega),if_pos k]
 obtain ⟨W1,hW1⟩:∃W1,w.alloc (.cells #[.int .i64 x.kind, .string x.name, .int .i64 x.place, .slice aC x.cst.length cC, .slice aK x.names.length cK, .slice aI x.kids.length cI] 84)=W1:=⟨_,rfl⟩
 obtain ⟨W2,hW2⟩:∃W2,W1.alloc (.cells #[.int .i64 (Xd ns).kind, .int .i64 (Xd ns).n, .string (Xd ns).s, .slice aK1 (Xd ns).keys.length cK1, .slice aI1 (Xd ns).kids.length cI1] 75)=W2:=⟨_,rfl⟩
 obtain ⟨W3,hW3⟩:∃W3,W2.alloc (.cells #[.bool (x.kind==2), .string x.name, .int .i64 x.place] 183)=W3:=⟨_,rfl⟩
 have hz1:W1.heap.size=w.heap.size+1:=by rw[←hW1];simp
 have hz2:W2.heap.size=w.heap.size+2:=by rw[←hW2];simp[hz1]
 have hz3:W3.heap.size=w.heap.size+3:=by rw[←hW3];simp[hz2]
 have hB1:Below w.heap.size w W1:=by rw[←hW1];exact (Below.refl _ _).alloc (Nat.le_refl _) _
 have hB2:Below w.heap.size w W2:=by rw[←hW2];exact hB1.alloc (by omega) _
 have hB3:Below w.heap.size w W3:=by rw[←hW3];exact hB2.alloc (by omega) _
 have b12:Below (w.heap.size+1) W1 W2:=by rw[←hW2];exact (Below.refl _ _).alloc (by omega) _
 have b23:Below (w.heap.size+2) W2 W3:=by rw[←hW3];exact (Below.refl _ _).alloc (by omega) _
 have hk1:W1.heap[w.heap.size]? =some (.cells #[.int .i64 x.kind, .string x.name, .int .i64 x.place, .slice aC x.cst.length cC, .slice aK x.names.length cK, .slice aI x.kids.length cI] 84 (0,0)):=by rw[←hW1];exact heap_alloc_new w _
 have hk2:W2.heap[w.heap.size+1]? =some (.cells #[.int .i64 (Xd ns).kind, .int .i64 (Xd ns).n, .string (Xd ns).s, .slice aK1 (Xd ns).keys.length cK1, .slice aI1 (Xd ns).kids.length cI1] 75 (0,0)):=by rw[←hW2,←hz1];exact heap_alloc_new W1 _
 have hk3:W3.heap[w.heap.size+2]? =some (.cells #[.bool (x.kind==2), .string x.name, .int .i64 x.place] 183 (0,0)):=by rw[←hW3,←hz2];exact heap_alloc_new W2 _
 have hk2':W3.heap[w.heap.size+1]? =some (.cells #[.int .i64 (Xd ns).kind, .int .i64 (Xd ns).n, .string (Xd ns).s, .slice aK1 (Xd ns).keys.length cK1, .slice aI1 (Xd ns).kids.length cI1] 75 (0,0)):=(b23.block _ (by omega)).trans hk2
 have f0:=Xg hk1 0
 have f1:=Xg hk1 1
 have f2:=Xg hk1 2
 have f0':=(Xc b12 (by omega:w.heap.size<w.heap.size+1)).trans f0
 have f1':=(Xc b12 (by omega:w.heap.size<w.heap.size+1)).trans f1
 have f2':=(Xc b12 (by omega:w.heap.size<w.heap.size+1)).trans f2
 have r0:=Xg hk2' 0
 have r1:=Xg hk2' 1
 have r2:=Xg hk2' 2
 have r3:=Xg hk2' 3
 have r4:=Xg hk2' 4
 have t0:=Xg hk3 0
 have t1:=Xg hk3 1
 have t2:=Xg hk3 2
 have t3:W3.frozen? ⟨w.heap.size+2,2,none⟩=false:=by simp[World.frozen?,hk3]
 simp at f0 f1 f2 f0' f1' f2' r0 r1 r2 r3 r4 t0 t1 t2
 have m0:=(Xc hB1 hb1).trans d0
 have m1:=(Xc hB1 hb1).trans d1
 have m2:=(Xc hB1 hb1).trans d2
 have m3:=(Xc hB1 hb1).trans d3
 have m4:=(Xc hB1 hb1).trans d4
 have HB3:=Xa hB3
 have HN3:=Xa (hn1.inn.below hB3)
 have hjk:Z4 (Xd ns).keys x.name<(Xd ns).kids.length:=by have h1:=Xkc hh;rw[(Y7 HOK.out hr).1] at h1;exact h1
 have HKD:Hid (∀W,Below w.heap.size w W→Calls Tryz.prog 128 #[.agg #[.int .i64 (Xd ns).kind, .int .i64 (Xd ns).n, .string (Xd ns).s, .slice aK1 (Xd ns).keys.length cK1, .slice aI1 (Xd ns).kids.length cI1], .agg #[.bool true, .string x.name, .int .i64 x.place]] W fun e w'=>e= .returned (.int .i64 (((Z4 (Xd ns).keys x.name:Nat):Int)))∧Below W.heap.size W w'):=fun W hb=>by
  have h1:=Uh w.heap.size (Xd ns) _ _ ⟨true,x.name,x.place⟩ W (HNI.out.below hb) hb.size (fun k6=>⟨Jh (Y7 HOK.out k6).2,by rw[(Y7 HOK.out k6).1];exact hk80⟩) (by simp) (by omega) (by simp<;>omega)
  rw[Xp0 hr,if_pos hh] at h1
  exact h1
 have hkl:(Xd ns).kids.length≠0:=by omega
 obtain ⟨bi,oi,eai,hbi,hci⟩:=HKI.out (by omega)
 subst eai
 obtain ⟨jj,hjj⟩:∃jj,Z4 (Xd ns).keys x.name=jj:=⟨_,rfl⟩
 rw[hjj] at HKD hjk
 have HEQ:Hid (rr=(0,PL ns jj)):=by rw[Hid];rw[HQ2.out k];unfold Jb;rw[if_neg (by omega),if_pos hr,if_pos hh,hjj]
 obtain ⟨NL,hNL⟩:∃NL,ns.length=NL:=⟨_,rfl⟩
 rw[hNL] at p1a p1b d0 d1 d2 d3 d4 m0 m1 m2 m3 m4 HKP⊢
 have z1:((NL:Int)-1).toNat=NL-1:=by omega
 obtain ⟨kr,hkr'⟩:∃kr,(Xd ns).kind=kr:=⟨_,rfl⟩
 obtain ⟨nr,hnr'⟩:∃nr,(Xd ns).n=nr:=⟨_,rfl⟩
 obtain ⟨sr,hsr'⟩:∃sr,(Xd ns).s=sr:=⟨_,rfl⟩
 obtain ⟨KS,hKS⟩:∃KS,(Xd ns).keys.length=KS:=⟨_,rfl⟩
 obtain ⟨KM,hKM⟩:∃KM,(Xd ns).kids.length=KM:=⟨_,rfl⟩
 obtain ⟨kk,hkk⟩:∃kk,x.kind=kk:=⟨_,rfl⟩
 obtain ⟨nm,hnm⟩:∃nm,x.name=nm:=⟨_,rfl⟩
 obtain ⟨pl,hpl⟩:∃pl,x.place=pl:=⟨_,rfl⟩
 rw[hkr'] at r0 m0 hW2
 rw[hnr'] at r1 m1 hW2
 rw[hsr'] at r2 m2 hW2
 rw[hKS] at r3 m3 hW2
 rw[hKM] at r4 m4 hW2 hk80
 rw[hkk] at f0 f0' t0 hW1 hW3
 rw[hnm] at f1 f1' t1 hW1 hW3
 rw[hpl] at f2 f2' t2 hW1 hW3
 rw[hkr',hnr',hsr',hKS,hKM,hnm,hpl] at HKD
 unfold Ya
 rw[hkk,hnm,hpl]
 have e2:(kk==2)=true:=by rw[←hkk,k];rfl
 rw[e2] at t0 hW3
 obtain rfl:kr=6:=by rw[←hkr',hr]
 have hpn:¬(pl<0):=by rw[←hpl,hpl0 (by omega)];decide
 have hpq:0≤pl:=by omega
 rw[hKM] at hjk
 have hjI:(jj:Int)<(KM:Int):=by omega
 have hjn:¬((jj:Int)<0):=by omega
 have HKM:=Xa hKM
 have hci':∀i,i<KM→w.cell? ⟨bi,oi+i,none⟩=some (.int .i64 (Xm (Xe ns) i)):=by rw[HRK.out,←hKM];exact hci
 clear hx hin hs hv k hn1 hki hrr hB1 hB2 hB3 b12 b23 hk1 hk2 hk3 hk2' d0 d1 d2 d3 d4 hkr hpl0 hpl3 hNL hkr' hnr' hsr' hKS hKM hkk hnm hpl hr hh hci hjj hkl
 go_enter Tryz.func71,Tryz.ntmps71
 go_wp2_with fail
 refine (HKD.out W3 HB3.out).mono ?_
 rintro e w4 ⟨rfl,hb4⟩
 have HB4:=Xa (HB3.out.trans (hb4.mono (by omega)))
 have z4:=HB4.out.size
 have r4':=(Xc hb4 (by omega)).trans r4
 clear hb4
 have hcq:w4.cell? ⟨bi,oi+jj,none⟩=some (.int .i64 (Xm (Xe ns) jj)):=(Xc HB4.out hbi).trans (hci' jj hjk)
 have HCP:=Xa (HKP.out w4 HB4.out jj (by rw[HRK.out,HKM.out];exact hjk))
 obtain ⟨Q,hQ⟩:∃Q,Xm (Xe ns) jj=Q:=⟨_,rfl⟩
 rw[hQ] at hcq HCP
 clear hQ hci'
 go_wp2_with fail
 refine HCP.out.mono ?_
 rintro e w5 ⟨u,rfl,⟨a4,c4,rfl⟩,hnr,hb4⟩
 have HB5:=Xa (HB4.out.trans (hb4.mono (by omega)))
 have HCO:=Xa (Kh (HSB.out _ HB5.out) hnr)
 obtain ⟨L4,hL4⟩:∃L4,(PL ns jj).length=L4:=⟨_,rfl⟩
 rw[hL4] at HCO⊢
 clear hnr hb4 hL4
 go_wp2_with fail
 refine HCO.out.mono ?_
 rintro e w6 ⟨sv,xs,rfl,hs5,hb5,hl5⟩
 have HS5:=Xa hs5
 have HB6:=Xa ((ButE.of_below HB5.out).trans hb5)
 have HL5:=Xa (hl5.low (base':=w.heap.size) HB5.out.size hE)
 obtain ⟨a5,c5,rfl⟩:=hl5.slice
 clear hs5 hb5 hl5
 go_wp2_with fail
 go_ret
 exact ⟨_,_,rfl,by rw[HEQ.out];exact HS5.out,HB6.out,by rw[HEQ.out];exact HL5.out⟩

set_option maxRecDepth 100000 in
theorem Xq6 {B E fu:Nat} {fv v kc kn ki:Value} {fs:List FN} {x:FN} {ns:List VN} {w:World} (hx:NodeOk fs x) (k:x.kind=2) (hin:FNodeIn B w x kc kn ki) (hs:SE B E fv fs fu 0 w) (hv:NR E w v ns) (hr:(Xd ns).kind=6) (hh:Y5 (Xd ns).keys x.name=false):
  Calls Tryz.prog 71 #[.pointer (some ⟨E,0,none⟩),v,Ya x kc kn ki] w (Q3 B E fv fs (Yf x ns).1 (Y0 (Yf x ns)) fu w):=by
 have HX:=Xa hx
 have HOK:=Xa hv.ok
 have HS:=Xa hs
 have HV:=Xa hv
 have HIN:=Xa hin
 obtain ⟨p1a,p1b⟩:=hv.sized
 have hkr:=Q4 hv.ok
 obtain ⟨_,b1,o1,c1,rfl,hb1,hcx⟩:∃(_:ns.length≤1759218604416) (b o c:Nat),v= .slice (some ⟨b,o,none⟩) ns.length c∧b<w.heap.size∧∃ka ki,NodeAt w.heap.size w b (o+(ns.length-1) *5) (Xd ns) ka ki:=by
  obtain ⟨hl,a,c,e,hx⟩:=hv.nodes
  obtain ⟨b,o,ea,hb,hcc⟩:=hx (by omega)
  exact ⟨hl,b,o,c,by rw[e,ea],hb,hcc _ (by omega)⟩
 obtain ⟨ka1,ki1,hn1⟩:=hcx
 have HNI:=Xa hn1.inn
 obtain ⟨_,_,aK1,cK1,rfl,_⟩:=id hn1.inn.keys
 obtain ⟨_,_,aI1,cI1,rfl,hki⟩:=id hn1.inn.kids
 have HKI:=Xa hki
 have d0:=hn1.c0
 have d1:=hn1.c1
 have d2:=hn1.c2
 have d3:=hn1.c3
 have d4:=hn1.c4
 obtain ⟨_,aC,cC,rfl,_⟩:=id hin.cst
 obtain ⟨_,_,aK,cK,rfl,_⟩:=id hin.names
 obtain ⟨_,_,aI,cI,rfl,_⟩:=id hin.kids
 have hE:=hs.lt
 obtain ⟨hpl0,hpl3⟩:=J5 hx
 have hk80:(Xd ns).kids.length≤80:=by have:=(Xp hv.ok).2.2.2 (ns.length-1) (by omega);unfold Xd;omega
 have HRK:Hid (Xe ns=(Xd ns).kids):=rfl
 have HKP:Hid (∀W,Below w.heap.size w W→∀j,j<(Xe ns).length→Calls Tryz.prog 129 #[.slice (some ⟨b1,o1,none⟩) ns.length c1, .int .i64 (Xm (Xe ns) j)] W (Gg E (PL ns j) W)):=fun W hb j hj=>Kt (hv.below hb) (Nat.lt_of_lt_of_le hE hb.size) hj
 have HSB:Hid (∀W,Below w.heap.size w W→SE B E fv fs fu 0 W):=fun W hb=>hs.below hb
 obtain ⟨rr,hrr⟩:∃rr,Yf x ns=rr:=⟨_,rfl⟩
 have HRR:=Xa hrr
 rw[hrr]
 have HQ2:Hid (x.kind=2→rr=Jb ns x.name):=fun k=>by rw[←hrr];unfold Yf;rw[if_pos k]
 have HQ3:Hid (x.kind=3→rr=atR ns x.place):=fun k=>by rw[←hrr];unfold Yf;rw[if_neg (by omega),if_pos k]
 obtain ⟨W1,hW1⟩:∃W1,w.alloc (.cells #[.int .i64 x.kind, .string x.name, .int .i64 x.place, .slice aC x.cst.length cC, .slice aK x.names.length cK, .slice aI x.kids.length cI] 84)=W1:=⟨_,rfl⟩
 obtain ⟨W2,hW2⟩:∃W2,W1.alloc (.cells #[.int .i64 (Xd ns).kind, .int .i64 (Xd ns).n, .string (Xd ns).s, .slice aK1 (Xd ns).keys.length cK1, .slice aI1 (Xd ns).kids.length cI1] 75)=W2:=⟨_,rfl⟩
 obtain ⟨W3,hW3⟩:∃W3,W2.alloc (.cells #[.bool (x.kind==2), .string x.name, .int .i64 x.place] 183)=W3:=⟨_,rfl⟩
 have hz1:W1.heap.size=w.heap.size+1:=by rw[←hW1];simp
 have hz2:W2.heap.size=w.heap.size+2:=by rw[←hW2];simp[hz1]
 have hz3:W3.heap.size=w.heap.size+3:=by rw[←hW3];simp[hz2]
 have hB1:Below w.heap.size w W1:=by rw[←hW1];exact (Below.refl _ _).alloc (Nat.le_refl _) _
 have hB2:Below w.heap.size w W2:=by rw[←hW2];exact hB1.alloc (by omega) _
 have hB3:Below w.heap.size w W3:=by rw[←hW3];exact hB2.alloc (by omega) _
 have b12:Below (w.heap.size+1) W1 W2:=by rw[←hW2];exact (Below.refl _ _).alloc (by omega) _
 have b23:Below (w.heap.size+2) W2 W3:=by rw[←hW3];exact (Below.refl _ _).alloc (by omega) _
 have hk1:W1.heap[w.heap.size]? =some (.cells #[.int .i64 x.kind, .string x.name, .int .i64 x.place, .slice aC x.cst.length cC, .slice aK x.names.length cK, .slice aI x.kids.length cI] 84 (0,0)):=by rw[←hW1];exact heap_alloc_new w _
 have hk2:W2.heap[w.heap.size+1]? =some (.cells #[.int .i64 (Xd ns).kind, .int .i64 (Xd ns).n, .string (Xd ns).s, .slice aK1 (Xd ns).keys.length cK1, .slice aI1 (Xd ns).kids.length cI1] 75 (0,0)):=by rw[←hW2,←hz1];exact heap_alloc_new W1 _
 have hk3:W3.heap[w.heap.size+2]? =some (.cells #[.bool (x.kind==2), .string x.name, .int .i64 x.place] 183 (0,0)):=by rw[←hW3,←hz2];exact heap_alloc_new W2 _
 have hk2':W3.heap[w.heap.size+1]? =some (.cells #[.int .i64 (Xd ns).kind, .int .i64 (Xd ns).n, .string (Xd ns).s, .slice aK1 (Xd ns).keys.length cK1, .slice aI1 (Xd ns).kids.length cI1] 75 (0,0)):=(b23.block _ (by omega)).trans hk2
 have f0:=Xg hk1 0
 have f1:=Xg hk1 1
 have f2:=Xg hk1 2
 have f0':=(Xc b12 (by omega:w.heap.size<w.heap.size+1)).trans f0
 have f1':=(Xc b12 (by omega:w.heap.size<w.heap.size+1)).trans f1
 have f2':=(Xc b12 (by omega:w.heap.size<w.heap.size+1)).trans f2
 have r0:=Xg hk2' 0
 have r1:=Xg hk2' 1
 have r2:=Xg hk2' 2
 have r3:=Xg hk2' 3
 have r4:=Xg hk2' 4
 have t0:=Xg hk3 0
 have t1:=Xg hk3 1
 have t2:=Xg hk3 2
 have t3:W3.frozen? ⟨w.heap.size+2,2,none⟩=false:=by simp[World.frozen?,hk3]
 simp at f0 f1 f2 f0' f1' f2' r0 r1 r2 r3 r4 t0 t1 t2
 have m0:=(Xc hB1 hb1).trans d0
 have m1:=(Xc hB1 hb1).trans d1
 have m2:=(Xc hB1 hb1).trans d2
 have m3:=(Xc hB1 hb1).trans d3
 have m4:=(Xc hB1 hb1).trans d4
 have HB3:=Xa hB3
 have HN3:=Xa (hn1.inn.below hB3)
 have HKD:Hid (∀W,Below w.heap.size w W→Calls Tryz.prog 128 #[.agg #[.int .i64 (Xd ns).kind, .int .i64 (Xd ns).n, .string (Xd ns).s, .slice aK1 (Xd ns).keys.length cK1, .slice aI1 (Xd ns).kids.length cI1], .agg #[.bool true, .string x.name, .int .i64 x.place]] W fun e w'=>e= .returned (.int .i64 (-1))∧Below W.heap.size W w'):=fun W hb=>by
  have h1:=Uh w.heap.size (Xd ns) _ _ ⟨true,x.name,x.place⟩ W (HNI.out.below hb) hb.size (fun k6=>⟨Jh (Y7 HOK.out k6).2,by rw[(Y7 HOK.out k6).1];exact hk80⟩) (by simp) (by omega) (by simp<;>omega)
  rw[Xp0 hr,if_neg (by rw[hh];simp)] at h1
  exact h1
 have HEQ:Hid (rr=(0,Jj)):=by rw[Hid];rw[HQ2.out k];unfold Jb;rw[if_neg (by omega),if_pos hr,if_neg (by rw[hh];simp)]
 obtain ⟨NL,hNL⟩:∃NL,ns.length=NL:=⟨_,rfl⟩
 rw[hNL] at p1a p1b d0 d1 d2 d3 d4 m0 m1 m2 m3 m4 HKP⊢
 have z1:((NL:Int)-1).toNat=NL-1:=by omega
 obtain ⟨kr,hkr'⟩:∃kr,(Xd ns).kind=kr:=⟨_,rfl⟩
 obtain ⟨nr,hnr'⟩:∃nr,(Xd ns).n=nr:=⟨_,rfl⟩
 obtain ⟨sr,hsr'⟩:∃sr,(Xd ns).s=sr:=⟨_,rfl⟩
 obtain ⟨KS,hKS⟩:∃KS,(Xd ns).keys.length=KS:=⟨_,rfl⟩
 obtain ⟨KM,hKM⟩:∃KM,(Xd ns).kids.length=KM:=⟨_,rfl⟩
 obtain ⟨kk,hkk⟩:∃kk,x.kind=kk:=⟨_,rfl⟩
 obtain ⟨nm,hnm⟩:∃nm,x.name=nm:=⟨_,rfl⟩
 obtain ⟨pl,hpl⟩:∃pl,x.place=pl:=⟨_,rfl⟩
 rw[hkr'] at r0 m0 hW2
 rw[hnr'] at r1 m1 hW2
 rw[hsr'] at r2 m2 hW2
 rw[hKS] at r3 m3 hW2
 rw[hKM] at r4 m4 hW2 hk80
 rw[hkk] at f0 f0' t0 hW1 hW3
 rw[hnm] at f1 f1' t1 hW1 hW3
 rw[hpl] at f2 f2' t2 hW1 hW3
 rw[hkr',hnr',hsr',hKS,hKM,hnm,hpl] at HKD
 unfold Ya
 rw[hkk,hnm,hpl]
 have e2:(kk==2)=true:=by rw[←hkk,k];rfl
 rw[e2] at t0 hW3
 obtain rfl:kr=6:=by rw[←hkr',hr]
 have hpn:¬(pl<0):=by rw[←hpl,hpl0 (by omega)];decide
 have hpq:0≤pl:=by omega
 clear hx hin hs hv k hn1 hki hrr hB1 hB2 hB3 b12 b23 hk1 hk2 hk3 hk2' d0 d1 d2 d3 d4 hkr hpl0 hpl3 hNL hkr' hnr' hsr' hKS hKM hkk hnm hpl hr hh
 go_enter Tryz.func71,Tryz.ntmps71
 go_wp2_with fail
 refine (HKD.out W3 HB3.out).mono ?_
 rintro e w4 ⟨rfl,hb4⟩
 have HB4:=Xa (HB3.out.trans (hb4.mono (by omega)))
 have z4:=HB4.out.size
 have r4':=(Xc hb4 (by omega)).trans r4
 clear hb4
 go_wp2_with fail
 refine (Xap E w4 (by omega)).mono ?_
 rintro e w6 ⟨u,rfl,⟨a6,c6,rfl⟩,hnr,hb6⟩
 have HB6:=Xa (HB4.out.trans (hb6.mono (by omega)))
 have HCO:=Xa (Kh (HSB.out _ HB6.out) hnr)
 clear hnr hb6
 go_wp2_with fail
 refine HCO.out.mono ?_
 rintro e w5 ⟨sv,xs,rfl,hs5,hb5,hl5⟩
 have HS5:=Xa hs5
 have HB5:=Xa ((ButE.of_below HB6.out).trans hb5)
 have HL5:=Xa (hl5.low (base':=w.heap.size) HB6.out.size hE)
 obtain ⟨a5,c5,rfl⟩:=hl5.slice
 clear hs5 hb5 hl5
 go_wp2_with fail
 go_ret
 exact ⟨_,_,rfl,by rw[HEQ.out];exact HS5.out,HB5.out,by rw[HEQ.out];exact HL5.out⟩

set_option maxRecDepth 100000 in
theorem Xse {B E fu:Nat} {fv v kc kn ki:Value} {fs:List FN} {x:FN} {ns:List VN} {w:World} (hx:NodeOk fs x) (k:x.kind=3) (hin:FNodeIn B w x kc kn ki) (hs:SE B E fv fs fu 0 w) (hv:NR E w v ns) (hr:(Xd ns).kind=5) (h1:0≤x.place) (h2:x.place<((Xe ns).length:Int)):
  Calls Tryz.prog 71 #[.pointer (some ⟨E,0,none⟩),v,Ya x kc kn ki] w (Q3 B E fv fs (Yf x ns).1 (Y0 (Yf x ns)) fu w):=by
 have HX:=Xa hx
 have HOK:=Xa hv.ok
 have HS:=Xa hs
 have HV:=Xa hv
 have HIN:=Xa hin
 obtain ⟨p1a,p1b⟩:=hv.sized
 have hkr:=Q4 hv.ok
 obtain ⟨_,b1,o1,c1,rfl,hb1,hcx⟩:∃(_:ns.length≤1759218604416) (b o c:Nat),v= .slice (some ⟨b,o,none⟩) ns.length c∧b<w.heap.size∧∃ka ki,NodeAt w.heap.size w b (o+(ns.length-1) *5) (Xd ns) ka ki:=by
  obtain ⟨hl,a,c,e,hx⟩:=hv.nodes
  obtain ⟨b,o,ea,hb,hcc⟩:=hx (by omega)
  exact ⟨hl,b,o,c,by rw[e,ea],hb,hcc _ (by omega)⟩
 obtain ⟨ka1,ki1,hn1⟩:=hcx
 have HNI:=Xa hn1.inn
 obtain ⟨_,_,aK1,cK1,rfl,_⟩:=id hn1.inn.keys
 obtain ⟨_,_,aI1,cI1,rfl,hki⟩:=id hn1.inn.kids
 have HKI:=Xa hki
 have d0:=hn1.c0
 have d1:=hn1.c1
 have d2:=hn1.c2
 have d3:=hn1.c3
 have d4:=hn1.c4
 obtain ⟨_,aC,cC,rfl,_⟩:=id hin.cst
 obtain ⟨_,_,aK,cK,rfl,_⟩:=id hin.names
 obtain ⟨_,_,aI,cI,rfl,_⟩:=id hin.kids
 have hE:=hs.lt
 obtain ⟨hpl0,hpl3⟩:=J5 hx
 have hk80:(Xd ns).kids.length≤80:=by have:=(Xp hv.ok).2.2.2 (ns.length-1) (by omega);unfold Xd;omega
 have HRK:Hid (Xe ns=(Xd ns).kids):=rfl
 have HKP:Hid (∀W,Below w.heap.size w W→∀j,j<(Xe ns).length→Calls Tryz.prog 129 #[.slice (some ⟨b1,o1,none⟩) ns.length c1, .int .i64 (Xm (Xe ns) j)] W (Gg E (PL ns j) W)):=fun W hb j hj=>Kt (hv.below hb) (Nat.lt_of_lt_of_le hE hb.size) hj
 have HSB:Hid (∀W,Below w.heap.size w W→SE B E fv fs fu 0 W):=fun W hb=>hs.below hb
 obtain ⟨rr,hrr⟩:∃rr,Yf x ns=rr:=⟨_,rfl⟩
 have HRR:=Xa hrr
 rw[hrr]
 have HQ2:Hid (x.kind=2→rr=Jb ns x.name):=fun k=>by rw[←hrr];unfold Yf;rw[if_pos k]
 have HQ3:Hid (x.kind=3→rr=atR ns x.place):=fun k=>by rw[←hrr];unfold Yf;rw[if_neg (by omega),if_pos k]
 obtain ⟨W1,hW1⟩:∃W1,w.alloc (.cells #[.int .i64 x.kind, .string x.name, .int .i64 x.place, .slice aC x.cst.length cC, .slice aK x.names.length cK, .slice aI x.kids.length cI] 84)=W1:=⟨_,rfl⟩
 obtain ⟨W2,hW2⟩:∃W2,W1.alloc (.cells #[.int .i64 (Xd ns).kind, .int .i64 (Xd ns).n, .string (Xd ns).s, .slice aK1 (Xd ns).keys.length cK1, .slice aI1 (Xd ns).kids.length cI1] 75)=W2:=⟨_,rfl⟩
 obtain ⟨W3,hW3⟩:∃W3,W2.alloc (.cells #[.bool (x.kind==2), .string x.name, .int .i64 x.place] 183)=W3:=⟨_,rfl⟩
 have hz1:W1.heap.size=w.heap.size+1:=by rw[←hW1];simp
 have hz2:W2.heap.size=w.heap.size+2:=by rw[←hW2];simp[hz1]
 have hz3:W3.heap.size=w.heap.size+3:=by rw[←hW3];simp[hz2]
 have hB1:Below w.heap.size w W1:=by rw[←hW1];exact (Below.refl _ _).alloc (Nat.le_refl _) _
 have hB2:Below w.heap.size w W2:=by rw[←hW2];exact hB1.alloc (by omega) _
 have hB3:Below w.heap.size w W3:=by rw[←hW3];exact hB2.alloc (by omega) _
 have b12:Below (w.heap.size+1) W1 W2:=by rw[←hW2];exact (Below.refl _ _).alloc (by omega) _
 have b23:Below (w.heap.size+2) W2 W3:=by rw[←hW3];exact (Below.refl _ _).alloc (by omega) _
 have hk1:W1.heap[w.heap.size]? =some (.cells #[.int .i64 x.kind, .string x.name, .int .i64 x.place, .slice aC x.cst.length cC, .slice aK x.names.length cK, .slice aI x.kids.length cI] 84 (0,0)):=by rw[←hW1];exact heap_alloc_new w _
 have hk2:W2.heap[w.heap.size+1]? =some (.cells #[.int .i64 (Xd ns).kind, .int .i64 (Xd ns).n, .string (Xd ns).s, .slice aK1 (Xd ns).keys.length cK1, .slice aI1 (Xd ns).kids.length cI1] 75 (0,0)):=by rw[←hW2,←hz1];exact heap_alloc_new W1 _
 have hk3:W3.heap[w.heap.size+2]? =some (.cells #[.bool (x.kind==2), .string x.name, .int .i64 x.place] 183 (0,0)):=by rw[←hW3,←hz2];exact heap_alloc_new W2 _
 have hk2':W3.heap[w.heap.size+1]? =some (.cells #[.int .i64 (Xd ns).kind, .int .i64 (Xd ns).n, .string (Xd ns).s, .slice aK1 (Xd ns).keys.length cK1, .slice aI1 (Xd ns).kids.length cI1] 75 (0,0)):=(b23.block _ (by omega)).trans hk2
 have f0:=Xg hk1 0
 have f1:=Xg hk1 1
 have f2:=Xg hk1 2
 have f0':=(Xc b12 (by omega:w.heap.size<w.heap.size+1)).trans f0
 have f1':=(Xc b12 (by omega:w.heap.size<w.heap.size+1)).trans f1
 have f2':=(Xc b12 (by omega:w.heap.size<w.heap.size+1)).trans f2
 have r0:=Xg hk2' 0
 have r1:=Xg hk2' 1
 have r2:=Xg hk2' 2
 have r3:=Xg hk2' 3
 have r4:=Xg hk2' 4
 have t0:=Xg hk3 0
 have t1:=Xg hk3 1
 have t2:=Xg hk3 2
 have t3:W3.frozen? ⟨w.heap.size+2,2,none⟩=false:=by simp[World.frozen?,hk3]
 simp at f0 f1 f2 f0' f1' f2' r0 r1 r2 r3 r4 t0 t1 t2
 have m0:=(Xc hB1 hb1).trans d0
 have m1:=(Xc hB1 hb1).trans d1
 have m2:=(Xc hB1 hb1).trans d2
 have m3:=(Xc hB1 hb1).trans d3
 have m4:=(Xc hB1 hb1).trans d4
 have HB3:=Xa hB3
 have HN3:=Xa (hn1.inn.below hB3)
 have hpp:Qe ns x.place=x.place:=by unfold Qe;rw[if_neg (by omega)]
 obtain ⟨jj,hjj⟩:∃jj:Nat,x.place=(jj:Int):=⟨x.place.toNat,by omega⟩
 have hjk:jj<(Xd ns).kids.length:=by rw[HRK.out] at h2;omega
 have HKD:Hid (∀W,Below w.heap.size w W→Calls Tryz.prog 128 #[.agg #[.int .i64 (Xd ns).kind, .int .i64 (Xd ns).n, .string (Xd ns).s, .slice aK1 (Xd ns).keys.length cK1, .slice aI1 (Xd ns).kids.length cI1], .agg #[.bool false, .string x.name, .int .i64 x.place]] W fun e w'=>e= .returned (.int .i64 (x.place))∧Below W.heap.size W w'):=fun W hb=>by
  have h1:=Uh w.heap.size (Xd ns) _ _ ⟨false,x.name,x.place⟩ W (HNI.out.below hb) hb.size (fun k6=>⟨Jh (Y7 HOK.out k6).2,by rw[(Y7 HOK.out k6).1];exact hk80⟩) (.inr (by simp;omega)) (by omega) (by simp<;>omega)
  rw[Xkt hr (by omega),if_pos (by rw[HRK.out] at h2;exact h2)] at h1
  exact h1
 have hkl:(Xd ns).kids.length≠0:=by omega
 obtain ⟨bi,oi,eai,hbi,hci⟩:=HKI.out (by omega)
 subst eai
 have HEQ:Hid (rr=(0,PL ns jj)):=by rw[Hid];rw[HQ3.out k];unfold atR;rw[if_neg (by omega),if_pos hr,if_pos (by rw[hpp];exact ⟨h1,h2⟩),hpp,hjj,Int.toNat_natCast]
 obtain ⟨NL,hNL⟩:∃NL,ns.length=NL:=⟨_,rfl⟩
 rw[hNL] at p1a p1b d0 d1 d2 d3 d4 m0 m1 m2 m3 m4 HKP⊢
 have z1:((NL:Int)-1).toNat=NL-1:=by omega
 obtain ⟨kr,hkr'⟩:∃kr,(Xd ns).kind=kr:=⟨_,rfl⟩
 obtain ⟨nr,hnr'⟩:∃nr,(Xd ns).n=nr:=⟨_,rfl⟩
 obtain ⟨sr,hsr'⟩:∃sr,(Xd ns).s=sr:=⟨_,rfl⟩
 obtain ⟨KS,hKS⟩:∃KS,(Xd ns).keys.length=KS:=⟨_,rfl⟩
 obtain ⟨KM,hKM⟩:∃KM,(Xd ns).kids.length=KM:=⟨_,rfl⟩
 obtain ⟨kk,hkk⟩:∃kk,x.kind=kk:=⟨_,rfl⟩
 obtain ⟨nm,hnm⟩:∃nm,x.name=nm:=⟨_,rfl⟩
 obtain ⟨pl,hpl⟩:∃pl,x.place=pl:=⟨_,rfl⟩
 rw[hkr'] at r0 m0 hW2
 rw[hnr'] at r1 m1 hW2
 rw[hsr'] at r2 m2 hW2
 rw[hKS] at r3 m3 hW2
 rw[hKM] at r4 m4 hW2 hk80
 rw[hkk] at f0 f0' t0 hW1 hW3
 rw[hnm] at f1 f1' t1 hW1 hW3
 rw[hpl] at f2 f2' t2 hW1 hW3
 rw[hkr',hnr',hsr',hKS,hKM,hnm,hpl] at HKD
 unfold Ya
 rw[hkk,hnm,hpl]
 have e2:(kk==2)=false:=by rw[←hkk,k];rfl
 rw[e2] at t0 hW3
 obtain rfl:kr=5:=by rw[←hkr',hr]
 have hpn:¬(pl<0):=by rw[←hpl];omega
 have hpq:0≤pl:=by omega
 have hpt:pl.toNat=jj:=by rw[←hpl,hjj];simp
 rw[hKM] at hjk
 have hpk:pl<(KM:Int):=by rw[←hpl,hjj];omega
 have HKM:=Xa hKM
 have hci':∀i,i<KM→w.cell? ⟨bi,oi+i,none⟩=some (.int .i64 (Xm (Xe ns) i)):=by rw[HRK.out,←hKM];exact hci
 clear hx hin hs hv k hn1 hki hrr hB1 hB2 hB3 b12 b23 hk1 hk2 hk3 hk2' d0 d1 d2 d3 d4 hkr hpl0 hpl3 hNL hkr' hnr' hsr' hKS hKM hkk hnm hpl hr hpp hjj hci hkl h1 h2
 go_enter Tryz.func71,Tryz.ntmps71
 go_wp2_with fail
 refine (HKD.out W3 HB3.out).mono ?_
 rintro e w4 ⟨rfl,hb4⟩
 have HB4:=Xa (HB3.out.trans (hb4.mono (by omega)))
 have z4:=HB4.out.size
 have r4':=(Xc hb4 (by omega)).trans r4
 clear hb4
 have hcq:w4.cell? ⟨bi,oi+jj,none⟩=some (.int .i64 (Xm (Xe ns) jj)):=(Xc HB4.out hbi).trans (hci' jj hjk)
 have HCP:=Xa (HKP.out w4 HB4.out jj (by rw[HRK.out,HKM.out];exact hjk))
 obtain ⟨Q,hQ⟩:∃Q,Xm (Xe ns) jj=Q:=⟨_,rfl⟩
 rw[hQ] at hcq HCP
 clear hQ hci'
 go_wp2_with fail
 refine HCP.out.mono ?_
 rintro e w5 ⟨u,rfl,⟨a4,c4,rfl⟩,hnr,hb4⟩
 have HB5:=Xa (HB4.out.trans (hb4.mono (by omega)))
 have HCO:=Xa (Kh (HSB.out _ HB5.out) hnr)
 obtain ⟨L4,hL4⟩:∃L4,(PL ns jj).length=L4:=⟨_,rfl⟩
 rw[hL4] at HCO⊢
 clear hnr hb4 hL4
 go_wp2_with fail
 refine HCO.out.mono ?_
 rintro e w6 ⟨sv,xs,rfl,hs5,hb5,hl5⟩
 have HS5:=Xa hs5
 have HB6:=Xa ((ButE.of_below HB5.out).trans hb5)
 have HL5:=Xa (hl5.low (base':=w.heap.size) HB5.out.size hE)
 obtain ⟨a5,c5,rfl⟩:=hl5.slice
 clear hs5 hb5 hl5
 go_wp2_with fail
 go_ret
 exact ⟨_,_,rfl,by rw[HEQ.out];exact HS5.out,HB6.out,by rw[HEQ.out];exact HL5.out⟩

set_option maxRecDepth 100000 in
theorem Xsa {B E fu:Nat} {fv v kc kn ki:Value} {fs:List FN} {x:FN} {ns:List VN} {w:World} (hx:NodeOk fs x) (k:x.kind=3) (hin:FNodeIn B w x kc kn ki) (hs:SE B E fv fs fu 0 w) (hv:NR E w v ns) (hr:(Xd ns).kind=5) (h1:0≤x.place) (h2:((Xe ns).length:Int)≤x.place):
  Calls Tryz.prog 71 #[.pointer (some ⟨E,0,none⟩),v,Ya x kc kn ki] w (Q3 B E fv fs (Yf x ns).1 (Y0 (Yf x ns)) fu w):=by
 have HX:=Xa hx
 have HOK:=Xa hv.ok
 have HS:=Xa hs
 have HV:=Xa hv
 have HIN:=Xa hin
 obtain ⟨p1a,p1b⟩:=hv.sized
 have hkr:=Q4 hv.ok
 obtain ⟨_,b1,o1,c1,rfl,hb1,hcx⟩:∃(_:ns.length≤1759218604416) (b o c:Nat),v= .slice (some ⟨b,o,none⟩) ns.length c∧b<w.heap.size∧∃ka ki,NodeAt w.heap.size w b (o+(ns.length-1) *5) (Xd ns) ka ki:=by
  obtain ⟨hl,a,c,e,hx⟩:=hv.nodes
  obtain ⟨b,o,ea,hb,hcc⟩:=hx (by omega)
  exact ⟨hl,b,o,c,by rw[e,ea],hb,hcc _ (by omega)⟩
 obtain ⟨ka1,ki1,hn1⟩:=hcx
 have HNI:=Xa hn1.inn
 obtain ⟨_,_,aK1,cK1,rfl,_⟩:=id hn1.inn.keys
 obtain ⟨_,_,aI1,cI1,rfl,hki⟩:=id hn1.inn.kids
 have HKI:=Xa hki
 have d0:=hn1.c0
 have d1:=hn1.c1
 have d2:=hn1.c2
 have d3:=hn1.c3
 have d4:=hn1.c4
 obtain ⟨_,aC,cC,rfl,_⟩:=id hin.cst
 obtain ⟨_,_,aK,cK,rfl,_⟩:=id hin.names
 obtain ⟨_,_,aI,cI,rfl,_⟩:=id hin.kids
 have hE:=hs.lt
 obtain ⟨hpl0,hpl3⟩:=J5 hx
 have hk80:(Xd ns).kids.length≤80:=by have:=(Xp hv.ok).2.2.2 (ns.length-1) (by omega);unfold Xd;omega
 have HRK:Hid (Xe ns=(Xd ns).kids):=rfl
 have HKP:Hid (∀W,Below w.heap.size w W→∀j,j<(Xe ns).length→Calls Tryz.prog 129 #[.slice (some ⟨b1,o1,none⟩) ns.length c1, .int .i64 (Xm (Xe ns) j)] W (Gg E (PL ns j) W)):=fun W hb j hj=>Kt (hv.below hb) (Nat.lt_of_lt_of_le hE hb.size) hj
 have HSB:Hid (∀W,Below w.heap.size w W→SE B E fv fs fu 0 W):=fun W hb=>hs.below hb
 obtain ⟨rr,hrr⟩:∃rr,Yf x ns=rr:=⟨_,rfl⟩
 have HRR:=Xa hrr
 rw[hrr]
 have HQ2:Hid (x.kind=2→rr=Jb ns x.name):=fun k=>by rw[←hrr];unfold Yf;rw[if_pos k]
 have HQ3:Hid (x.kind=3→rr=atR ns x.place):=fun k=>by rw[←hrr];unfold Yf;rw[if_neg (by omega),if_pos k]
 obtain ⟨W1,hW1⟩:∃W1,w.alloc (.cells #[.int .i64 x.kind, .string x.name, .int .i64 x.place, .slice aC x.cst.length cC, .slice aK x.names.length cK, .slice aI x.kids.length cI] 84)=W1:=⟨_,rfl⟩
 obtain ⟨W2,hW2⟩:∃W2,W1.alloc (.cells #[.int .i64 (Xd ns).kind, .int .i64 (Xd ns).n, .string (Xd ns).s, .slice aK1 (Xd ns).keys.length cK1, .slice aI1 (Xd ns).kids.length cI1] 75)=W2:=⟨_,rfl⟩
 obtain ⟨W3,hW3⟩:∃W3,W2.alloc (.cells #[.bool (x.kind==2), .string x.name, .int .i64 x.place] 183)=W3:=⟨_,rfl⟩
 have hz1:W1.heap.size=w.heap.size+1:=by rw[←hW1];simp
 have hz2:W2.heap.size=w.heap.size+2:=by rw[←hW2];simp[hz1]
 have hz3:W3.heap.size=w.heap.size+3:=by rw[←hW3];simp[hz2]
 have hB1:Below w.heap.size w W1:=by rw[←hW1];exact (Below.refl _ _).alloc (Nat.le_refl _) _
 have hB2:Below w.heap.size w W2:=by rw[←hW2];exact hB1.alloc (by omega) _
 have hB3:Below w.heap.size w W3:=by rw[←hW3];exact hB2.alloc (by omega) _
 have b12:Below (w.heap.size+1) W1 W2:=by rw[←hW2];exact (Below.refl _ _).alloc (by omega) _
 have b23:Below (w.heap.size+2) W2 W3:=by rw[←hW3];exact (Below.refl _ _).alloc (by omega) _
 have hk1:W1.heap[w.heap.size]? =some (.cells #[.int .i64 x.kind, .string x.name, .int .i64 x.place, .slice aC x.cst.length cC, .slice aK x.names.length cK, .slice aI x.kids.length cI] 84 (0,0)):=by rw[←hW1];exact heap_alloc_new w _
 have hk2:W2.heap[w.heap.size+1]? =some (.cells #[.int .i64 (Xd ns).kind, .int .i64 (Xd ns).n, .string (Xd ns).s, .slice aK1 (Xd ns).keys.length cK1, .slice aI1 (Xd ns).kids.length cI1] 75 (0,0)):=by rw[←hW2,←hz1];exact heap_alloc_new W1 _
 have hk3:W3.heap[w.heap.size+2]? =some (.cells #[.bool (x.kind==2), .string x.name, .int .i64 x.place] 183 (0,0)):=by rw[←hW3,←hz2];exact heap_alloc_new W2 _
 have hk2':W3.heap[w.heap.size+1]? =some (.cells #[.int .i64 (Xd ns).kind, .int .i64 (Xd ns).n, .string (Xd ns).s, .slice aK1 (Xd ns).keys.length cK1, .slice aI1 (Xd ns).kids.length cI1] 75 (0,0)):=(b23.block _ (by omega)).trans hk2
 have f0:=Xg hk1 0
 have f1:=Xg hk1 1
 have f2:=Xg hk1 2
 have f0':=(Xc b12 (by omega:w.heap.size<w.heap.size+1)).trans f0
 have f1':=(Xc b12 (by omega:w.heap.size<w.heap.size+1)).trans f1
 have f2':=(Xc b12 (by omega:w.heap.size<w.heap.size+1)).trans f2
 have r0:=Xg hk2' 0
 have r1:=Xg hk2' 1
 have r2:=Xg hk2' 2
 have r3:=Xg hk2' 3
 have r4:=Xg hk2' 4
 have t0:=Xg hk3 0
 have t1:=Xg hk3 1
 have t2:=Xg hk3 2
 have t3:W3.frozen? ⟨w.heap.size+2,2,none⟩=false:=by simp[World.frozen?,hk3]
 simp at f0 f1 f2 f0' f1' f2' r0 r1 r2 r3 r4 t0 t1 t2
 have m0:=(Xc hB1 hb1).trans d0
 have m1:=(Xc hB1 hb1).trans d1
 have m2:=(Xc hB1 hb1).trans d2
 have m3:=(Xc hB1 hb1).trans d3
 have m4:=(Xc hB1 hb1).trans d4
 have HB3:=Xa hB3
 have HN3:=Xa (hn1.inn.below hB3)
 have hpp:Qe ns x.place=x.place:=by unfold Qe;rw[if_neg (by omega)]
 have HKD:Hid (∀W,Below w.heap.size w W→Calls Tryz.prog 128 #[.agg #[.int .i64 (Xd ns).kind, .int .i64 (Xd ns).n, .string (Xd ns).s, .slice aK1 (Xd ns).keys.length cK1, .slice aI1 (Xd ns).kids.length cI1], .agg #[.bool false, .string x.name, .int .i64 x.place]] W fun e w'=>e= .returned (.int .i64 (-1))∧Below W.heap.size W w'):=fun W hb=>by
  have h1:=Uh w.heap.size (Xd ns) _ _ ⟨false,x.name,x.place⟩ W (HNI.out.below hb) hb.size (fun k6=>⟨Jh (Y7 HOK.out k6).2,by rw[(Y7 HOK.out k6).1];exact hk80⟩) (.inr (by simp;omega)) (by omega) (by simp<;>omega)
  rw[Xkt hr (by omega),if_neg (by rw[HRK.out] at h2;omega)] at h1
  exact h1
 have HEQ:Hid (rr=(0,Jj)):=by rw[Hid];rw[HQ3.out k];unfold atR;rw[if_neg (by omega),if_pos hr,if_neg (by rw[hpp];omega)]
 obtain ⟨NL,hNL⟩:∃NL,ns.length=NL:=⟨_,rfl⟩
 rw[hNL] at p1a p1b d0 d1 d2 d3 d4 m0 m1 m2 m3 m4 HKP⊢
 have z1:((NL:Int)-1).toNat=NL-1:=by omega
 obtain ⟨kr,hkr'⟩:∃kr,(Xd ns).kind=kr:=⟨_,rfl⟩
 obtain ⟨nr,hnr'⟩:∃nr,(Xd ns).n=nr:=⟨_,rfl⟩
 obtain ⟨sr,hsr'⟩:∃sr,(Xd ns).s=sr:=⟨_,rfl⟩
 obtain ⟨KS,hKS⟩:∃KS,(Xd ns).keys.length=KS:=⟨_,rfl⟩
 obtain ⟨KM,hKM⟩:∃KM,(Xd ns).kids.length=KM:=⟨_,rfl⟩
 obtain ⟨kk,hkk⟩:∃kk,x.kind=kk:=⟨_,rfl⟩
 obtain ⟨nm,hnm⟩:∃nm,x.name=nm:=⟨_,rfl⟩
 obtain ⟨pl,hpl⟩:∃pl,x.place=pl:=⟨_,rfl⟩
 rw[hkr'] at r0 m0 hW2
 rw[hnr'] at r1 m1 hW2
 rw[hsr'] at r2 m2 hW2
 rw[hKS] at r3 m3 hW2
 rw[hKM] at r4 m4 hW2 hk80
 rw[hkk] at f0 f0' t0 hW1 hW3
 rw[hnm] at f1 f1' t1 hW1 hW3
 rw[hpl] at f2 f2' t2 hW1 hW3
 rw[hkr',hnr',hsr',hKS,hKM,hnm,hpl] at HKD
 unfold Ya
 rw[hkk,hnm,hpl]
 have e2:(kk==2)=false:=by rw[←hkk,k];rfl
 rw[e2] at t0 hW3
 obtain rfl:kr=5:=by rw[←hkr',hr]
 rw[hpl] at h1
 have hpn:¬(pl<0):=by omega
 have hpq:0≤pl:=by omega
 clear hx hin hs hv k hn1 hki hrr hB1 hB2 hB3 b12 b23 hk1 hk2 hk3 hk2' d0 d1 d2 d3 d4 hkr hpl0 hpl3 hNL hkr' hnr' hsr' hKS hKM hkk hnm hpl hr hpp h2
 go_enter Tryz.func71,Tryz.ntmps71
 go_wp2_with fail
 refine (HKD.out W3 HB3.out).mono ?_
 rintro e w4 ⟨rfl,hb4⟩
 have HB4:=Xa (HB3.out.trans (hb4.mono (by omega)))
 have z4:=HB4.out.size
 have r4':=(Xc hb4 (by omega)).trans r4
 clear hb4
 go_wp2_with fail
 refine (Xap E w4 (by omega)).mono ?_
 rintro e w6 ⟨u,rfl,⟨a6,c6,rfl⟩,hnr,hb6⟩
 have HB6:=Xa (HB4.out.trans (hb6.mono (by omega)))
 have HCO:=Xa (Kh (HSB.out _ HB6.out) hnr)
 clear hnr hb6
 go_wp2_with fail
 refine HCO.out.mono ?_
 rintro e w5 ⟨sv,xs,rfl,hs5,hb5,hl5⟩
 have HS5:=Xa hs5
 have HB5:=Xa ((ButE.of_below HB6.out).trans hb5)
 have HL5:=Xa (hl5.low (base':=w.heap.size) HB6.out.size hE)
 obtain ⟨a5,c5,rfl⟩:=hl5.slice
 clear hs5 hb5 hl5
 go_wp2_with fail
 go_ret
 exact ⟨_,_,rfl,by rw[HEQ.out];exact HS5.out,HB5.out,by rw[HEQ.out];exact HL5.out⟩

set_option maxRecDepth 100000 in
theorem Xo4 {B E fu:Nat} {fv v kc kn ki:Value} {fs:List FN} {x:FN} {ns:List VN} {w:World} (hx:NodeOk fs x) (k:x.kind=3) (hin:FNodeIn B w x kc kn ki) (hs:SE B E fv fs fu 0 w) (hv:NR E w v ns) (hr:(Xd ns).kind=5) (h1:x.place<0) (h2:x.place+((Xe ns).length:Int)<0):
  Calls Tryz.prog 71 #[.pointer (some ⟨E,0,none⟩),v,Ya x kc kn ki] w (Q3 B E fv fs (Yf x ns).1 (Y0 (Yf x ns)) fu w):=by
 have HX:=Xa hx
 have HOK:=Xa hv.ok
 have HS:=Xa hs
 have HV:=Xa hv
 have HIN:=Xa hin
 obtain ⟨p1a,p1b⟩:=hv.sized
 have hkr:=Q4 hv.ok
 obtain ⟨_,b1,o1,c1,rfl,hb1,hcx⟩:∃(_:ns.length≤1759218604416) (b o c:Nat),v= .slice (some ⟨b,o,none⟩) ns.length c∧b<w.heap.size∧∃ka ki,NodeAt w.heap.size w b (o+(ns.length-1) *5) (Xd ns) ka ki:=by
  obtain ⟨hl,a,c,e,hx⟩:=hv.nodes
  obtain ⟨b,o,ea,hb,hcc⟩:=hx (by omega)
  exact ⟨hl,b,o,c,by rw[e,ea],hb,hcc _ (by omega)⟩
 obtain ⟨ka1,ki1,hn1⟩:=hcx
 have HNI:=Xa hn1.inn
 obtain ⟨_,_,aK1,cK1,rfl,_⟩:=id hn1.inn.keys
 obtain ⟨_,_,aI1,cI1,rfl,hki⟩:=id hn1.inn.kids
 have HKI:=Xa hki
 have d0:=hn1.c0
 have d1:=hn1.c1
 have d2:=hn1.c2
 have d3:=hn1.c3
 have d4:=hn1.c4
 obtain ⟨_,aC,cC,rfl,_⟩:=id hin.cst
 obtain ⟨_,_,aK,cK,rfl,_⟩:=id hin.names
 obtain ⟨_,_,aI,cI,rfl,_⟩:=id hin.kids
 have hE:=hs.lt
 obtain ⟨hpl0,hpl3⟩:=J5 hx
 have hk80:(Xd ns).kids.length≤80:=by have:=(Xp hv.ok).2.2.2 (ns.length-1) (by omega);unfold Xd;omega
 have HRK:Hid (Xe ns=(Xd ns).kids):=rfl
 have HKP:Hid (∀W,Below w.heap.size w W→∀j,j<(Xe ns).length→Calls Tryz.prog 129 #[.slice (some ⟨b1,o1,none⟩) ns.length c1, .int .i64 (Xm (Xe ns) j)] W (Gg E (PL ns j) W)):=fun W hb j hj=>Kt (hv.below hb) (Nat.lt_of_lt_of_le hE hb.size) hj
 have HSB:Hid (∀W,Below w.heap.size w W→SE B E fv fs fu 0 W):=fun W hb=>hs.below hb
 obtain ⟨rr,hrr⟩:∃rr,Yf x ns=rr:=⟨_,rfl⟩
 have HRR:=Xa hrr
 rw[hrr]
 have HQ2:Hid (x.kind=2→rr=Jb ns x.name):=fun k=>by rw[←hrr];unfold Yf;rw[if_pos k]
 have HQ3:Hid (x.kind=3→rr=atR ns x.place):=fun k=>by rw[←hrr];unfold Yf;rw[if_neg (by omega),if_pos k]
 obtain ⟨W1,hW1⟩:∃W1,w.alloc (.cells #[.int .i64 x.kind, .string x.name, .int .i64 x.place, .slice aC x.cst.length cC, .slice aK x.names.length cK, .slice aI x.kids.length cI] 84)=W1:=⟨_,rfl⟩
 obtain ⟨W2,hW2⟩:∃W2,W1.alloc (.cells #[.int .i64 (Xd ns).kind, .int .i64 (Xd ns).n, .string (Xd ns).s, .slice aK1 (Xd ns).keys.length cK1, .slice aI1 (Xd ns).kids.length cI1] 75)=W2:=⟨_,rfl⟩
 obtain ⟨W3,hW3⟩:∃W3,W2.alloc (.cells #[.bool (x.kind==2), .string x.name, .int .i64 x.place] 183)=W3:=⟨_,rfl⟩
 have hz1:W1.heap.size=w.heap.size+1:=by rw[←hW1];simp
 have hz2:W2.heap.size=w.heap.size+2:=by rw[←hW2];simp[hz1]
 have hz3:W3.heap.size=w.heap.size+3:=by rw[←hW3];simp[hz2]
 have hB1:Below w.heap.size w W1:=by rw[←hW1];exact (Below.refl _ _).alloc (Nat.le_refl _) _
 have hB2:Below w.heap.size w W2:=by rw[←hW2];exact hB1.alloc (by omega) _
 have hB3:Below w.heap.size w W3:=by rw[←hW3];exact hB2.alloc (by omega) _
 have b12:Below (w.heap.size+1) W1 W2:=by rw[←hW2];exact (Below.refl _ _).alloc (by omega) _
 have b23:Below (w.heap.size+2) W2 W3:=by rw[←hW3];exact (Below.refl _ _).alloc (by omega) _
 have hk1:W1.heap[w.heap.size]? =some (.cells #[.int .i64 x.kind, .string x.name, .int .i64 x.place, .slice aC x.cst.length cC, .slice aK x.names.length cK, .slice aI x.kids.length cI] 84 (0,0)):=by rw[←hW1];exact heap_alloc_new w _
 have hk2:W2.heap[w.heap.size+1]? =some (.cells #[.int .i64 (Xd ns).kind, .int .i64 (Xd ns).n, .string (Xd ns).s, .slice aK1 (Xd ns).keys.length cK1, .slice aI1 (Xd ns).kids.length cI1] 75 (0,0)):=by rw[←hW2,←hz1];exact heap_alloc_new W1 _
 have hk3:W3.heap[w.heap.size+2]? =some (.cells #[.bool (x.kind==2), .string x.name, .int .i64 x.place] 183 (0,0)):=by rw[←hW3,←hz2];exact heap_alloc_new W2 _
 have hk2':W3.heap[w.heap.size+1]? =some (.cells #[.int .i64 (Xd ns).kind, .int .i64 (Xd ns).n, .string (Xd ns).s, .slice aK1 (Xd ns).keys.length cK1, .slice aI1 (Xd ns).kids.length cI1] 75 (0,0)):=(b23.block _ (by omega)).trans hk2
 have f0:=Xg hk1 0
 have f1:=Xg hk1 1
 have f2:=Xg hk1 2
 have f0':=(Xc b12 (by omega:w.heap.size<w.heap.size+1)).trans f0
 have f1':=(Xc b12 (by omega:w.heap.size<w.heap.size+1)).trans f1
 have f2':=(Xc b12 (by omega:w.heap.size<w.heap.size+1)).trans f2
 have r0:=Xg hk2' 0
 have r1:=Xg hk2' 1
 have r2:=Xg hk2' 2
 have r3:=Xg hk2' 3
 have r4:=Xg hk2' 4
 have t0:=Xg hk3 0
 have t1:=Xg hk3 1
 have t2:=Xg hk3 2
 have t3:W3.frozen? ⟨w.heap.size+2,2,none⟩=false:=by simp[World.frozen?,hk3]
 simp at f0 f1 f2 f0' f1' f2' r0 r1 r2 r3 r4 t0 t1 t2
 have m0:=(Xc hB1 hb1).trans d0
 have m1:=(Xc hB1 hb1).trans d1
 have m2:=(Xc hB1 hb1).trans d2
 have m3:=(Xc hB1 hb1).trans d3
 have m4:=(Xc hB1 hb1).trans d4
 have HB3:=Xa hB3
 have HN3:=Xa (hn1.inn.below hB3)
 have hpp:Qe ns x.place=x.place+((Xe ns).length:Int):=by unfold Qe;rw[if_pos h1]
 have HEQ:Hid (rr=(0,Jj)):=by rw[Hid];rw[HQ3.out k];unfold atR;rw[if_neg (by omega),if_pos hr,if_neg (by rw[hpp];omega)]
 obtain ⟨NL,hNL⟩:∃NL,ns.length=NL:=⟨_,rfl⟩
 rw[hNL] at p1a p1b d0 d1 d2 d3 d4 m0 m1 m2 m3 m4 HKP⊢
 have z1:((NL:Int)-1).toNat=NL-1:=by omega
 obtain ⟨kr,hkr'⟩:∃kr,(Xd ns).kind=kr:=⟨_,rfl⟩
 obtain ⟨nr,hnr'⟩:∃nr,(Xd ns).n=nr:=⟨_,rfl⟩
 obtain ⟨sr,hsr'⟩:∃sr,(Xd ns).s=sr:=⟨_,rfl⟩
 obtain ⟨KS,hKS⟩:∃KS,(Xd ns).keys.length=KS:=⟨_,rfl⟩
 obtain ⟨KM,hKM⟩:∃KM,(Xd ns).kids.length=KM:=⟨_,rfl⟩
 obtain ⟨kk,hkk⟩:∃kk,x.kind=kk:=⟨_,rfl⟩
 obtain ⟨nm,hnm⟩:∃nm,x.name=nm:=⟨_,rfl⟩
 obtain ⟨pl,hpl⟩:∃pl,x.place=pl:=⟨_,rfl⟩
 rw[hkr'] at r0 m0 hW2
 rw[hnr'] at r1 m1 hW2
 rw[hsr'] at r2 m2 hW2
 rw[hKS] at r3 m3 hW2
 rw[hKM] at r4 m4 hW2 hk80
 rw[hkk] at f0 f0' t0 hW1 hW3
 rw[hnm] at f1 f1' t1 hW1 hW3
 rw[hpl] at f2 f2' t2 hW1 hW3
 unfold Ya
 rw[hkk,hnm,hpl]
 have e2:(kk==2)=false:=by rw[←hkk,k];rfl
 rw[e2] at t0 hW3
 obtain rfl:kr=5:=by rw[←hkr',hr]
 obtain ⟨q,hq⟩:∃q,pl+(KM:Int)=q:=⟨_,rfl⟩
 obtain ⟨W4,hW4⟩:∃W4,W3.setCell ⟨w.heap.size+2,2,none⟩ (.int .i64 q)=W4:=⟨_,rfl⟩
 have HB4W:Hid (Below w.heap.size w W4):=by rw[Hid,←hW4];exact HB3.out.setCell (by simp) _
 have hz4:W4.heap.size=w.heap.size+3:=by rw[←hW4];simp[hz3]
 have v0:W4.cell? ⟨w.heap.size+2,0,none⟩=some (.bool false):=by rw[←hW4,World.cell?_setCell_other (h:=by simp)];exact t0
 have v1:W4.cell? ⟨w.heap.size+2,1,none⟩=some (.string nm):=by rw[←hW4,World.cell?_setCell_other (h:=by simp)];exact t1
 have v2:W4.cell? ⟨w.heap.size+2,2,none⟩=some (.int .i64 q):=by rw[←hW4];exact World.cell?_setCell_same _ _ _ t2
 have x0:W4.cell? ⟨w.heap.size+1,0,none⟩=some (.int .i64 5):=by rw[←hW4,World.cell?_setCell_other (h:=by simp)];exact r0
 have x1:W4.cell? ⟨w.heap.size+1,1,none⟩=some (.int .i64 nr):=by rw[←hW4,World.cell?_setCell_other (h:=by simp)];exact r1
 have x2:W4.cell? ⟨w.heap.size+1,2,none⟩=some (.string sr):=by rw[←hW4,World.cell?_setCell_other (h:=by simp)];exact r2
 have x3:W4.cell? ⟨w.heap.size+1,3,none⟩=some (.slice aK1 KS cK1):=by rw[←hW4,World.cell?_setCell_other (h:=by simp)];exact r3
 have x4:=r4
 rw[←World.cell?_setCell_other (v:= .int .i64 q) (a:=⟨w.heap.size+2,2,none⟩) (h:=by simp),hW4] at x4
 have hpn:pl<0:=by rw[←hpl];exact h1
 have hpb: -80≤pl:=by have:=hpl3 k;omega
 have hqn:q<0:=by rw[←hq,←hpl,←hKM];rw[HRK.out] at h2;exact h2
 have hqm:¬(0≤q):=by omega
 clear hx hin hs hv k hn1 hki hrr hB1 hB2 hB3 b12 b23 hk1 hk2 hk3 hk2' d0 d1 d2 d3 d4 hkr hpl0 hpl3 hNL hkr' hnr' hsr' hKS hKM hkk hnm hpl hr hpp h1 h2
 go_enter Tryz.func71,Tryz.ntmps71
 go_wp2_with fail
 refine (Xap E W4 (by omega)).mono ?_
 rintro e w6 ⟨u,rfl,⟨a6,c6,rfl⟩,hnr,hb6⟩
 have HB6:=Xa (HB4W.out.trans (hb6.mono (by omega)))
 have HCO:=Xa (Kh (HSB.out _ HB6.out) hnr)
 clear hnr hb6
 go_wp2_with fail
 refine HCO.out.mono ?_
 rintro e w5 ⟨sv,xs,rfl,hs5,hb5,hl5⟩
 have HS5:=Xa hs5
 have HB5:=Xa ((ButE.of_below HB6.out).trans hb5)
 have HL5:=Xa (hl5.low (base':=w.heap.size) HB6.out.size hE)
 obtain ⟨a5,c5,rfl⟩:=hl5.slice
 clear hs5 hb5 hl5
 go_wp2_with fail
 go_ret
 exact ⟨_,_,rfl,by rw[HEQ.out];exact HS5.out,HB5.out,by rw[HEQ.out];exact HL5.out⟩

theorem X1m {B E fu:Nat} {fv v kc kn ki:Value} {fs:List FN} {x:FN} {ns:List VN} {w:World} (hx:NodeOk fs x) (hk:x.kind=2∨x.kind=3) (hin:FNodeIn B w x kc kn ki) (hs:SE B E fv fs fu 0 w) (hv:NR E w v ns):
  Calls Tryz.prog 71 #[.pointer (some ⟨E,0,none⟩),v,Ya x kc kn ki] w (Q3 B E fv fs (Yf x ns).1 (Y0 (Yf x ns)) fu w):=by
 have hkr:=Q4 hv.ok
 rcases hk with k|k
 ·by_cases h1:(Xd ns).kind=1
  ·exact Xvr hx k hin hs hv h1
  by_cases h6:(Xd ns).kind=6
  ·cases hh:Y5 (Xd ns).keys x.name
   ·exact Xq6 hx k hin hs hv h6 hh
   ·exact Xo8 hx k hin hs hv h6 hh
  ·exact X10 hx k hin hs hv h1 h6
 ·by_cases h1:(Xd ns).kind=1
  ·exact Xvs hx k hin hs hv h1
  by_cases h5:(Xd ns).kind=5
  ·by_cases p0:x.place<0
   ·by_cases p1:0≤x.place+((Xe ns).length:Int)
    ·exact Xqq hx k hin hs hv h5 p0 p1
    ·exact Xo4 hx k hin hs hv h5 p0 (by omega)
   ·by_cases p1:x.place<((Xe ns).length:Int)
    ·exact Xse hx k hin hs hv h5 (by omega) p1
    ·exact Xsa hx k hin hs hv h5 (by omega) (by omega)
  ·exact X11 hx k hin hs hv h1 h5
set_option maxRecDepth 100000 in
theorem X1n {B E d j n:Nat} {fv v:Value} {fs:List FN} {x:FN} {ns:List VN} {w:World} (hok:okF fs=true) (ho:Zs B E fv fs d) (hx:NodeOk fs x) (k:x.kind=2∨x.kind=3) (hn:n<fs.length) (hxn:Xr fs n=x) (hse:SE B E fv fs (j+1) 0 w) (hv:NR E w v ns) (hj:j≤d) (hd:d≤100000):
  Calls Tryz.prog 35 #[.pointer (some ⟨E,0,none⟩), .int .i64 n,v] w (RunAns B E (100 *(d+2)) fv fs (evM (Xf fs d) x ns Xk (j,[])).1 (evM (Xf fs d) x ns Xk (j,[])).2.2 (evM (Xf fs d) x ns Xk (j,[])).2.1 w):=by
 obtain ⟨W1,W2,W3,b0,o0,cap,aC,cC,aK,cK,aI,cI,hp⟩:=Qo hse hn hxn
 obtain ⟨hfv,q0,q1,q2,z1,hW1,p0,s0,s1,s2,s3,s4,s5,hW2,hW3,g1,g2,g3,hse3,hbut,hbu3,hbox,hE,hB⟩:=hp
 have HS3:=Xa hse3
 have HBT:=Xa hbut
 have HB3:=Xa hbu3
 have HBX:=Xa hbox
 have HV3:Hid (NR E W3 v ns):=(hv.but hbut).below hbu3
 have HOK:=Xa hv.ok
 have HO:=Xa ho
 have HX:=Xa hx
 have HE:=Xa hE
 obtain ⟨av,cv,rfl⟩:=hv.slice
 obtain ⟨R,hR⟩:∃R,evM (Xf fs d) x ns Xk (j,[])=R:=⟨_,rfl⟩
 have HRR:=Xa hR
 rw[hR]
 have hnI:(n:Int)<(fs.length:Int):=by omega
 have hj0:¬((j:Int)+1=0):=by omega
 have hjb:(j:Int)≤1000000:=by omega
 obtain ⟨NF,hNF⟩:∃NF,fs.length=NF:=⟨_,rfl⟩
 rw[hNF] at q0 p0 hnI hn
 have y0:=(Xc hbu3 (by omega)).trans hbox.c0
 have y1:=(Xc hbu3 (by omega)).trans hbox.c1
 have y2:=(Xc hbu3 (by omega)).trans hbox.c2
 have y3:=(Xc hbu3 (by omega)).trans hbox.c3
 have y4:=(Xc hbu3 (by omega)).trans hbox.c4
 have y5:=(Xc hbu3 (by omega)).trans hbox.c5
 obtain ⟨KK,hKK⟩:∃KK,x.kind=KK:=⟨_,rfl⟩
 rw[hKK] at s0 hW2 y0
 obtain ⟨r,hr⟩:∃r,Yf x ns=r:=⟨_,rfl⟩
 have HNW:Hid (Now R Xy r.1 j (Y0 r)):=by
  have h1:=Ko (r:=Yf x ns) (fu:=j) (R:=R) (by rw[←hR,Xcc (by omega)])
  rw[hr] at h1
  exact h1
 have HC:Hid (Calls Tryz.prog 71 #[.pointer (some ⟨E,0,none⟩), .slice av ns.length cv, .agg #[.int .i64 x.kind, .string x.name, .int .i64 x.place, .slice aC x.cst.length cC, .slice aK x.names.length cK, .slice aI x.kids.length cI]] W3 (Q3 B E fv fs r.1 (Y0 r) j W3)):=by
  rw[←hr]
  exact X1m hx k (hbox.inn.below (hbu3.mono (by omega))) hse3 HV3.out
 have HL1:Hid ((Y0 r).length≤100 *(d+2)):=by have:=Vm r;unfold Hid;omega
 rw[hKK] at HC
 have hk2:KK=2∨KK=3:=by rw[←hKK];exact k
 clear hse hv ho hx hxn hok hR hfv hse3 hbut hbu3 hbox hNF hKK hE hB k hr
 rcases hk2 with rfl|rfl
 all_goals
  go_enter Tryz.func35,Tryz.ntmps35
  go_wp2_with fail
  refine HC.out.mono ?_
  rintro e w5 ha
  have HA:=Xa (Vl (M:=100 *(d+2)) ha HNW.out HBT.out (.of_below HB3.out) HE.out HL1.out)
  obtain ⟨sv,xs,rfl,-,-,hl⟩:=ha
  obtain ⟨a5,c5,rfl⟩:=hl.slice
  obtain ⟨L5,hL5⟩:∃L5,(Y0 r).length=L5:=⟨_,rfl⟩
  rw[hL5] at HA⊢
  clear hl hL5
  go_wp2_with fail
  go_ret
  exact HA.out

set_option maxRecDepth 100000 in
theorem Xy3 {B E d j n:Nat} {fv v:Value} {fs:List FN} {x:FN} {ns:List VN} {w:World} (hok:okF fs=true) (ho:Zs B E fv fs d) (hx:NodeOk fs x) (k:x.kind=8) (h0:x.kids.length=0) (hn:n<fs.length) (hxn:Xr fs n=x) (hse:SE B E fv fs (j+1) 0 w) (hv:NR E w v ns) (hj:j≤d) (hd:d≤100000):
  Calls Tryz.prog 35 #[.pointer (some ⟨E,0,none⟩), .int .i64 n,v] w (RunAns B E (100 *(d+2)) fv fs (evM (Xf fs d) x ns Xk (j,[])).1 (evM (Xf fs d) x ns Xk (j,[])).2.2 (evM (Xf fs d) x ns Xk (j,[])).2.1 w):=by
 obtain ⟨W1,W2,W3,b0,o0,cap,aC,cC,aK,cK,aI,cI,hp⟩:=Qo hse hn hxn
 obtain ⟨hfv,q0,q1,q2,z1,hW1,p0,s0,s1,s2,s3,s4,s5,hW2,hW3,g1,g2,g3,hse3,hbut,hbu3,hbox,hE,hB⟩:=hp
 have HS3:=Xa hse3
 have HBT:=Xa hbut
 have HB3:=Xa hbu3
 have HBX:=Xa hbox
 have HV3:Hid (NR E W3 v ns):=(hv.but hbut).below hbu3
 have HOK:=Xa hv.ok
 have HO:=Xa ho
 have HX:=Xa hx
 have HE:=Xa hE
 obtain ⟨av,cv,rfl⟩:=hv.slice
 obtain ⟨R,hR⟩:∃R,evM (Xf fs d) x ns Xk (j,[])=R:=⟨_,rfl⟩
 have HRR:=Xa hR
 rw[hR]
 have hnI:(n:Int)<(fs.length:Int):=by omega
 have hj0:¬((j:Int)+1=0):=by omega
 have hjb:(j:Int)≤1000000:=by omega
 obtain ⟨NF,hNF⟩:∃NF,fs.length=NF:=⟨_,rfl⟩
 rw[hNF] at q0 p0 hnI hn
 have y0:=(Xc hbu3 (by omega)).trans hbox.c0
 have y1:=(Xc hbu3 (by omega)).trans hbox.c1
 have y2:=(Xc hbu3 (by omega)).trans hbox.c2
 have y3:=(Xc hbu3 (by omega)).trans hbox.c3
 have y4:=(Xc hbu3 (by omega)).trans hbox.c4
 have y5:=(Xc hbu3 (by omega)).trans hbox.c5
 obtain ⟨KK,hKK⟩:∃KK,x.kind=KK:=⟨_,rfl⟩
 rw[hKK] at s0 hW2 y0
 obtain rfl:KK=8:=by omega
 obtain ⟨r9,hr9⟩:∃r9,Yu (Zp [])=r9:=⟨_,rfl⟩
 have HR9:Hid (Yu (Yn 5 [] (Xl []) ([]:List (List VN)).length)=r9):=hr9
 have HN9:Hid (Now R Xy r9.1 j (Y0 r9)):=by
  have h1:=Xx0 (R:=R) (oc:=Xf fs d) (v:=ns) (fu:=j) h0 (by rw[←Xgp k];exact hR)
  rw[hr9] at h1
  exact h1
 have HL3:Hid (LR E (w.heap.size+1) W3 (.slice (some ⟨w.heap.size+1,0,none⟩) 0 0) [] []):=by rw[Hid,←hW3,←g2];exact ⟨World.ownsRow_lit W2 #[] 0 (Nat.le_refl _) (by simp[maxLen]) rfl,by omega,fun j hj=>absurd hj (by simp)⟩
 have HB3E:Hid (ButE E W2 W3):= .of_below hbu3
 obtain ⟨_,_,cc3,_,ff3⟩:=hse3.cells
 obtain ⟨KL,hKL⟩:∃KL,x.kids.length=KL:=⟨_,rfl⟩
 rw[hKL] at s5 hW2 y5
 obtain rfl:KL=0:=by omega
 clear hse hv ho hx hxn hok hR hfv hse3 hbut hbu3 hbox hNF hKK hE hB k h0 hr9 hKL
 go_enter Tryz.func35,Tryz.ntmps35
 go_wp2_with fail
 refine (Xaq (kind:=5) (kv:= .slice none 0 0) (keys:= []) (by decide) (by decide) HL3.out (by simp) (StrsAt.nil 0 _) (Nat.zero_le _) (by simp) (fun i hi=>absurd hi (by simp))).mono ?_
 rintro e w5 ⟨u,KV5,IV5,rfl,hn5,hb5,hl5,hf5⟩
 have HRT:=Xa (Uz (E:=E) hn5 (by have:=HE.out;omega) (by omega) hf5)
 have HRQ:Hid (Yu (Yn 5 [] (Xl []) ([]).length)=r9):=HR9.out
 rw[HRQ.out] at HRT
 have HB5:=Xa (HB3E.out.trans (.of_below hb5))
 have HS5:=Xa (HS3.out.below hb5)
 have z5:=hb5.size
 obtain ⟨a5,c5,e5⟩:=Xj hn5.row
 obtain ⟨L5,hL5⟩:∃L5,(Yn 5 [] (Xl []) ([]).length).length=L5:=⟨_,rfl⟩
 rw[hL5] at e5
 subst e5
 clear hn5 hb5 hl5 hf5 hL5
 go_wp2_with fail
 refine HRT.out.mono ?_
 rintro e w6 ⟨u6,rfl,⟨a6,l6,c6,rfl⟩,hnr,hb6⟩
 have HB6:=Xa (HB5.out.trans (.of_below hb6))
 have HCO:=Xa (Xab (HS5.out.below hb6) ⟨a6,l6,c6,rfl⟩ hnr)
 have HL1:Hid ((Y0 r9).length≤100 *(d+2)):=by have:=Vm r9;unfold Hid;omega
 have HNW:=Xa HN9.out
 obtain ⟨rc,hrc⟩:∃rc,r9.1=rc:=⟨_,rfl⟩
 rw[hrc] at HCO HNW⊢
 clear hnr hb6 hrc
 go_wp2_with fail
 refine HCO.out.mono ?_
 rintro e w7 ha
 have HA:=Xa (Vl (M:=100 *(d+2)) ha HNW.out HBT.out HB6.out HE.out HL1.out)
 obtain ⟨sv7,xs7,rfl,-,-,hl7⟩:=ha
 obtain ⟨a7,c7,rfl⟩:=hl7.slice
 obtain ⟨L7,hL7⟩:∃L7,(Y0 r9).length=L7:=⟨_,rfl⟩
 rw[hL7] at HA⊢
 clear hl7 hL7
 go_wp2_with fail
 go_ret
 exact HA.out

set_option maxRecDepth 100000 in
theorem Xvk {B E d j n:Nat} {fv v:Value} {fs:List FN} {x:FN} {ns:List VN} {w:World} (hok:okF fs=true) (ho:Zs B E fv fs d) (hx:NodeOk fs x) (k:x.kind=10) (hn:n<fs.length) (hxn:Xr fs n=x) (hse:SE B E fv fs (j+1) 0 w) (hv:NR E w v ns) (hj:j≤d) (hd:d≤100000):
  Calls Tryz.prog 35 #[.pointer (some ⟨E,0,none⟩), .int .i64 n,v] w (RunAns B E (100 *(d+2)) fv fs (evM (Xf fs d) x ns Xk (j,[])).1 (evM (Xf fs d) x ns Xk (j,[])).2.2 (evM (Xf fs d) x ns Xk (j,[])).2.1 w):=by
 obtain ⟨W1,W2,W3,b0,o0,cap,aC,cC,aK,cK,aI,cI,hp⟩:=Qo hse hn hxn
 obtain ⟨hfv,q0,q1,q2,z1,hW1,p0,s0,s1,s2,s3,s4,s5,hW2,hW3,g1,g2,g3,hse3,hbut,hbu3,hbox,hE,hB⟩:=hp
 have HS3:=Xa hse3
 have HBT:=Xa hbut
 have HB3:=Xa hbu3
 have HBX:=Xa hbox
 have HV3:Hid (NR E W3 v ns):=(hv.but hbut).below hbu3
 have HOK:=Xa hv.ok
 have HO:=Xa ho
 have HX:=Xa hx
 have HE:=Xa hE
 obtain ⟨av,cv,rfl⟩:=hv.slice
 obtain ⟨R,hR⟩:∃R,evM (Xf fs d) x ns Xk (j,[])=R:=⟨_,rfl⟩
 have HRR:=Xa hR
 rw[hR]
 have hnI:(n:Int)<(fs.length:Int):=by omega
 have hj0:¬((j:Int)+1=0):=by omega
 have hjb:(j:Int)≤1000000:=by omega
 obtain ⟨NF,hNF⟩:∃NF,fs.length=NF:=⟨_,rfl⟩
 rw[hNF] at q0 p0 hnI hn
 have y0:=(Xc hbu3 (by omega)).trans hbox.c0
 have y1:=(Xc hbu3 (by omega)).trans hbox.c1
 have y2:=(Xc hbu3 (by omega)).trans hbox.c2
 have y3:=(Xc hbu3 (by omega)).trans hbox.c3
 have y4:=(Xc hbu3 (by omega)).trans hbox.c4
 have y5:=(Xc hbu3 (by omega)).trans hbox.c5
 obtain ⟨KK,hKK⟩:∃KK,x.kind=KK:=⟨_,rfl⟩
 rw[hKK] at s0 hW2 y0
 have HV2:Hid (NR E W2 (.slice av ns.length cv) ns):=hv.but hbut
 have hkl:=hx.one (.inl k)
 obtain ⟨kb,ko,kcap,ek,hkb,k4⟩:=hbox.inn.kids.get (j:=0) (by omega)
 injection ek with ek1 ek2 ek3
 subst ek1 ek3
 obtain ⟨hq0,hq1⟩:=hx.kid 0 (by omega)
 obtain ⟨K0,hK0⟩:∃K0:Nat,Xi x 0=(K0:Int):=⟨(Xi x 0).toNat,by omega⟩
 have HK0:Hid (K0<fs.length∧(Xi x 0).toNat=K0):=by unfold Hid;omega
 have hc0:W3.cell? ⟨kb,ko,none⟩=some (.int .i64 (K0:Int)):=by rw[←hK0];exact (Xc hbu3 (by omega)).trans (by unfold Xi;simpa using k4)
 obtain rfl:KK=10:=by omega
 obtain ⟨r0,hr0⟩:∃r0,Xf fs d K0 ns j=r0:=⟨_,rfl⟩
 have HR0:=Xa hr0
 have HLE0:Hid (r0.fu≤j):=by rw[Hid,←hr0];exact (Yr hok d).le _ _ _ hv.ok
 have HFIN:Hid (∀m:List (List VN),(r0.c=0→m=r0.l)→Now R Xy (Y6 r0.c (Jq m ns m.length).length) r0.fu (Jq m ns m.length)):=fun m h=>by
  rw[Xz5]
  exact Xu2 (oc:=Xf fs d) (n:=Xi x 0) (fu:=j) (by rw[HK0.out.2];exact hr0) h (by rw[←hR,Xlp k])
 have HC:=Xa (Qf HO.out HK0.out.1 HS3.out HV3.out hj (Below.refl _ _))
 rw[hr0] at HC
 have HLO:Hid (LR E W2.heap.size W3 (.slice (some ⟨w.heap.size+1,0,none⟩) 0 0) [] []):=by rw[Hid,←hW3,←g2];exact ⟨World.ownsRow_lit W2 #[] 0 (Nat.le_refl _) (by simp[maxLen]) rfl,by omega,fun j hj=>absurd hj (by simp)⟩
 have hEw:=hE
 have hlp3:0<x.kids.length:=by omega
 have hlp4:(0:Int)<(x.kids.length:Int):=by omega
 obtain ⟨i0,hi0,hz0,hs0,hy0⟩:=info_parts Qu
 obtain ⟨LN,hLN⟩:∃LN,ns.length=LN:=⟨_,rfl⟩
 rw[hLN] at HC HV2 HV3⊢
 clear hse hv ho hx hxn hok hR hfv hse3 hbut hbu3 hbox hNF hKK hE hB k k4 hkl hq0 hq1 hK0 hr0 hLN
 go_enter Tryz.func35,Tryz.ntmps35
 go_wp2_with fail
 refine HC.out.mono ?_
 rintro e w4 ⟨sv,xs,m,rfl,hs4,hb4,hl4,hm4,hM4⟩
 have hfu4:r0.fu≤d:=by have:=HLE0.out;omega
 have HLP:Hid (Loop B E fv fs d W2 sv xs m r0.c r0.fu (.slice (some ⟨w.heap.size+1,0,none⟩) 0 0) [] (Jq m ns 0) w4):=
  ⟨hs4, (ButE.of_below HB3.out).trans hb4, HLO.out.keep hb4, hl4.low HB3.out.size (by have := HE.out; omega), by
   cases e3:sv.ownBlock with
   |none=>exact .inl rfl
   |some y=>exact .inr (by have:=(hl4.row.lt _ e3).1;simp only[Value.ownBlock];intro e4;injection e4 with e4;omega),by simp[Xle,Xlf],hfu4⟩
 obtain ⟨a4,c4,rfl⟩:=hl4.slice
 obtain ⟨M,hM⟩:∃M,m.length=M:=⟨_,rfl⟩
 have HMQ:=Xa hM
 have hMb:M≤20000000:=by omega
 have hMd:M≤100 *(d+1):=by omega
 have HM4:=Xa hm4
 have HG2:=Xa g2
 have HG3:=Xa g3
 rw[hM] at HLP⊢
 clear hs4 hb4 hl4 hm4 hM4 hM g1 g2 g3 y0 y1 y2 y3 y4 y5 hW1 hW2 hW3 s0 s1 s2 s3 s4 s5 p0 q0 q1 q2 z1 hc0
 go_wp2_with fail
 go_loopw [8,14] (fun o i wr=>∃(k:Nat) (oxs:List Value),k≤M∧i= .int .i64 k∧Loop B E fv fs d W2 (.slice a4 M c4) xs m r0.c r0.fu o oxs (Jq m ns k) wr) (fun _ i _=>M-(intOf i).toNat)
 case atStart=>exact ⟨0,[],Nat.zero_le _,rfl,HLP.out⟩
 case round=>
  obtain ⟨k,oxs,hk,rfl,hlp⟩:=hrel
  have HLP:=Xa hlp
  obtain ⟨ao,co,rfl⟩:=hlp.lo.slice
  have zs:=hlp.but.size
  have hol:=Xz6 m ns k
  by_cases hlt:k<M
  ·have hltI:(k:Int)<(M:Int):=by omega
   obtain ⟨b,ax,cx,rfl,hbb,hcell,hnr⟩:=hlp.la.cell (j:=k) (by rw[HMQ.out];exact hlt)
   have HNR:=Xa hnr
   have HTC:=Xa (Xcp hnr)
   obtain ⟨tb,htb⟩:∃tb,Xx (Xl m k)=tb:=⟨_,rfl⟩
   have HTB:=Xa htb
   rw[htb] at HTC
   obtain ⟨LX,hLX⟩:∃LX,(Xl m k).length=LX:=⟨_,rfl⟩
   obtain ⟨OL,hO⟩:∃OL,(Jq m ns k).length=OL:=⟨_,rfl⟩
   have HOL:=Xa hO
   rw[hLX] at hcell HTC HNR
   rw[hO] at HLP hol⊢
   clear hlp hnr htb hLX hO
   go_wp2_with fail
   refine HTC.out.mono ?_
   rintro e w3 ⟨rfl,hb3⟩
   have HLP3:=Xa (HLP.out.keep (.of_below hb3) (HLP.out.se.below hb3) HLP.out.fud)
   have HNR3:=Xa (HNR.out.below hb3)
   have hcell3:=(Xc hb3 (X8 hcell)).trans hcell
   have z3:=hb3.size
   clear hb3
   cases tb
   ·have HEQ:Hid (Jq m ns (k+1)=Jq m ns k):=X22 (by rw[HMQ.out];exact hlt) HTB.out
    go_wp2_with fail
    go_roundw
    case rel=>exact ⟨k+1,oxs,by omega,by go_num,by rw[HEQ.out];exact HLP3.out⟩
    case measure=>simp[intOf];omega
   ·have HEQ:Hid (Jq m ns (k+1)=Jq m ns k++ [ns]):=Xz4 (by rw[HMQ.out];exact hlt) HTB.out
    have hrow5:=HLP3.out.lo.row
    rw[HOL.out] at hrow5
    go_wp2_with (at_builtin;refine wpList_append_own_at _ rfl _ _ 28 rfl W2.heap.size 25 i0 (.slice none 0 0) 1 24 Tryz.underlying28 hi0 hz0 hs0 hy0 rfl (by decide) _ OL oxs rfl (hrow5.alloc _) ⟨w3.heap.size,0,none⟩ 1 1 [.slice av LN cv] rfl rfl ?c1 ?c2 ?c3 ?c4 ?c5 ?_)
    case c1=>exact cell_one_new _ _ _
    case c2=>intro u hu;simp at hu;subst hu;rfl
    case c3=>unfold maxLen;omega
    case c4=>omega
    case c5=>simp;omega
    intro v6 w6 hown6 hg6 _ hat6
    have hbA:Below w3.heap.size w3 (w3.alloc (.cells #[.slice av LN cv] 25)):=(Below.refl _ _).alloc (Nat.le_refl _) _
    have hlpA:=HLP3.out.keep (.of_below hbA) (HLP3.out.se.below hbA) HLP3.out.fud
    rw[←HOL.out] at hown6
    have HLP6:=Xa (hlpA.app (xs5:= [.slice av LN cv]) (m5:= [ns]) rfl (Xdi (HV2.out.but hlpA.but)) hown6 hg6 (by simpa using hat6) (by rw[HOL.out];simp;omega))
    obtain ⟨a6,c6,e6⟩:=Xj hown6
    obtain ⟨OL6,hO6⟩:∃OL6,(Jq m ns k).length+1=OL6:=⟨_,rfl⟩
    rw[hO6] at e6
    subst e6
    rw[←HEQ.out] at HLP6
    clear hown6 hg6 hlpA hrow5 hbA hO6 hat6
    go_wp2_with fail
    go_roundw
    case rel=>exact ⟨k+1,_,by omega,by go_num,HLP6.out⟩
    case measure=>simp[intOf];omega
  ·obtain rfl:k=M:=by omega
   have HNP:Hid (Now R Xy (Y6 r0.c (Jq m ns k).length) r0.fu (Jq m ns k)):=by have h1:=HFIN.out m HM4.out;rw[HMQ.out] at h1;exact h1
   have HFW:Hid ((Jq m ns k).length≤100 *(d+2)):=by unfold Hid;omega
   obtain ⟨OL,hO⟩:∃OL,(Jq m ns k).length=OL:=⟨_,rfl⟩
   rw[hO] at HLP HNP hol⊢
   clear hlp hO
   go_wp2_with fail
   refine (Zc ao OL co HLP.out.se).mono ?_
   rintro e w5 ⟨rfl,hs5,hb5⟩
   have HA:=Xa (Q2 (M:=100 *(d+2)) (e:= .returned (.slice ao OL co)) rfl HNP.out hs5 HBT.out (HLP.out.but.trans hb5) (HLP.out.lo.keep hb5) (by have:=HG2.out;omega) HE.out HFW.out)
   clear hs5 hb5
   go_wp2_with fail
   go_ret
   exact HA.out

set_option maxRecDepth 100000 in
theorem X2g {B E d j n:Nat} {fv v:Value} {fs:List FN} {x:FN} {ns:List VN} {w:World} (hok:okF fs=true) (ho:Zs B E fv fs d) (hx:NodeOk fs x) (k:x.kind=6) (hn:n<fs.length) (hxn:Xr fs n=x) (hse:SE B E fv fs (j+1) 0 w) (hv:NR E w v ns) (hj:j≤d) (hd:d≤100000):
  Calls Tryz.prog 35 #[.pointer (some ⟨E,0,none⟩), .int .i64 n,v] w (RunAns B E (100 *(d+2)) fv fs (evM (Xf fs d) x ns Xk (j,[])).1 (evM (Xf fs d) x ns Xk (j,[])).2.2 (evM (Xf fs d) x ns Xk (j,[])).2.1 w):=by
 obtain ⟨W1,W2,W3,b0,o0,cap,aC,cC,aK,cK,aI,cI,hp⟩:=Qo hse hn hxn
 obtain ⟨hfv,q0,q1,q2,z1,hW1,p0,s0,s1,s2,s3,s4,s5,hW2,hW3,g1,g2,g3,hse3,hbut,hbu3,hbox,hE,hB⟩:=hp
 have HS3:=Xa hse3
 have HBT:=Xa hbut
 have HB3:=Xa hbu3
 have HBX:=Xa hbox
 have HV3:Hid (NR E W3 v ns):=(hv.but hbut).below hbu3
 have HOK:=Xa hv.ok
 have HO:=Xa ho
 have HX:=Xa hx
 have HE:=Xa hE
 obtain ⟨av,cv,rfl⟩:=hv.slice
 obtain ⟨R,hR⟩:∃R,evM (Xf fs d) x ns Xk (j,[])=R:=⟨_,rfl⟩
 have HRR:=Xa hR
 rw[hR]
 have hnI:(n:Int)<(fs.length:Int):=by omega
 have hj0:¬((j:Int)+1=0):=by omega
 have hjb:(j:Int)≤1000000:=by omega
 obtain ⟨NF,hNF⟩:∃NF,fs.length=NF:=⟨_,rfl⟩
 rw[hNF] at q0 p0 hnI hn
 have y0:=(Xc hbu3 (by omega)).trans hbox.c0
 have y1:=(Xc hbu3 (by omega)).trans hbox.c1
 have y2:=(Xc hbu3 (by omega)).trans hbox.c2
 have y3:=(Xc hbu3 (by omega)).trans hbox.c3
 have y4:=(Xc hbu3 (by omega)).trans hbox.c4
 have y5:=(Xc hbu3 (by omega)).trans hbox.c5
 obtain ⟨KK,hKK⟩:∃KK,x.kind=KK:=⟨_,rfl⟩
 rw[hKK] at s0 hW2 y0
 have hkl:=hx.two (.inl k)
 obtain ⟨kb,ko,kcap,ek,hkb,k4⟩:=hbox.inn.kids.get (j:=0) (by omega)
 injection ek with ek1 ek2 ek3
 subst ek1 ek3
 obtain ⟨hq0,hq1⟩:=hx.kid 0 (by omega)
 obtain ⟨K0,hK0⟩:∃K0:Nat,Xi x 0=(K0:Int):=⟨(Xi x 0).toNat,by omega⟩
 have HK0:Hid (K0<fs.length∧(Xi x 0).toNat=K0):=by unfold Hid;omega
 have hc0:W3.cell? ⟨kb,ko,none⟩=some (.int .i64 (K0:Int)):=by rw[←hK0];exact (Xc hbu3 (by omega)).trans (by unfold Xi;simpa using k4)
 have k41:=(show IntsAt B W2 _ x.kids from hbox.inn.kids).get (j:=1) (by omega)
 obtain ⟨kb1,ko1,kcap1,ek1,hkb1,k41⟩:=k41
 injection ek1 with eb1 eb2 eb3
 injection eb1 with eb1
 injection eb1 with eb1 eb4 eb5
 clear eb2 eb3 eb5
 subst eb1 eb4
 obtain ⟨hq1a,hq1b⟩:=hx.kid 1 (by omega)
 obtain ⟨K1,hK1⟩:∃K1:Nat,Xi x 1=(K1:Int):=⟨(Xi x 1).toNat,by omega⟩
 have HK1:Hid (K1<fs.length∧(Xi x 1).toNat=K1):=by unfold Hid;omega
 have hc1:W2.cell? ⟨kb,ko+1,none⟩=some (.int .i64 (K1:Int)):=by rw[←hK1];exact k41
 obtain rfl:KK=6:=by omega
 obtain ⟨r0,hr0⟩:∃r0,Xf fs d K0 ns j=r0:=⟨_,rfl⟩
 have HR0:=Xa hr0
 have HLE0:Hid (r0.fu≤j):=by rw[Hid,←hr0];exact (Yr hok d).le _ _ _ hv.ok
 have HLE:Hid (∀n ns fu,okB ns=true→(Xf fs d n ns fu).fu≤fu):=(Yr hok d).le
 have HRE:Hid (Xq (Xf fs d) (Xi x 0) ns (fun y=>Xq (Xf fs d) (Xi x 1) y Xk) (j,[])=R):=by rw[Hid,←hR,Xs4 k]
 have HC:=Xa (Qf HO.out HK0.out.1 HS3.out HV3.out hj (Below.refl _ _))
 rw[hr0] at HC
 have HLO:Hid (LR E W2.heap.size W3 (.slice (some ⟨w.heap.size+1,0,none⟩) 0 0) [] []):=by rw[Hid,←hW3,←g2];exact ⟨World.ownsRow_lit W2 #[] 0 (Nat.le_refl _) (by simp[maxLen]) rfl,by omega,fun j hj=>absurd hj (by simp)⟩
 have hEw:=hE
 have hkbE:kb≠E:=by omega
 have hlp:1<x.kids.length:=by omega
 have hlp2:(1:Int)<(x.kids.length:Int):=by omega
 have hlp3:0<x.kids.length:=by omega
 have hlp4:(0:Int)<(x.kids.length:Int):=by omega
 obtain ⟨i0,hi0,hz0,hs0,hy0⟩:=info_parts Qu
 clear hse hv ho hx hxn hok hR hfv hse3 hbut hbu3 hbox hNF hKK hE hB k k4 hkl hq0 hq1 hK0 hr0 hK1 k41 hq1a hq1b
 go_enter Tryz.func35,Tryz.ntmps35
 go_wp2_with fail
 refine HC.out.mono ?_
 rintro e w4 ⟨sv,xs,m,rfl,hs4,hb4,hl4,hm4,hM4⟩
 have HNW:=Xa (Kp (v:=ns) (h:=(fun y=>Xq (Xf fs d) (Xi x 1) y Xk)) (by rw[HK0.out.2];exact HR0.out) hm4 HRE.out)
 have hfu4:r0.fu≤d:=by have:=HLE0.out;omega
 have HLP:Hid (Loop B E fv fs d W2 sv xs m r0.c r0.fu (.slice (some ⟨w.heap.size+1,0,none⟩) 0 0) [] [] w4):=
  ⟨hs4, (ButE.of_below HB3.out).trans hb4, HLO.out.keep hb4, hl4.low HB3.out.size (by have := HE.out; omega), by
   cases e3:sv.ownBlock with
   |none=>exact .inl rfl
   |some y=>exact .inr (by have:=(hl4.row.lt _ e3).1;simp only[Value.ownBlock];intro e4;injection e4 with e4;omega),by simp,hfu4⟩
 obtain ⟨a4,c4,rfl⟩:=hl4.slice
 obtain ⟨M,hM⟩:∃M,m.length=M:=⟨_,rfl⟩
 have HMQ:=Xa hM
 have hMb:M≤20000000:=by omega
 have HG2:=Xa g2
 have HG3:=Xa g3
 rw[hM] at HLP⊢
 clear hs4 hb4 hl4 hm4 hM4 hM g1 g2 g3 y0 y1 y2 y3 y4 y5 hW1 hW2 hW3 s0 s1 s2 s3 s4 s5 p0 q0 q1 q2 z1 hc0
 go_wp2_with fail
 go_loopw [8,10] (fun o i wr=>∃(k:Nat) (c:Int) (fu:Nat) (oxs:List Value) (out:List (List VN)),k≤M∧i= .int .i64 k∧Hid (Now R (fun st=>Yd (Xo (fun y=>Xq (Xf fs d) (Xi x 1) y Xk) (m.drop k) st) Xy) c fu out)∧Loop B E fv fs d W2 (.slice a4 M c4) xs m c fu o oxs out wr) (fun _ i _=>M-(intOf i).toNat)
 case atStart=>exact ⟨0,r0.c,r0.fu,[],[],Nat.zero_le _,rfl,HNW.out,HLP.out⟩
 case round=>
  obtain ⟨k,c,fu,oxs,out,hk,rfl,hnow,hlp⟩:=hrel
  have HNOW:=Xa hnow
  have HLP:=Xa hlp
  obtain ⟨ao,co,rfl⟩:=hlp.lo.slice
  obtain ⟨_,_,q2,_,_⟩:=hlp.se.cells
  have zs:=hlp.but.size
  have y5:=hlp.but.cellE (by omega) HBX.out.c5
  have hc1':=hlp.but.cellE hkbE hc1
  by_cases hlt:k<M
  ·have hltI:(k:Int)<(M:Int):=by omega
   by_cases h0:c=0
   ·subst h0
    obtain ⟨hnx,ho40⟩:=hnow.next rfl (by rw[HMQ.out];exact hlt)
    obtain ⟨b,ax,cx,rfl,hbb,hcell,hnr⟩:=hlp.la.cell (j:=k) (by rw[HMQ.out];exact hlt)
    obtain ⟨r1,hr1⟩:∃r1,Xf fs d K1 (Xl m k) fu=r1:=⟨_,rfl⟩
    have HCR:Hid (∀W,Below wr.heap.size wr W→Calls Tryz.prog 35 #[.pointer (some ⟨E,0,none⟩), .int .i64 K1, .slice ax (Xl m k).length cx] W (RunAns B E (100 *(d+1)) fv fs r1.c r1.l r1.fu wr)):=fun W hb=>by
     rw[←hr1]
     exact Qf HO.out HK1.out.1 hlp.se hnr hlp.fud hb
    have HLF:Hid (r1.fu≤d):=by have h1:=HLE.out K1 (Xl m k) fu hnr.ok;rw[hr1] at h1;exact Nat.le_trans h1 hlp.fud
    have HAFT:Hid (∀m5:List (List VN),(r1.c=0→m5=r1.l)→Now R (fun st=>Yd (Xo (fun y=>Xq (Xf fs d) (Xi x 1) y Xk) (m.drop (k+1)) st) Xy) (Y6 r1.c (out.length+m5.length)) r1.fu (out++m5)):=fun m5 h5=>Up ho40 h5 (by rw[hnx,Ur (r:=r1) (by rw[HK1.out.2];exact hr1)])
    obtain ⟨LX,hLX⟩:∃LX,(Xl m k).length=LX:=⟨_,rfl⟩
    obtain ⟨OL,hO⟩:∃OL,out.length=OL:=⟨_,rfl⟩
    have HOL:=Xa hO
    have hOL40:OL≤40:=by omega
    rw[hLX] at hcell HCR
    rw[hO] at HLP⊢
    clear hnow hlp hnx ho40 hnr hr1 hLX hO
    go_wp2_with fail
    go_region_law (first
     |(refine Xrs (by rfl) 35 _ _ _ _ _ _ (by rfl) (.pointer (some ⟨E,0,none⟩)) (.int .i64 (K1:Int)) (.slice ax LX cx) (by rfl) (by rfl) (by rfl) (X1w _ _ _) (HCR.out _ (by first|exact Below.refl _ _|exact (Below.refl _ _).drew)) ?_;rintro e w5 ⟨sv5,xs5,m5,rfl,hs5,hb5,hl5,hm5,hM5⟩;have hlp5:=HLP.out.keep hb5 hs5 HLF.out;have hrow5:=hlp5.lo.row;rw[HOL.out] at hrow5;have hlen5:=hl5.len;have hone5:=hl5.ones;have hin5:=hl5.inn;obtain ⟨a5,c5,rfl⟩:=hl5.slice;have hsrc5:=hl5.src;have hz5:=hlp5.but.size;refine ⟨_,rfl, ?_⟩)
     |(refine Zl (by rfl) _ _ 28 (by rfl) W2.heap.size 25 i0 (.slice none 0 0) 1 24 Tryz.underlying28 hi0 hz0 hs0 hy0 rfl (by decide) _ OL oxs (by rfl) hrow5 a5 m5.length c5 xs5 (by rfl) (by rw[hlen5,Nat.mul_one]) hsrc5 hone5 (by unfold maxLen;omega) (by omega) (by omega) ?_;intro v6 w6 hown6 hg6 hat6))
    all_goals
     rw[←HOL.out] at hown6
     have HLP6:=Xa (hlp5.app hlen5 hin5 hown6 hg6 hat6 (by rw[HOL.out];omega))
     have HNW6:=Xa (HAFT.out m5 hm5)
     obtain ⟨a6,c6,e6⟩:=Xj hown6
     obtain ⟨OL6,hO6⟩:∃OL6,out.length+m5.length=OL6:=⟨_,rfl⟩
     rw[hO6] at e6 HNW6
     subst e6
     clear hown6 hg6 hat6 hlp5 hlen5 hin5 hone5 hrow5 hsrc5 hs5 hb5 hl5 hm5 hM5 hO6
     go_wp2_with fail
     refine (Zc a6 OL6 c6 HLP6.out.se).mono ?_
     rintro e w7 ⟨rfl,hs7,hb7⟩
     have HLP7:=Xa (HLP6.out.keep hb7 hs7 HLF.out)
     clear hs7 hb7
     go_wp2_with fail
     go_roundw
     case rel=>exact ⟨k+1,_,_,_,_,by omega,by go_num,HNW6.out,HLP7.out⟩
     case measure=>simp[intOf];omega
   ·have q0:(c==0)=false:=by simpa using h0
    have HNP:Hid (Now R Xy c fu out):=hnow.dead h0 _ _
    have HMC:=Xa HNP.out.many
    have HFW:Hid (out.length≤100 *(d+2)):=by have:=HLP.out.few;unfold Hid;omega
    obtain ⟨OL,hO⟩:∃OL,out.length=OL:=⟨_,rfl⟩
    rw[hO] at HLP HMC⊢
    clear h0
    clear hnow hlp hO
    go_wp2_with fail
    refine (Zc ao OL co HLP.out.se).mono ?_
    rintro e w5 ⟨rfl,hs5,hb5⟩
    rw[HMC.out] at hs5
    have HA:=Xa (Q2 (M:=100 *(d+2)) (e:= .returned (.slice ao OL co)) rfl HNP.out hs5 HBT.out (HLP.out.but.trans hb5) (HLP.out.lo.keep hb5) (by have:=HG2.out;omega) HE.out HFW.out)
    clear hs5 hb5
    go_wp2_with fail
    go_ret
    exact HA.out
  ·obtain rfl:k=M:=by omega
   have HNP:Hid (Now R Xy c fu out):=hnow.over (by rw[HMQ.out];exact Nat.le_refl _)
   have HMC:=Xa HNP.out.many
   have HFW:Hid (out.length≤100 *(d+2)):=by have:=HLP.out.few;unfold Hid;omega
   obtain ⟨OL,hO⟩:∃OL,out.length=OL:=⟨_,rfl⟩
   rw[hO] at HLP HMC⊢
   clear hnow hlp hO
   go_wp2_with fail
   refine (Zc ao OL co HLP.out.se).mono ?_
   rintro e w5 ⟨rfl,hs5,hb5⟩
   rw[HMC.out] at hs5
   have HA:=Xa (Q2 (M:=100 *(d+2)) (e:= .returned (.slice ao OL co)) rfl HNP.out hs5 HBT.out (HLP.out.but.trans hb5) (HLP.out.lo.keep hb5) (by have:=HG2.out;omega) HE.out HFW.out)
   clear hs5 hb5
   go_wp2_with fail
   go_ret
   exact HA.out

set_option maxRecDepth 100000 in
theorem X4i {B E d j n:Nat} {fv v:Value} {fs:List FN} {x:FN} {ns:List VN} {w:World} (hok:okF fs=true) (ho:Zs B E fv fs d) (hx:NodeOk fs x) (k:x.kind=22) (hn:n<fs.length) (hxn:Xr fs n=x) (hse:SE B E fv fs (j+1) 0 w) (hv:NR E w v ns) (hj:j≤d) (hd:d≤100000):
  Calls Tryz.prog 35 #[.pointer (some ⟨E,0,none⟩), .int .i64 n,v] w (RunAns B E (100 *(d+2)) fv fs (evM (Xf fs d) x ns Xk (j,[])).1 (evM (Xf fs d) x ns Xk (j,[])).2.2 (evM (Xf fs d) x ns Xk (j,[])).2.1 w):=by
 obtain ⟨W1,W2,W3,b0,o0,cap,aC,cC,aK,cK,aI,cI,hp⟩:=Qo hse hn hxn
 obtain ⟨hfv,q0,q1,q2,z1,hW1,p0,s0,s1,s2,s3,s4,s5,hW2,hW3,g1,g2,g3,hse3,hbut,hbu3,hbox,hE,hB⟩:=hp
 have HS3:=Xa hse3
 have HBT:=Xa hbut
 have HB3:=Xa hbu3
 have HBX:=Xa hbox
 have HV3:Hid (NR E W3 v ns):=(hv.but hbut).below hbu3
 have HOK:=Xa hv.ok
 have HO:=Xa ho
 have HX:=Xa hx
 have HE:=Xa hE
 obtain ⟨av,cv,rfl⟩:=hv.slice
 obtain ⟨R,hR⟩:∃R,evM (Xf fs d) x ns Xk (j,[])=R:=⟨_,rfl⟩
 have HRR:=Xa hR
 rw[hR]
 have hnI:(n:Int)<(fs.length:Int):=by omega
 have hj0:¬((j:Int)+1=0):=by omega
 have hjb:(j:Int)≤1000000:=by omega
 obtain ⟨NF,hNF⟩:∃NF,fs.length=NF:=⟨_,rfl⟩
 rw[hNF] at q0 p0 hnI hn
 have y0:=(Xc hbu3 (by omega)).trans hbox.c0
 have y1:=(Xc hbu3 (by omega)).trans hbox.c1
 have y2:=(Xc hbu3 (by omega)).trans hbox.c2
 have y3:=(Xc hbu3 (by omega)).trans hbox.c3
 have y4:=(Xc hbu3 (by omega)).trans hbox.c4
 have y5:=(Xc hbu3 (by omega)).trans hbox.c5
 obtain ⟨KK,hKK⟩:∃KK,x.kind=KK:=⟨_,rfl⟩
 rw[hKK] at s0 hW2 y0
 have HV2:Hid (NR E W2 (.slice av ns.length cv) ns):=hv.but hbut
 have hkl:=hx.three k
 obtain ⟨kb,ko,kcap,ek,hkb,k4⟩:=hbox.inn.kids.get (j:=0) (by omega)
 injection ek with ek1 ek2 ek3
 subst ek1 ek3
 obtain ⟨hq0,hq1⟩:=hx.kid 0 (by omega)
 obtain ⟨K0,hK0⟩:∃K0:Nat,Xi x 0=(K0:Int):=⟨(Xi x 0).toNat,by omega⟩
 have HK0:Hid (K0<fs.length∧(Xi x 0).toNat=K0):=by unfold Hid;omega
 have hc0:W3.cell? ⟨kb,ko,none⟩=some (.int .i64 (K0:Int)):=by rw[←hK0];exact (Xc hbu3 (by omega)).trans (by unfold Xi;simpa using k4)
 have k41:=(show IntsAt B W2 _ x.kids from hbox.inn.kids).get (j:=1) (by omega)
 obtain ⟨kb1,ko1,kcap1,ek1,hkb1,k41⟩:=k41
 injection ek1 with eb1 eb2 eb3
 injection eb1 with eb1
 injection eb1 with eb1 eb4 eb5
 clear eb2 eb3 eb5
 subst eb1 eb4
 obtain ⟨hq1a,hq1b⟩:=hx.kid 1 (by omega)
 obtain ⟨K1,hK1⟩:∃K1:Nat,Xi x 1=(K1:Int):=⟨(Xi x 1).toNat,by omega⟩
 have HK1:Hid (K1<fs.length∧(Xi x 1).toNat=K1):=by unfold Hid;omega
 have hc1:W2.cell? ⟨kb,ko+1,none⟩=some (.int .i64 (K1:Int)):=by rw[←hK1];exact k41
 have k42:=(show IntsAt B W2 _ x.kids from hbox.inn.kids).get (j:=2) (by omega)
 obtain ⟨kb2,ko2,kcap2,ek2,hkb2,k42⟩:=k42
 injection ek2 with eb1 eb2 eb3
 injection eb1 with eb1
 injection eb1 with eb1 eb4 eb5
 clear eb2 eb3 eb5
 subst eb1 eb4
 obtain ⟨hq2a,hq2b⟩:=hx.kid 2 (by omega)
 obtain ⟨K2,hK2⟩:∃K2:Nat,Xi x 2=(K2:Int):=⟨(Xi x 2).toNat,by omega⟩
 have HK2:Hid (K2<fs.length∧(Xi x 2).toNat=K2):=by unfold Hid;omega
 have hc2:W2.cell? ⟨kb,ko+2,none⟩=some (.int .i64 (K2:Int)):=by rw[←hK2];exact k42
 obtain rfl:KK=22:=by omega
 obtain ⟨r0,hr0⟩:∃r0,Xf fs d K0 ns j=r0:=⟨_,rfl⟩
 have HR0:=Xa hr0
 have HLE0:Hid (r0.fu≤j):=by rw[Hid,←hr0];exact (Yr hok d).le _ _ _ hv.ok
 have HLE:Hid (∀n ns fu,okB ns=true→(Xf fs d n ns fu).fu≤fu):=(Yr hok d).le
 have HRE:Hid (Xq (Xf fs d) (Xi x 0) ns (fun y=>if Xx y=true then Xq (Xf fs d) (Xi x 1) ns Xk else Xq (Xf fs d) (Xi x 2) ns Xk) (j,[])=R):=by rw[Hid,←hR,X2k k]
 have HC:=Xa (Qf HO.out HK0.out.1 HS3.out HV3.out hj (Below.refl _ _))
 rw[hr0] at HC
 have HLO:Hid (LR E W2.heap.size W3 (.slice (some ⟨w.heap.size+1,0,none⟩) 0 0) [] []):=by rw[Hid,←hW3,←g2];exact ⟨World.ownsRow_lit W2 #[] 0 (Nat.le_refl _) (by simp[maxLen]) rfl,by omega,fun j hj=>absurd hj (by simp)⟩
 have hEw:=hE
 have hkbE:kb≠E:=by omega
 have hlp:2<x.kids.length:=by omega
 have hlp2:(2:Int)<(x.kids.length:Int):=by omega
 have hlp5:1<x.kids.length:=by omega
 have hlp6:(1:Int)<(x.kids.length:Int):=by omega
 have hlp3:0<x.kids.length:=by omega
 have hlp4:(0:Int)<(x.kids.length:Int):=by omega
 obtain ⟨i0,hi0,hz0,hs0,hy0⟩:=info_parts Qu
 clear hse hv ho hx hxn hok hR hfv hse3 hbut hbu3 hbox hNF hKK hE hB k k4 hkl hq0 hq1 hK0 hr0 hK1 k41 hq1a hq1b hK2 k42 hq2a hq2b
 go_enter Tryz.func35,Tryz.ntmps35
 go_wp2_with fail
 refine HC.out.mono ?_
 rintro e w4 ⟨sv,xs,m,rfl,hs4,hb4,hl4,hm4,hM4⟩
 have HNW:=Xa (Kp (v:=ns) (h:=(fun y=>if Xx y=true then Xq (Xf fs d) (Xi x 1) ns Xk else Xq (Xf fs d) (Xi x 2) ns Xk)) (by rw[HK0.out.2];exact HR0.out) hm4 HRE.out)
 have hfu4:r0.fu≤d:=by have:=HLE0.out;omega
 have HLP:Hid (Loop B E fv fs d W2 sv xs m r0.c r0.fu (.slice (some ⟨w.heap.size+1,0,none⟩) 0 0) [] [] w4):=
  ⟨hs4, (ButE.of_below HB3.out).trans hb4, HLO.out.keep hb4, hl4.low HB3.out.size (by have := HE.out; omega), by
   cases e3:sv.ownBlock with
   |none=>exact .inl rfl
   |some y=>exact .inr (by have:=(hl4.row.lt _ e3).1;simp only[Value.ownBlock];intro e4;injection e4 with e4;omega),by simp,hfu4⟩
 obtain ⟨a4,c4,rfl⟩:=hl4.slice
 obtain ⟨M,hM⟩:∃M,m.length=M:=⟨_,rfl⟩
 have HMQ:=Xa hM
 have hMb:M≤20000000:=by omega
 have HG2:=Xa g2
 have HG3:=Xa g3
 rw[hM] at HLP⊢
 clear hs4 hb4 hl4 hm4 hM4 hM g1 g2 g3 y0 y1 y2 y3 y4 y5 hW1 hW2 hW3 s0 s1 s2 s3 s4 s5 p0 q0 q1 q2 z1 hc0
 go_wp2_with fail
 go_loopw [8,22] (fun o i wr=>∃(k:Nat) (c:Int) (fu:Nat) (oxs:List Value) (out:List (List VN)),k≤M∧i= .int .i64 k∧Hid (Now R (fun st=>Yd (Xo (fun y=>if Xx y=true then Xq (Xf fs d) (Xi x 1) ns Xk else Xq (Xf fs d) (Xi x 2) ns Xk) (m.drop k) st) Xy) c fu out)∧Loop B E fv fs d W2 (.slice a4 M c4) xs m c fu o oxs out wr) (fun _ i _=>M-(intOf i).toNat)
 case atStart=>exact ⟨0,r0.c,r0.fu,[],[],Nat.zero_le _,rfl,HNW.out,HLP.out⟩
 case round=>
  obtain ⟨k,c,fu,oxs,out,hk,rfl,hnow,hlp⟩:=hrel
  have HNOW:=Xa hnow
  have HLP:=Xa hlp
  obtain ⟨ao,co,rfl⟩:=hlp.lo.slice
  obtain ⟨_,_,q2,_,_⟩:=hlp.se.cells
  have zs:=hlp.but.size
  have y5:=hlp.but.cellE (by omega) HBX.out.c5
  have hc2':=hlp.but.cellE hkbE hc2
  by_cases hlt:k<M
  ·have hltI:(k:Int)<(M:Int):=by omega
   by_cases h0:c=0
   ·subst h0
    obtain ⟨hnx,ho40⟩:=hnow.next rfl (by rw[HMQ.out];exact hlt)
    have HNX:=Xa hnx
    have HO40:=Xa ho40
    obtain ⟨b,ax,cx,rfl,hbb,hcell,hnr⟩:=hlp.la.cell (j:=k) (by rw[HMQ.out];exact hlt)
    have HTC:=Xa (Xcp hnr)
    obtain ⟨tb,htb⟩:∃tb,Xx (Xl m k)=tb:=⟨_,rfl⟩
    have HTB:=Xa htb
    rw[htb] at HTC
    obtain ⟨LX,hLX⟩:∃LX,(Xl m k).length=LX:=⟨_,rfl⟩
    obtain ⟨OL,hO⟩:∃OL,out.length=OL:=⟨_,rfl⟩
    have HOL:=Xa hO
    have hOL40:OL≤40:=by omega
    rw[hLX] at hcell HTC
    rw[hO] at HLP⊢
    have hc1':=hlp.but.cellE hkbE hc1
    clear hnow hlp hnx ho40 hnr htb hLX hO
    go_wp2_with fail
    refine HTC.out.mono ?_
    rintro e w3 ⟨rfl,hb3⟩
    have HLP3:=Xa (HLP.out.keep (.of_below hb3) (HLP.out.se.below hb3) HLP.out.fud)
    clear hb3
    cases tb
    ·have HCR:Hid (∀W,Below w3.heap.size w3 W→Calls Tryz.prog 35 #[.pointer (some ⟨E,0,none⟩), .int .i64 K2, .slice av ns.length cv] W (RunAns B E (100 *(d+1)) fv fs (Xf fs d K2 ns fu).c (Xf fs d K2 ns fu).l (Xf fs d K2 ns fu).fu w3)):=fun W hb=>Qf HO.out HK2.out.1 HLP3.out.se ((HV2.out.but HLP3.out.but)) HLP3.out.fud hb
     obtain ⟨r1,hr1⟩:∃r1,Xf fs d K2 ns fu=r1:=⟨_,rfl⟩
     rw[hr1] at HCR
     have HLF:Hid (r1.fu≤d):=by have h1:=HLE.out K2 ns fu HOK.out;rw[hr1] at h1;exact Nat.le_trans h1 HLP3.out.fud
     have HAFT:Hid (∀m5:List (List VN),(r1.c=0→m5=r1.l)→Now R (fun st=>Yd (Xo (fun y=>if Xx y=true then Xq (Xf fs d) (Xi x 1) ns Xk else Xq (Xf fs d) (Xi x 2) ns Xk) (m.drop (k+1)) st) Xy) (Y6 r1.c (out.length+m5.length)) r1.fu (out++m5)):=fun m5 h5=>Up HO40.out h5 (by have h1:=HNX.out;simp only[HTB.out,Bool.false_eq_true,if_false] at h1;rw[Ur (r:=r1) (by rw[HK2.out.2];exact hr1)] at h1;exact h1)
     have HCR2:=Xa (HCR.out w3 (Below.refl _ _))
     have hc1w:=HLP3.out.but.cellE hkbE hc1
     have y5w:=HLP3.out.but.cellE (show w.heap.size≠E by omega) HBX.out.c5
     clear hr1
     go_wp2_with fail
     refine HCR2.out.mono ?_
     rintro e w5 ⟨sv5,xs5,m5,rfl,hs5,hb5,hl5,hm5,hM5⟩
     have hlp5:=HLP3.out.keep hb5 hs5 HLF.out
     have hrow5:=hlp5.lo.row
     rw[HOL.out] at hrow5
     have hlen5:=hl5.len
     have hone5:=hl5.ones
     have hin5:=hl5.inn
     obtain ⟨a5,c5,rfl⟩:=hl5.slice
     have hsrc5:=hl5.src
     have hz5:=hlp5.but.size
     go_wp2_with (at_builtin;refine Ye rfl _ _ 28 rfl W2.heap.size 25 i0 (.slice none 0 0) 1 24 Tryz.underlying28 hi0 hz0 hs0 hy0 rfl (by decide) _ OL oxs rfl hrow5 a5 m5.length c5 xs5 rfl (by rw[hlen5,Nat.mul_one]) hsrc5 hone5 (by unfold maxLen;omega) (by omega) (by omega) ?_)
     intro v6 w6 hown6 hg6 hat6
     rw[←HOL.out] at hown6
     have HLP6:=Xa (hlp5.app hlen5 hin5 hown6 hg6 hat6 (by rw[HOL.out];omega))
     have HNW6:=Xa (HAFT.out m5 hm5)
     obtain ⟨a6,c6,e6⟩:=Xj hown6
     obtain ⟨OL6,hO6⟩:∃OL6,out.length+m5.length=OL6:=⟨_,rfl⟩
     rw[hO6] at e6 HNW6
     subst e6
     clear hown6 hg6 hat6 hlp5 hlen5 hin5 hone5 hrow5 hsrc5 hs5 hb5 hl5 hm5 hM5 hO6
     go_wp2_with fail
     refine (Zc a6 OL6 c6 HLP6.out.se).mono ?_
     rintro e w7 ⟨rfl,hs7,hb7⟩
     have HLP7:=Xa (HLP6.out.keep hb7 hs7 HLF.out)
     clear hs7 hb7
     go_wp2_with fail
     go_roundw
     case rel=>exact ⟨k+1,_,_,_,_,by omega,by go_num,HNW6.out,HLP7.out⟩
     case measure=>simp[intOf];omega
    ·have HCR:Hid (∀W,Below w3.heap.size w3 W→Calls Tryz.prog 35 #[.pointer (some ⟨E,0,none⟩), .int .i64 K1, .slice av ns.length cv] W (RunAns B E (100 *(d+1)) fv fs (Xf fs d K1 ns fu).c (Xf fs d K1 ns fu).l (Xf fs d K1 ns fu).fu w3)):=fun W hb=>Qf HO.out HK1.out.1 HLP3.out.se ((HV2.out.but HLP3.out.but)) HLP3.out.fud hb
     obtain ⟨r1,hr1⟩:∃r1,Xf fs d K1 ns fu=r1:=⟨_,rfl⟩
     rw[hr1] at HCR
     have HLF:Hid (r1.fu≤d):=by have h1:=HLE.out K1 ns fu HOK.out;rw[hr1] at h1;exact Nat.le_trans h1 HLP3.out.fud
     have HAFT:Hid (∀m5:List (List VN),(r1.c=0→m5=r1.l)→Now R (fun st=>Yd (Xo (fun y=>if Xx y=true then Xq (Xf fs d) (Xi x 1) ns Xk else Xq (Xf fs d) (Xi x 2) ns Xk) (m.drop (k+1)) st) Xy) (Y6 r1.c (out.length+m5.length)) r1.fu (out++m5)):=fun m5 h5=>Up HO40.out h5 (by have h1:=HNX.out;simp only[HTB.out,if_true] at h1;rw[Ur (r:=r1) (by rw[HK1.out.2];exact hr1)] at h1;exact h1)
     have HCR2:=Xa (HCR.out w3 (Below.refl _ _))
     have hc1w:=HLP3.out.but.cellE hkbE hc1
     have y5w:=HLP3.out.but.cellE (show w.heap.size≠E by omega) HBX.out.c5
     clear hr1
     go_wp2_with fail
     refine HCR2.out.mono ?_
     rintro e w5 ⟨sv5,xs5,m5,rfl,hs5,hb5,hl5,hm5,hM5⟩
     have hlp5:=HLP3.out.keep hb5 hs5 HLF.out
     have hrow5:=hlp5.lo.row
     rw[HOL.out] at hrow5
     have hlen5:=hl5.len
     have hone5:=hl5.ones
     have hin5:=hl5.inn
     obtain ⟨a5,c5,rfl⟩:=hl5.slice
     have hsrc5:=hl5.src
     have hz5:=hlp5.but.size
     go_wp2_with (at_builtin;refine Ye rfl _ _ 28 rfl W2.heap.size 25 i0 (.slice none 0 0) 1 24 Tryz.underlying28 hi0 hz0 hs0 hy0 rfl (by decide) _ OL oxs rfl hrow5 a5 m5.length c5 xs5 rfl (by rw[hlen5,Nat.mul_one]) hsrc5 hone5 (by unfold maxLen;omega) (by omega) (by omega) ?_)
     intro v6 w6 hown6 hg6 hat6
     rw[←HOL.out] at hown6
     have HLP6:=Xa (hlp5.app hlen5 hin5 hown6 hg6 hat6 (by rw[HOL.out];omega))
     have HNW6:=Xa (HAFT.out m5 hm5)
     obtain ⟨a6,c6,e6⟩:=Xj hown6
     obtain ⟨OL6,hO6⟩:∃OL6,out.length+m5.length=OL6:=⟨_,rfl⟩
     rw[hO6] at e6 HNW6
     subst e6
     clear hown6 hg6 hat6 hlp5 hlen5 hin5 hone5 hrow5 hsrc5 hs5 hb5 hl5 hm5 hM5 hO6
     go_wp2_with fail
     refine (Zc a6 OL6 c6 HLP6.out.se).mono ?_
     rintro e w7 ⟨rfl,hs7,hb7⟩
     have HLP7:=Xa (HLP6.out.keep hb7 hs7 HLF.out)
     clear hs7 hb7
     go_wp2_with fail
     go_roundw
     case rel=>exact ⟨k+1,_,_,_,_,by omega,by go_num,HNW6.out,HLP7.out⟩
     case measure=>simp[intOf];omega
   ·have q0:(c==0)=false:=by simpa using h0
    have HNP:Hid (Now R Xy c fu out):=hnow.dead h0 _ _
    have HMC:=Xa HNP.out.many
    have HFW:Hid (out.length≤100 *(d+2)):=by have:=HLP.out.few;unfold Hid;omega
    obtain ⟨OL,hO⟩:∃OL,out.length=OL:=⟨_,rfl⟩
    rw[hO] at HLP HMC⊢
    clear h0
    clear hnow hlp hO
    go_wp2_with fail
    refine (Zc ao OL co HLP.out.se).mono ?_
    rintro e w5 ⟨rfl,hs5,hb5⟩
    rw[HMC.out] at hs5
    have HA:=Xa (Q2 (M:=100 *(d+2)) (e:= .returned (.slice ao OL co)) rfl HNP.out hs5 HBT.out (HLP.out.but.trans hb5) (HLP.out.lo.keep hb5) (by have:=HG2.out;omega) HE.out HFW.out)
    clear hs5 hb5
    go_wp2_with fail
    go_ret
    exact HA.out
  ·obtain rfl:k=M:=by omega
   have HNP:Hid (Now R Xy c fu out):=hnow.over (by rw[HMQ.out];exact Nat.le_refl _)
   have HMC:=Xa HNP.out.many
   have HFW:Hid (out.length≤100 *(d+2)):=by have:=HLP.out.few;unfold Hid;omega
   obtain ⟨OL,hO⟩:∃OL,out.length=OL:=⟨_,rfl⟩
   rw[hO] at HLP HMC⊢
   clear hnow hlp hO
   go_wp2_with fail
   refine (Zc ao OL co HLP.out.se).mono ?_
   rintro e w5 ⟨rfl,hs5,hb5⟩
   rw[HMC.out] at hs5
   have HA:=Xa (Q2 (M:=100 *(d+2)) (e:= .returned (.slice ao OL co)) rfl HNP.out hs5 HBT.out (HLP.out.but.trans hb5) (HLP.out.lo.keep hb5) (by have:=HG2.out;omega) HE.out HFW.out)
   clear hs5 hb5
   go_wp2_with fail
   go_ret
   exact HA.out
end Go.Proofs.YtdjddneidbddpaaGreatDoor
