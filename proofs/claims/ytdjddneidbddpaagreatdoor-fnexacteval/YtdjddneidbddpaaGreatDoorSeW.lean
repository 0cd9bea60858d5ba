import Derived.Test.YtdjddneidbddpaaGreatDoorSeA7
import Derived.Test.YtdjddneidbddpaaGreatDoorPsZ
import Derived.Test.YtdjddneidbddpaaGreatDoorSSort
import Derived.Test.YtdjddneidbddpaaGreatDoorSeF
namespace Go.Proofs.YtdjddneidbddpaaGreatDoor
set_option linter.unusedSectionVars false
set_option maxRecDepth 100000
set_option maxHeartbeats 6400000
open Go.RowKit
set_option linter.unusedSimpArgs false
set_option linter.unusedVariables false
theorem X0h {B E d j n:Nat} {fv v:Value} {fs:List FN} {x:FN} {ns:List VN} {w:World} (hok:okF fs=true) (ho:Qe B E fv fs d) (hx:NodeOk fs x) (k:x.kind=1) (hn:n<fs.length) (hxn:Xo fs n=x) (hse:SE B E fv fs (j+1) 0 w) (hv:NR E w v ns) (hj:j<=d) (hd:d<=100000):
  Calls Tryz.prog 35 #[.pointer (some ⟨E,0,none⟩), .int .i64 n,v] w (RunAns B E (100 *(d+2)) fv fs (evM (Xh fs d) x ns Xl (j,[])).1 (evM (Xh fs d) x ns Xl (j,[])).2.2 (evM (Xh fs d) x ns Xl (j,[])).2.1 w):=by
 obtain ⟨W1,W2,V,b0,o0,X,aC,cC,aK,cK,aI,cI,Y⟩:=Qh hse hn hxn
 obtain ⟨q,Z,q1,q2,z1,ba,p0,s0,s1,s2,s3,s4,s5,s,bb,g1,g2,g3,g,f,b,c,J,hB⟩:=Y
 have t:=Xa g
 have y:=Xa f
 have z:=Xa b
 have bc:=Xa c
 have C:Hid (NR E V v ns):=(hv.but f).below b
 have bd:=Xa hv.ok
 have HO:=Xa ho
 have HX:=Xa hx
 have HE:=Xa J
 obtain ⟨av,cv,rfl⟩:=hv.slice
 obtain ⟨R,p⟩:∃R,evM (Xh fs d) x ns Xl (j,[])=R:=⟨_,rfl⟩
 have be:=Xa p
 rw[p]
 have D:(n:Int)<(fs.length:Int):=by omega
 have bf:¬((j:Int)+1=0):=by omega
 have bg:(j:Int)<=1000000:=by omega
 obtain ⟨L,l⟩:∃L,fs.length=L:=⟨_,rfl⟩
 rw[l] at Z p0 D hn
 have y0:=(Xc b (by omega)).trans c.c0
 have y1:=(Xc b (by omega)).trans c.c1
 have y2:=(Xc b (by omega)).trans c.c2
 have y3:=(Xc b (by omega)).trans c.c3
 have y4:=(Xc b (by omega)).trans c.c4
 have y5:=(Xc b (by omega)).trans c.c5
 obtain ⟨F,o⟩:∃F,x.kind=F:=⟨_,rfl⟩
 rw[o] at s0 s y0
 obtain rfl:F=1:=by omega
 have G:Hid (Now R Yh 0 j [ns]):=by
  have P:=Kh (r:=Yp x ns) (fu:=j) (R:=R) (by rw[<-p,Xbu (.inl k)])
  have h2:Yp x ns=(0,ns):=by unfold Yp;rw[if_neg (by omega),if_neg (by omega),if_neg (by omega),if_neg (by omega),if_neg (by omega),if_neg (by omega)]
  rw[h2] at P
  exact P
 clear hse hv ho hx hxn hok p q g f b c l o J hB k
 go_enter Tryz.func35,Tryz.ntmps35
 go_wp2_with fail
 refine (J9 t.out C.out).mono ?_
 rintro e w4 S
 have HA:=Xa (Vf (M:=100 *(d+2)) S G.out y.out (.of_below z.out) HE.out (by simp;omega))
 obtain ⟨sv,xs,rfl,-,-,T⟩:=S
 obtain ⟨a5,c5,rfl⟩:=T.slice
 clear T
 go_wp2_with fail
 go_ret
 exact HA.out
theorem Xwp {B E d j n:Nat} {fv v:Value} {fs:List FN} {x:FN} {ns:List VN} {w:World} (hok:okF fs=true) (ho:Qe B E fv fs d) (hx:NodeOk fs x) (k:x.kind=5) (hn:n<fs.length) (hxn:Xo fs n=x) (hse:SE B E fv fs (j+1) 0 w) (hv:NR E w v ns) (hj:j<=d) (hd:d<=100000):
  Calls Tryz.prog 35 #[.pointer (some ⟨E,0,none⟩), .int .i64 n,v] w (RunAns B E (100 *(d+2)) fv fs (evM (Xh fs d) x ns Xl (j,[])).1 (evM (Xh fs d) x ns Xl (j,[])).2.2 (evM (Xh fs d) x ns Xl (j,[])).2.1 w):=by
 obtain ⟨W1,W2,L,b0,o0,Z,aC,cC,aK,cK,aI,cI,hp⟩:=Qh hse hn hxn
 obtain ⟨s,q0,q1,q2,z1,ba,p0,s0,s1,s2,s3,s4,s5,t,bb,g1,g2,g3,g,f,b,c,P,S⟩:=hp
 have y:=Xa g
 have z:=Xa f
 have C:=Xa b
 have bc:=Xa c
 have bd:Hid (NR E L v ns):=(hv.but f).below b
 have be:=Xa hv.ok
 have HO:=Xa ho
 have HX:=Xa hx
 have HE:=Xa P
 obtain ⟨av,cv,rfl⟩:=hv.slice
 obtain ⟨R,q⟩:∃R,evM (Xh fs d) x ns Xl (j,[])=R:=⟨_,rfl⟩
 have bf:=Xa q
 rw[q]
 have D:(n:Int)<(fs.length:Int):=by omega
 have bg:¬((j:Int)+1=0):=by omega
 have bh:(j:Int)<=1000000:=by omega
 obtain ⟨T,l⟩:∃T,fs.length=T:=⟨_,rfl⟩
 rw[l] at q0 p0 D hn
 have y0:=(Xc b (by omega)).trans c.c0
 have y1:=(Xc b (by omega)).trans c.c1
 have y2:=(Xc b (by omega)).trans c.c2
 have y3:=(Xc b (by omega)).trans c.c3
 have y4:=(Xc b (by omega)).trans c.c4
 have y5:=(Xc b (by omega)).trans c.c5
 obtain ⟨F,o⟩:∃F,x.kind=F:=⟨_,rfl⟩
 rw[o] at s0 t y0
 have p:=(hx.cst k).2
 have G:Hid (NR E L (.slice aC x.cst.length cC) x.cst):=(NR.old (c.inn.cst) p S (by omega)).below b
 obtain rfl:F=5:=by omega
 have J:Hid (Now R Yh 0 j [x.cst]):=by
  have V:=Kh (r:=Yp x ns) (fu:=j) (R:=R) (by rw[<-q,Xbu (by omega)])
  have h2:Yp x ns=(0,x.cst):=by unfold Yp;rw[if_neg (by omega),if_neg (by omega),if_pos k]
  rw[h2] at V
  exact V
 clear hse hv ho hx hxn hok q s g f b c l o P S k p
 go_enter Tryz.func35,Tryz.ntmps35
 go_wp2_with fail
 refine (J9 y.out G.out).mono ?_
 rintro e w4 X
 have HA:=Xa (Vf (M:=100 *(d+2)) X J.out z.out (.of_below C.out) HE.out (by simp;omega))
 obtain ⟨sv,xs,rfl,-,-,Y⟩:=X
 obtain ⟨a5,c5,rfl⟩:=Y.slice
 clear Y
 go_wp2_with fail
 go_ret
 exact HA.out
theorem Xq6 {B E d j n:Nat} {fv v:Value} {fs:List FN} {x:FN} {ns:List VN} {w:World} (hok:okF fs=true) (ho:Qe B E fv fs d) (hx:NodeOk fs x) (k:x.kind=11) (hn:n<fs.length) (hxn:Xo fs n=x) (hse:SE B E fv fs (j+1) 0 w) (hv:NR E w v ns) (hj:j<=d) (hd:d<=100000):
  Calls Tryz.prog 35 #[.pointer (some ⟨E,0,none⟩), .int .i64 n,v] w (RunAns B E (100 *(d+2)) fv fs (evM (Xh fs d) x ns Xl (j,[])).1 (evM (Xh fs d) x ns Xl (j,[])).2.2 (evM (Xh fs d) x ns Xl (j,[])).2.1 w):=by
 obtain ⟨W1,W2,W3,b0,o0,ba,aC,cC,aK,cK,aI,cI,hp⟩:=Qh hse hn hxn
 obtain ⟨D,q0,q1,q2,z1,bb,p0,s0,s1,s2,s3,s4,s5,F,bc,g1,g2,g3,g,f,b,c,Z,hB⟩:=hp
 have G:=Xa g
 have J:=Xa f
 have L:=Xa b
 have bd:=Xa c
 have P:Hid (NR E W3 v ns):=(hv.but f).below b
 have be:=Xa hv.ok
 have HO:=Xa ho
 have HX:=Xa hx
 have HE:=Xa Z
 obtain ⟨av,cv,rfl⟩:=hv.slice
 obtain ⟨R,C⟩:∃R,evM (Xh fs d) x ns Xl (j,[])=R:=⟨_,rfl⟩
 have bf:=Xa C
 rw[C]
 have S:(n:Int)<(fs.length:Int):=by omega
 have bg:¬((j:Int)+1=0):=by omega
 have bh:(j:Int)<=1000000:=by omega
 obtain ⟨NF,o⟩:∃NF,fs.length=NF:=⟨_,rfl⟩
 rw[o] at q0 p0 S hn
 have y0:=(Xc b (by omega)).trans c.c0
 have y1:=(Xc b (by omega)).trans c.c1
 have y2:=(Xc b (by omega)).trans c.c2
 have y3:=(Xc b (by omega)).trans c.c3
 have y4:=(Xc b (by omega)).trans c.c4
 have y5:=(Xc b (by omega)).trans c.c5
 obtain ⟨T,p⟩:∃T,x.kind=T:=⟨_,rfl⟩
 rw[p] at s0 F y0
 obtain rfl:T=11:=by omega
 obtain ⟨r,V⟩:∃r,(Xas ns,Gx ns)=r:=⟨_,rfl⟩
 have q:Hid (Now R Yh r.1 j (Zd r)):=by
  have h1:=Kh (r:=Yp x ns) (fu:=j) (R:=R) (by rw[<-C,Xbu (by omega)])
  have h2:Yp x ns=r:=by rw[<-V];unfold Yp;rw[if_neg (by omega),if_neg (by omega),if_neg (by omega),if_pos k]
  rw[h2] at h1
  exact h1
 have HC:=Xa (Xzk P.out (by omega))
 rw[V] at HC
 clear hse hv ho hx hxn hok C D g f b c o p Z hB k V
 go_enter Tryz.func35,Tryz.ntmps35
 go_wp2_with fail
 refine HC.out.mono ?_
 rintro e w4 ⟨u,rfl,⟨a4,l4,c4,rfl⟩,s,l⟩
 have X:=Xa (L.out.trans (l.mono (by omega)))
 have t:=Xa (Xbf (G.out.below l) ⟨a4,l4,c4,rfl⟩ s)
 have Y:Hid ((Zd r).length<=100 *(d+2)):=by have:=V5 r;unfold Hid;omega
 obtain ⟨rc,y⟩:∃rc,r.1=rc:=⟨_,rfl⟩
 rw[y] at t q|-
 clear s l y
 go_wp2_with fail
 refine t.out.mono ?_
 rintro e w5 ha
 have HA:=Xa (Vf (M:=100 *(d+2)) ha q.out J.out (.of_below X.out) HE.out Y.out)
 obtain ⟨sv,xs,rfl,-,-,hl⟩:=ha
 obtain ⟨a5,c5,rfl⟩:=hl.slice
 obtain ⟨L5,z⟩:∃L5,(Zd r).length=L5:=⟨_,rfl⟩
 rw[z] at HA|-
 clear hl z
 go_wp2_with fail
 go_ret
 exact HA.out
theorem Xwq {B E d j n:Nat} {fv v:Value} {fs:List FN} {x:FN} {ns:List VN} {w:World} (hok:okF fs=true) (ho:Qe B E fv fs d) (hx:NodeOk fs x) (k:x.kind=12) (hn:n<fs.length) (hxn:Xo fs n=x) (hse:SE B E fv fs (j+1) 0 w) (hv:NR E w v ns) (hj:j<=d) (hd:d<=100000):
  Calls Tryz.prog 35 #[.pointer (some ⟨E,0,none⟩), .int .i64 n,v] w (RunAns B E (100 *(d+2)) fv fs (evM (Xh fs d) x ns Xl (j,[])).1 (evM (Xh fs d) x ns Xl (j,[])).2.2 (evM (Xh fs d) x ns Xl (j,[])).2.1 w):=by
 obtain ⟨W1,W2,W3,b0,o0,ba,aC,cC,aK,cK,aI,cI,hp⟩:=Qh hse hn hxn
 obtain ⟨D,q0,q1,q2,z1,bb,p0,s0,s1,s2,s3,s4,s5,F,bc,g1,g2,g3,g,f,b,c,Z,hB⟩:=hp
 have G:=Xa g
 have J:=Xa f
 have L:=Xa b
 have bd:=Xa c
 have P:Hid (NR E W3 v ns):=(hv.but f).below b
 have be:=Xa hv.ok
 have HO:=Xa ho
 have HX:=Xa hx
 have HE:=Xa Z
 obtain ⟨av,cv,rfl⟩:=hv.slice
 obtain ⟨R,C⟩:∃R,evM (Xh fs d) x ns Xl (j,[])=R:=⟨_,rfl⟩
 have bf:=Xa C
 rw[C]
 have S:(n:Int)<(fs.length:Int):=by omega
 have bg:¬((j:Int)+1=0):=by omega
 have bh:(j:Int)<=1000000:=by omega
 obtain ⟨NF,o⟩:∃NF,fs.length=NF:=⟨_,rfl⟩
 rw[o] at q0 p0 S hn
 have y0:=(Xc b (by omega)).trans c.c0
 have y1:=(Xc b (by omega)).trans c.c1
 have y2:=(Xc b (by omega)).trans c.c2
 have y3:=(Xc b (by omega)).trans c.c3
 have y4:=(Xc b (by omega)).trans c.c4
 have y5:=(Xc b (by omega)).trans c.c5
 obtain ⟨T,p⟩:∃T,x.kind=T:=⟨_,rfl⟩
 rw[p] at s0 F y0
 obtain rfl:T=12:=by omega
 obtain ⟨r,V⟩:∃r,K9 ns=r:=⟨_,rfl⟩
 have q:Hid (Now R Yh r.1 j (Zd r)):=by
  have h1:=Kh (r:=Yp x ns) (fu:=j) (R:=R) (by rw[<-C,Xbu (by omega)])
  have h2:Yp x ns=r:=by rw[<-V];unfold Yp;rw[if_neg (by omega),if_neg (by omega),if_neg (by omega),if_neg (by omega),if_pos k]
  rw[h2] at h1
  exact h1
 have HC:=Xa (Xyb P.out (by omega))
 rw[V] at HC
 clear hse hv ho hx hxn hok C D g f b c o p Z hB k V
 go_enter Tryz.func35,Tryz.ntmps35
 go_wp2_with fail
 refine HC.out.mono ?_
 rintro e w4 ⟨u,rfl,⟨a4,l4,c4,rfl⟩,s,l⟩
 have X:=Xa (L.out.trans (l.mono (by omega)))
 have t:=Xa (Xbf (G.out.below l) ⟨a4,l4,c4,rfl⟩ s)
 have Y:Hid ((Zd r).length<=100 *(d+2)):=by have:=V5 r;unfold Hid;omega
 obtain ⟨rc,y⟩:∃rc,r.1=rc:=⟨_,rfl⟩
 rw[y] at t q|-
 clear s l y
 go_wp2_with fail
 refine t.out.mono ?_
 rintro e w5 ha
 have HA:=Xa (Vf (M:=100 *(d+2)) ha q.out J.out (.of_below X.out) HE.out Y.out)
 obtain ⟨sv,xs,rfl,-,-,hl⟩:=ha
 obtain ⟨a5,c5,rfl⟩:=hl.slice
 obtain ⟨L5,z⟩:∃L5,(Zd r).length=L5:=⟨_,rfl⟩
 rw[z] at HA|-
 clear hl z
 go_wp2_with fail
 go_ret
 exact HA.out
theorem X23 {B E d j n:Nat} {fv v:Value} {fs:List FN} {x:FN} {ns:List VN} {w:World} (hok:okF fs=true) (ho:Qe B E fv fs d) (hx:NodeOk fs x) (k:x.kind=13) (hn:n<fs.length) (hxn:Xo fs n=x) (hse:SE B E fv fs (j+1) 0 w) (hv:NR E w v ns) (hj:j<=d) (hd:d<=100000):
  Calls Tryz.prog 35 #[.pointer (some ⟨E,0,none⟩), .int .i64 n,v] w (RunAns B E (100 *(d+2)) fv fs (evM (Xh fs d) x ns Xl (j,[])).1 (evM (Xh fs d) x ns Xl (j,[])).2.2 (evM (Xh fs d) x ns Xl (j,[])).2.1 w):=by
 obtain ⟨W1,W2,W3,b0,o0,ba,aC,cC,aK,cK,aI,cI,hp⟩:=Qh hse hn hxn
 obtain ⟨D,q0,q1,q2,z1,bb,p0,s0,s1,s2,s3,s4,s5,F,bc,g1,g2,g3,g,f,b,c,hE,hB⟩:=hp
 have G:=Xa g
 have J:=Xa f
 have L:=Xa b
 have bd:=Xa c
 have P:Hid (NR E W3 v ns):=(hv.but f).below b
 have be:=Xa hv.ok
 have HO:=Xa ho
 have HX:=Xa hx
 have HE:=Xa hE
 obtain ⟨av,cv,rfl⟩:=hv.slice
 obtain ⟨R,C⟩:∃R,evM (Xh fs d) x ns Xl (j,[])=R:=⟨_,rfl⟩
 have bf:=Xa C
 rw[C]
 have S:(n:Int)<(fs.length:Int):=by omega
 have bg:¬((j:Int)+1=0):=by omega
 have bh:(j:Int)<=1000000:=by omega
 obtain ⟨NF,p⟩:∃NF,fs.length=NF:=⟨_,rfl⟩
 rw[p] at q0 p0 S hn
 have y0:=(Xc b (by omega)).trans c.c0
 have y1:=(Xc b (by omega)).trans c.c1
 have y2:=(Xc b (by omega)).trans c.c2
 have y3:=(Xc b (by omega)).trans c.c3
 have y4:=(Xc b (by omega)).trans c.c4
 have y5:=(Xc b (by omega)).trans c.c5
 obtain ⟨T,q⟩:∃T,x.kind=T:=⟨_,rfl⟩
 rw[q] at s0 F y0
 obtain rfl:T=13:=by omega
 have s:Hid (Now R Yh 0 j [Q9 (!Xu ns)]):=by
  have h1:=Kh (r:=Yp x ns) (fu:=j) (R:=R) (by rw[<-C,Xbu (by omega)])
  have h2:Yp x ns=(0,Q9 (!Xu ns)):=by unfold Yp;rw[if_neg (by omega),if_neg (by omega),if_neg (by omega),if_neg (by omega),if_neg (by omega),if_pos k]
  rw[h2] at h1
  exact h1
 have HC:=Xa (Xb5 P.out)
 obtain ⟨V,t⟩:∃V,Xu ns=V:=⟨_,rfl⟩
 rw[t] at HC s
 clear hse hv ho hx hxn hok C D g f b c p q hE hB k t
 go_enter Tryz.func35,Tryz.ntmps35
 go_wp2_with fail
 refine HC.out.mono ?_
 rintro e w4 ⟨rfl,l⟩
 have y:=Xa (L.out.trans (l.mono (by omega)))
 have X:=Xa (G.out.below l)
 have z4:=y.out.size
 clear l
 go_wp2_with fail
 refine (Xkq E (!V) w4 (by have:=HE.out;omega)).mono ?_
 rintro e w5 ⟨u,rfl,⟨a5,c5,rfl⟩,z,o⟩
 have Y:=Xa (y.out.trans (o.mono (by omega)))
 have Z:=Xa (J9 (X.out.below o) z)
 clear z o
 go_wp2_with fail
 refine Z.out.mono ?_
 rintro e w6 ha
 have HA:=Xa (Vf (M:=100 *(d+2)) ha s.out J.out (.of_below Y.out) HE.out (by simp;omega))
 obtain ⟨sv,xs,rfl,-,-,hl⟩:=ha
 obtain ⟨a6,c6,rfl⟩:=hl.slice
 clear hl
 go_wp2_with fail
 go_ret
 exact HA.out
theorem Xwr {B E d j n:Nat} {fv v:Value} {fs:List FN} {x:FN} {ns:List VN} {w:World} (hok:okF fs=true) (ho:Qe B E fv fs d) (hx:NodeOk fs x) (k:x.kind=14) (hn:n<fs.length) (hxn:Xo fs n=x) (hse:SE B E fv fs (j+1) 0 w) (hv:NR E w v ns) (hj:j<=d) (hd:d<=100000):
  Calls Tryz.prog 35 #[.pointer (some ⟨E,0,none⟩), .int .i64 n,v] w (RunAns B E (100 *(d+2)) fv fs (evM (Xh fs d) x ns Xl (j,[])).1 (evM (Xh fs d) x ns Xl (j,[])).2.2 (evM (Xh fs d) x ns Xl (j,[])).2.1 w):=by
 obtain ⟨W1,X,S,b0,o0,Y,aC,cC,aK,cK,aI,cI,Z⟩:=Qh hse hn hxn
 obtain ⟨t,q0,q1,q2,z1,ba,p0,s0,s1,s2,s3,s4,s5,y,z,g1,g2,g3,g,f,b,c,T,hB⟩:=Z
 have C:=Xa g
 have D:=Xa f
 have F:=Xa b
 have bb:=Xa c
 have bc:Hid (NR E S v ns):=(hv.but f).below b
 have bd:=Xa hv.ok
 have HO:=Xa ho
 have HX:=Xa hx
 have HE:=Xa T
 obtain ⟨av,cv,rfl⟩:=hv.slice
 obtain ⟨R,s⟩:∃R,evM (Xh fs d) x ns Xl (j,[])=R:=⟨_,rfl⟩
 have be:=Xa s
 rw[s]
 have G:(n:Int)<(fs.length:Int):=by omega
 have bf:¬((j:Int)+1=0):=by omega
 have bg:(j:Int)<=1000000:=by omega
 obtain ⟨V,p⟩:∃V,fs.length=V:=⟨_,rfl⟩
 rw[p] at q0 p0 G hn
 have y0:=(Xc b (by omega)).trans c.c0
 have y1:=(Xc b (by omega)).trans c.c1
 have y2:=(Xc b (by omega)).trans c.c2
 have y3:=(Xc b (by omega)).trans c.c3
 have y4:=(Xc b (by omega)).trans c.c4
 have y5:=(Xc b (by omega)).trans c.c5
 obtain ⟨J,q⟩:∃J,x.kind=J:=⟨_,rfl⟩
 rw[q] at s0 y y0
 obtain rfl:J=14:=by omega
 have L:Hid (Now R Yh 0 j []):=Now.start (by rw[<-s,Xow k]) (by simp)
 have P:Hid (LR E (w.heap.size+1) S (.slice (some ⟨w.heap.size+1,0,none⟩) 0 0) [] []):=by rw[Hid,<-z,<-g2];exact ⟨World.ownsRow_lit X #[] 0 (Nat.le_refl _) (by simp[maxLen]) rfl,by omega,fun j hj=>absurd hj (by simp)⟩
 clear hse hv ho hx hxn hok s t g f b c p q T hB k
 go_enter Tryz.func35,Tryz.ntmps35
 go_wp2_with fail
 refine (Zr _ 0 0 C.out).mono ?_
 rintro e w4 ⟨rfl,l,o⟩
 rw[Wq (by omega)] at l
 have HA:=Xa (Qu (M:=100 *(d+2)) (e:= .returned (.slice (some ⟨w.heap.size+1,0,none⟩) 0 0)) rfl L.out l D.out ((ButE.of_below F.out).trans o) (P.out.keep o) (by omega) HE.out (by simp))
 clear l o
 go_wp2_with fail
 go_ret
 exact HA.out
theorem X0i {B E d j n:Nat} {fv v:Value} {fs:List FN} {x:FN} {ns:List VN} {w:World} (hok:okF fs=true) (ho:Qe B E fv fs d) (hx:NodeOk fs x) (k:x.kind=4) (hn:n<fs.length) (hxn:Xo fs n=x) (hse:SE B E fv fs (j+1) 0 w) (hv:NR E w v ns) (hj:j<=d) (hd:d<=100000):
  Calls Tryz.prog 35 #[.pointer (some ⟨E,0,none⟩), .int .i64 n,v] w (RunAns B E (100 *(d+2)) fv fs (evM (Xh fs d) x ns Xl (j,[])).1 (evM (Xh fs d) x ns Xl (j,[])).2.2 (evM (Xh fs d) x ns Xl (j,[])).2.1 w):=by
 obtain ⟨W1,W2,W3,b0,o0,bj,aC,cC,aK,cK,aI,cI,hp⟩:=Qh hse hn hxn
 obtain ⟨J,q0,q1,q2,z1,bk,p0,s0,s1,s2,s3,s4,s5,bc,bl,g1,g2,g3,g,f,b,c,hE,hB⟩:=hp
 have L:=Xa g
 have P:=Xa f
 have S:=Xa b
 have bm:=Xa c
 have p:Hid (NR E W3 v ns):=(hv.but f).below b
 have T:=Xa hv.ok
 have HO:=Xa ho
 have HX:=Xa hx
 have HE:=Xa hE
 obtain ⟨av,cv,rfl⟩:=hv.slice
 obtain ⟨R,V⟩:∃R,evM (Xh fs d) x ns Xl (j,[])=R:=⟨_,rfl⟩
 have bn:=Xa V
 rw[V]
 have bd:(n:Int)<(fs.length:Int):=by omega
 have bo:¬((j:Int)+1=0):=by omega
 have bp:(j:Int)<=1000000:=by omega
 obtain ⟨NF,q⟩:∃NF,fs.length=NF:=⟨_,rfl⟩
 rw[q] at q0 p0 bd hn
 have y0:=(Xc b (by omega)).trans c.c0
 have y1:=(Xc b (by omega)).trans c.c1
 have y2:=(Xc b (by omega)).trans c.c2
 have y3:=(Xc b (by omega)).trans c.c3
 have y4:=(Xc b (by omega)).trans c.c4
 have y5:=(Xc b (by omega)).trans c.c5
 obtain ⟨KK,s⟩:∃KK,x.kind=KK:=⟨_,rfl⟩
 rw[s] at s0 bc y0
 obtain rfl:KK=4:=by omega
 obtain ⟨be,bf⟩:=p.out.sized
 obtain ⟨b1,o1,c1,bq,br,bs,bt,bu,bv,ev,bw,u1,u2,d0,d1,d2,d3,d4⟩:=Q4 p.out.nodes (by omega)
 injection ev with ev1 ev2 ev3
 subst ev1 ev3
 clear u1 u2 ev2 d1 d2 d3 d4
 have t:Hid (R=if (Xd ns).kind=5\/(Xd ns).kind=6 then Xq Xl (Yn ns) (j,[]) else (2,(j,[]))):=by rw[Hid,<-V,Xsk k]
 have X:Hid (1<=(Xd ns).kind/\(Xd ns).kind<=6):=Xer T.out
 have Y:Hid ((Yn ns).length<=80):=by unfold Hid;rw[Qm];have:=(Xm T.out).2.2.2 (ns.length-1) (by omega);unfold Xe;omega
 have Z:=Xa (Xtf p.out (by omega))
 obtain ⟨kr,y⟩:∃kr,(Xd ns).kind=kr:=⟨_,rfl⟩
 rw[y] at t X d0
 obtain ⟨N1,z⟩:∃N1,ns.length=N1:=⟨_,rfl⟩
 rw[z] at be bf d0 Z|-
 have z9:((N1:Int)-1).toNat=N1-1:=by omega
 by_cases hlt:kr<5
 ·have o:Hid (Now R Yh 2 j []):=Xov (by decide) (by rw[t.out,if_neg (by omega)])
  clear hse hv ho hx hxn hok V J g f b c q s hE hB k y z
  go_enter Tryz.func35,Tryz.ntmps35
  go_wp2_with fail
  refine (Xjf none 0 0 L.out (by decide)).mono ?_
  rintro e w4 ha
  have HA:=Xa (Vf (M:=100 *(d+2)) ha o.out P.out (.of_below S.out) HE.out (by simp))
  obtain ⟨sv,xs,rfl,-,-,hl⟩:=ha
  obtain ⟨a5,c5,rfl⟩:=hl.slice
  clear hl
  go_wp2_with fail
  go_ret
  exact HA.out
 ·have o:Hid (Now R Yh (Zj 0 (Yn ns).length) j (Yn ns)):=by
   have h1:=Wp (R:=R) (c0:=0) (l:=Yn ns) (m:=Yn ns) (out:= []) (fu:=j) (by simp) (fun _=>rfl) (by rw[if_pos rfl,t.out,if_pos (by have:=X.out;omega)])
   unfold Hid
   simpa using h1
  clear hse hv ho hx hxn hok V J g f b c q s hE hB k y z
  go_enter Tryz.func35,Tryz.ntmps35
  go_wp2_with fail
  refine Z.out.mono ?_
  rintro e w4 ⟨sv,xs,rfl,C,D⟩
  have bg:=Xa (S.out.trans (D.mono (by omega)))
  have bh:=Xa (L.out.below D)
  have ba:=Xa C
  obtain ⟨a4,c4,rfl⟩:=C.slice
  obtain ⟨M4,F⟩:∃M4,(Yn ns).length=M4:=⟨_,rfl⟩
  rw[F] at ba o Y|-
  have bi:=Xa F
  clear C D F
  go_wp2_with fail
  refine (Zr a4 M4 c4 bh.out).mono ?_
  rintro e w5 ⟨rfl,bb,G⟩
  have HA:=Xa (Qu (M:=100 *(d+2)) (e:= .returned (.slice a4 M4 c4)) rfl o.out bb P.out ((ButE.of_below bg.out).trans G) (ba.out.keep G) (by omega) HE.out (by have:=Y.out;rw[bi.out];omega))
  clear bb G
  go_wp2_with fail
  go_ret
  exact HA.out


theorem Xqo {B E fu:Nat} {fv v kc kn ki:Value} {fs:List FN} {x:FN} {ns:List VN} {w:World} (hx:NodeOk fs x) (k:x.kind=2) (hin:FNodeIn B w x kc kn ki) (hs:SE B E fv fs fu 0 w) (hv:NR E w v ns) (hr:(Xd ns).kind=6) (hh:Yz (Xd ns).keys x.name=false):
  Calls Tryz.prog 71 #[.pointer (some ⟨E,0,none⟩),v,Ym x kc kn ki] w (Qv B E fv fs (Yp x ns).1 (Zd (Yp x ns)) fu w):=by
 obtain ⟨b1,o1,c1,V,X,Y,Z,aC,cC,aK,cK,aI,cI,NL,kr,nr,sr,KS,KM,kk,nm,pl,rr,W1,W2,W3,rfl,rfl,rfl,rfl,ba,b,d,f,z,l,o,p,c,C,bk,bl,bb,bm,bn,bc,bo,hE,g,D,j,bp,F,bd,bq,br,be,bf,bs,bt,bu,bv,f0,f1,f2,bw,bx,bz,r0,r1,r2,r3,r4,t0,t1,t2,t3,m0,m1,m2,m3,m4,G,b0⟩:=Kl hx hin hs hv
 rw[C]
 have J:Hid (∀W,Below w.heap.size w W->Calls Tryz.prog 128 #[.agg #[.int .i64 (Xd ns).kind, .int .i64 (Xd ns).n, .string (Xd ns).s, .slice V (Xd ns).keys.length X, .slice Y (Xd ns).kids.length Z], .agg #[.bool true, .string x.name, .int .i64 x.place]] W fun e w'=>e= .returned (.int .i64 (-1))/\Below W.heap.size W w'):=fun W hb=>by
  have h1:=Ub w.heap.size (Xd ns) _ _ ⟨true,x.name,x.place⟩ W (bd.out.below hb) hb.size (fun k6=>⟨Q7 (Y0 F.out k6).2,by rw[(Y0 F.out k6).1];exact j⟩) (by simp) (by omega) (by simp<;>omega)
  rw[Xpk hr,if_neg (by rw[hh];simp)] at h1
  exact h1
 have L:Hid (rr=(0,Ja)):=by rw[Hid];rw[bf.out k];unfold K8;rw[if_neg (by omega),if_pos hr,if_neg (by rw[hh];simp)]
 have z1:((NL:Int)-1).toNat=NL-1:=by omega
 rw[l] at j
 rw[b,d,f,z,l,p,c] at J
 unfold Ym
 rw[o,p,c]
 have e2:(kk==2)=true:=by rw[<-o,k];rfl
 rw[e2] at t0 bb
 obtain rfl:kr=6:=by rw[<-b,hr]
 have b2:¬(pl<0):=by rw[<-c,g (by omega)];decide
 have b3:0<=pl:=by omega
 clear hx hin hs hv k C bc g D ba b d f z l o p c hr hh
 go_enter Tryz.func71,Tryz.ntmps71
 go_wp2_with fail
 refine (J.out W3 G.out).mono ?_
 rintro e w4 ⟨rfl,q⟩
 have M:=Xa (G.out.trans (q.mono (by omega)))
 have z4:=M.out.size
 have b4:=(Xc q (by omega)).trans r4
 clear q
 go_wp2_with fail
 refine (Xad E w4 (by omega)).mono ?_
 rintro e w6 ⟨u,rfl,⟨a6,c6,rfl⟩,P,R⟩
 have t:=Xa (M.out.trans (R.mono (by omega)))
 have bg:=Xa (J9 (be.out _ t.out) P)
 clear P R
 go_wp2_with fail
 refine bg.out.mono ?_
 rintro e w5 ⟨sv,xs,rfl,S,T,y⟩
 have bh:=Xa S
 have bi:=Xa ((ButE.of_below t.out).trans T)
 have bj:=Xa (y.low (base':=w.heap.size) t.out.size hE)
 obtain ⟨a5,c5,rfl⟩:=y.slice
 clear S T y
 go_wp2_with fail
 go_ret
 exact ⟨_,_,rfl,by rw[L.out];exact bh.out,bi.out,by rw[L.out];exact bj.out⟩


theorem Xrt {B E fu:Nat} {fv v kc kn ki:Value} {fs:List FN} {x:FN} {ns:List VN} {w:World} (hx:NodeOk fs x) (k:x.kind=3) (hin:FNodeIn B w x kc kn ki) (hs:SE B E fv fs fu 0 w) (hv:NR E w v ns) (hr:(Xd ns).kind=5) (h1:0<=x.place) (h2:x.place<((Xe ns).length:Int)):
  Calls Tryz.prog 71 #[.pointer (some ⟨E,0,none⟩),v,Ym x kc kn ki] w (Qv B E fv fs (Yp x ns).1 (Zd (Yp x ns)) fu w):=by
 obtain ⟨b1,o1,c1,bf,bg,bh,bj,aC,cC,aK,cK,aI,cI,NL,kr,nr,sr,KS,KM,kk,nm,pl,rr,W1,W2,W3,rfl,rfl,rfl,rfl,bk,f,p,q,L,b,z,C,c,M,b2,b3,bl,b4,b5,bm,b6,hE,P,R,t,j,S,bn,bo,bp,bq,b7,br,b8,b9,ca,f0,f1,f2,cb,cc,cd,r0,r1,r2,r3,r4,t0,t1,t2,t3,m0,m1,m2,m3,m4,T,ce⟩:=Kl hx hin hs hv
 rw[M]
 have D:Z8 ns x.place=x.place:=by unfold Z8;rw[if_neg (by omega)]
 obtain ⟨g,l⟩:∃g:Nat,x.place=(g:Int):=⟨x.place.toNat,by omega⟩
 have F:g<(Xd ns).kids.length:=by rw[j.out] at h2;omega
 have V:Hid (∀W,Below w.heap.size w W->Calls Tryz.prog 128 #[.agg #[.int .i64 (Xd ns).kind, .int .i64 (Xd ns).n, .string (Xd ns).s, .slice bf (Xd ns).keys.length bg, .slice bh (Xd ns).kids.length bj], .agg #[.bool false, .string x.name, .int .i64 x.place]] W fun e w'=>e= .returned (.int .i64 (x.place))/\Below W.heap.size W w'):=fun W hb=>by
  have h1:=Ub w.heap.size (Xd ns) _ _ ⟨false,x.name,x.place⟩ W (bn.out.below hb) hb.size (fun k6=>⟨Q7 (Y0 S.out k6).2,by rw[(Y0 S.out k6).1];exact t⟩) (.inr (by simp;omega)) (by omega) (by simp<;>omega)
  rw[Xkc hr (by omega),if_pos (by rw[j.out] at h2;exact h2)] at h1
  exact h1
 have bs:(Xd ns).kids.length≠0:=by omega
 obtain ⟨bi,oi,bt,bu,X⟩:=bo.out (by omega)
 subst bt
 have Y:Hid (rr=(0,PL ns g)):=by rw[Hid];rw[br.out k];unfold atR;rw[if_neg (by omega),if_pos hr,if_pos (by rw[D];exact ⟨h1,h2⟩),D,l,Int.toNat_natCast]
 have z1:((NL:Int)-1).toNat=NL-1:=by omega
 rw[b] at t
 rw[f,p,q,L,b,C,c] at V
 unfold Ym
 rw[z,C,c]
 have e2:(kk==2)=false:=by rw[<-z,k];rfl
 rw[e2] at t0 bl
 obtain rfl:kr=5:=by rw[<-f,hr]
 have cf:¬(pl<0):=by rw[<-c];omega
 have cg:0<=pl:=by omega
 have ch:pl.toNat=g:=by rw[<-c,l];simp
 rw[b] at F
 have ci:pl<(KM:Int):=by rw[<-c,l];omega
 have bv:=Xa b
 have y:∀i,i<KM->w.cell? ⟨bi,oi+i,none⟩=some (.int .i64 (Xj (Xe ns) i)):=by rw[j.out,<-b];exact X
 clear hx hin hs hv k M bm P R bk f p q L b z C c hr D l X bs h1 h2
 go_enter Tryz.func71,Tryz.ntmps71
 go_wp2_with fail
 refine (V.out W3 T.out).mono ?_
 rintro e w4 ⟨rfl,d⟩
 have o:=Xa (T.out.trans (d.mono (by omega)))
 have z4:=o.out.size
 have cj:=(Xc d (by omega)).trans r4
 clear d
 have bw:w4.cell? ⟨bi,oi+g,none⟩=some (.int .i64 (Xj (Xe ns) g)):=(Xc o.out bu).trans (y g F)
 have Z:=Xa (bp.out w4 o.out g (by rw[j.out,bv.out];exact F))
 obtain ⟨Q,hQ⟩:∃Q,Xj (Xe ns) g=Q:=⟨_,rfl⟩
 rw[hQ] at bw Z
 clear hQ y
 go_wp2_with fail
 refine Z.out.mono ?_
 rintro e w5 ⟨u,rfl,⟨a4,c4,rfl⟩,ba,d⟩
 have G:=Xa (o.out.trans (d.mono (by omega)))
 have bb:=Xa (J9 (bq.out _ G.out) ba)
 obtain ⟨L4,bc⟩:∃L4,(PL ns g).length=L4:=⟨_,rfl⟩
 rw[bc] at bb|-
 clear ba d bc
 go_wp2_with fail
 refine bb.out.mono ?_
 rintro e w6 ⟨sv,xs,rfl,bd,be,J⟩
 have bx:=Xa bd
 have bz:=Xa ((ButE.of_below G.out).trans be)
 have b0:=Xa (J.low (base':=w.heap.size) G.out.size hE)
 obtain ⟨a5,c5,rfl⟩:=J.slice
 clear bd be J
 go_wp2_with fail
 go_ret
 exact ⟨_,_,rfl,by rw[Y.out];exact bx.out,bz.out,by rw[Y.out];exact b0.out⟩


theorem Xrp {B E fu:Nat} {fv v kc kn ki:Value} {fs:List FN} {x:FN} {ns:List VN} {w:World} (hx:NodeOk fs x) (k:x.kind=3) (hin:FNodeIn B w x kc kn ki) (hs:SE B E fv fs fu 0 w) (hv:NR E w v ns) (hr:(Xd ns).kind=5) (h1:0<=x.place) (h2:((Xe ns).length:Int)<=x.place):
  Calls Tryz.prog 71 #[.pointer (some ⟨E,0,none⟩),v,Ym x kc kn ki] w (Qv B E fv fs (Yp x ns).1 (Zd (Yp x ns)) fu w):=by
 obtain ⟨b1,o1,c1,X,Y,Z,ba,aC,cC,aK,cK,aI,cI,NL,kr,nr,sr,KS,KM,kk,nm,pl,rr,W1,W2,W3,rfl,rfl,rfl,rfl,bb,b,d,f,y,j,l,o,c,z,bm,bn,bc,bo,bp,bd,bq,hE,C,D,g,be,F,bf,br,bs,bg,bt,bh,bu,bv,bw,f0,f1,f2,bx,bz,b0,r0,r1,r2,r3,r4,t0,t1,t2,t3,m0,m1,m2,m3,m4,G,b2⟩:=Kl hx hin hs hv
 rw[z]
 have J:Z8 ns x.place=x.place:=by unfold Z8;rw[if_neg (by omega)]
 have L:Hid (∀W,Below w.heap.size w W->Calls Tryz.prog 128 #[.agg #[.int .i64 (Xd ns).kind, .int .i64 (Xd ns).n, .string (Xd ns).s, .slice X (Xd ns).keys.length Y, .slice Z (Xd ns).kids.length ba], .agg #[.bool false, .string x.name, .int .i64 x.place]] W fun e w'=>e= .returned (.int .i64 (-1))/\Below W.heap.size W w'):=fun W hb=>by
  have h1:=Ub w.heap.size (Xd ns) _ _ ⟨false,x.name,x.place⟩ W (bf.out.below hb) hb.size (fun k6=>⟨Q7 (Y0 F.out k6).2,by rw[(Y0 F.out k6).1];exact g⟩) (.inr (by simp;omega)) (by omega) (by simp<;>omega)
  rw[Xkc hr (by omega),if_neg (by rw[be.out] at h2;omega)] at h1
  exact h1
 have M:Hid (rr=(0,Ja)):=by rw[Hid];rw[bh.out k];unfold atR;rw[if_neg (by omega),if_pos hr,if_neg (by rw[J];omega)]
 have z1:((NL:Int)-1).toNat=NL-1:=by omega
 rw[j] at g
 rw[b,d,f,y,j,o,c] at L
 unfold Ym
 rw[l,o,c]
 have e2:(kk==2)=false:=by rw[<-l,k];rfl
 rw[e2] at t0 bc
 obtain rfl:kr=5:=by rw[<-b,hr]
 rw[c] at h1
 have b3:¬(pl<0):=by omega
 have b4:0<=pl:=by omega
 clear hx hin hs hv k z bd C D bb b d f y j l o c hr J h2
 go_enter Tryz.func71,Tryz.ntmps71
 go_wp2_with fail
 refine (L.out W3 G.out).mono ?_
 rintro e w4 ⟨rfl,p⟩
 have P:=Xa (G.out.trans (p.mono (by omega)))
 have z4:=P.out.size
 have b5:=(Xc p (by omega)).trans r4
 clear p
 go_wp2_with fail
 refine (Xad E w4 (by omega)).mono ?_
 rintro e w6 ⟨u,rfl,⟨a6,c6,rfl⟩,R,S⟩
 have q:=Xa (P.out.trans (S.mono (by omega)))
 have bi:=Xa (J9 (bg.out _ q.out) R)
 clear R S
 go_wp2_with fail
 refine bi.out.mono ?_
 rintro e w5 ⟨sv,xs,rfl,T,V,t⟩
 have bj:=Xa T
 have bk:=Xa ((ButE.of_below q.out).trans V)
 have bl:=Xa (t.low (base':=w.heap.size) q.out.size hE)
 obtain ⟨a5,c5,rfl⟩:=t.slice
 clear T V t
 go_wp2_with fail
 go_ret
 exact ⟨_,_,rfl,by rw[M.out];exact bj.out,bk.out,by rw[M.out];exact bl.out⟩


theorem Xnq {B E d:Nat} {fv v:Value} {fs:List FN} {ns:List VN} {n fu:Nat} {w:World} (ho:Qe B E fv fs d) (hn:n<fs.length) (hs:SE B E fv fs fu 0 w) (hv:NR E w v ns) (hd:fu<=d):
  Calls Tryz.prog 81 #[.pointer (some ⟨E,0,none⟩), .int .i64 n,v] w (RunAns B E (100 *(d+1)) fv fs (Zp (Xh fs d n ns fu)).c (Zp (Xh fs d n ns fu)).l (Zp (Xh fs d n ns fu)).fu w):=by
 have t:=Xa (ho n v ns fu w hn hs hv hd)
 obtain ⟨av,cv,rfl⟩:=hv.slice
 obtain ⟨L,S⟩:∃L,ns.length=L:=⟨_,rfl⟩
 obtain ⟨r,T⟩:∃r,Xh fs d n ns fu=r:=⟨_,rfl⟩
 rw[T] at t|-
 rw[S] at t|-
 have y:Hid (Zp r=if r.c=2 then ⟨0,[],r.fu⟩ else r):=rfl
 have Y:Hid (E<w.heap.size):=hs.lt
 obtain ⟨H,V⟩:∃H,Zp r=H:=⟨_,rfl⟩
 rw[V] at y|-
 clear ho hn hs hv S T V
 go_enter Tryz.func81,Tryz.ntmps81
 go_wp2_with fail
 refine t.out.mono ?_
 rintro e w1 ⟨sv,Z,m,rfl,b,j,f,o,p⟩
 obtain ⟨_,_,X,_,f2⟩:=b.cells
 have z:=Xa b
 have g:=Xa (b.set 0)
 have q:=Xa j
 have D:=Xa f
 have F:=Xa o
 have G:=Xa p
 obtain ⟨a1,c1,rfl⟩:=f.slice
 by_cases e2:r.c=2
 ·have s:Hid (H=⟨0,[],r.fu⟩):=by rw[Hid,y.out,if_pos e2]
  rw[e2] at X
  clear b j f o p e2
  go_wp2_with fail
  go_ret
  exact ⟨_,_,[],rfl,by rw[s.out];exact g.out.1,q.out.trans g.out.2,LR.nil Y.out,fun _=>by rw[s.out],Nat.zero_le _⟩
 ·have s:Hid (H=r):=by rw[Hid,y.out,if_neg e2]
  obtain ⟨C,J⟩:∃C,r.c=C:=⟨_,rfl⟩
  have ba:=Xa J
  rw[J] at X e2
  have q2:(C==2)=false:=by simpa using e2
  obtain ⟨M,P⟩:∃M,m.length=M:=⟨_,rfl⟩
  have R:=Xa P
  rw[P]
  clear b j f o p e2 J P
  go_wp2_with fail
  go_ret
  exact ⟨.slice a1 M c1,Z,m,rfl,by rw[s.out];exact z.out,q.out,by rw[<-R.out];exact D.out,fun h=>by rw[s.out] at h|-;exact F.out h,G.out⟩


theorem Xq7 {P:Program} {w:World} {ops:Array Oper} {o:Oper} {a:Act} {K:Act->World->Prop} {Q:Exit->Act->World->Prop} {E:Prop} (hgd:o.guard=none) (F:FuncId) (x1 x2 x3:Operand) (T1 T2 T3:TypeId)
  (ho:o.op= .call {callee:= .value (.func F),args:= #[x1,x2,x3],argTypes:= #[T1,T2,T3]}) (v1 v2 v3:Value) (h1:a.eval x1=v1) (h2:a.eval x2=v2) (h3:a.eval x3=v3) (hcf:∀w,(callFunc F #[v1,v2,v3]).run P w= .ok (.enter F #[v1,v2,v3]) w) {R:Ending->World->Prop} (hc:Calls P F #[v1,v2,v3] w R)
  (h:∀e w',R e w'->∃u,e= .returned u/\K (a.put o.dst u) w'):
  if Region.wanted o (yielded ops a.tmps)=true then Oper.wp P o a w K Q else E:=by
 have b:Region.wanted o (yielded ops a.tmps)=true:=by simp[Region.wanted,hgd]
 rw[if_pos b]
 unfold Oper.wp execOp
 have c:a.eval (.func F)= .func (.func F) #[] #[]:=rfl
 simp[ho,resolve,invoke,h1,h2,h3,c,Deferred.ofValue,hcf,Result.andThen,Oper.upon_enter]
 refine hc.mono fun e w' hr=> ?_
 obtain ⟨u,rfl,d⟩:=h e w' hr
 exact d
theorem ButE.cellE {E:Nat} {w w':World} (h:ButE E w w') {b o:Nat} {v:Value} (hn:b≠E) (hc:w.cell? ⟨b,o,none⟩=some v):w'.cell? ⟨b,o,none⟩=some v:=
 (World.cell?_of_block (w:=w) (w':=w') (a:=⟨b,o,none⟩) (h.block b (X7 hc) hn)).trans hc
theorem RunAns.ahead {B E M:Nat} {fv:Value} {fs:List FN} {c:Int} {l:List (List VN)} {fu:Nat} {w W w':World} {e:Ending} (h:RunAns B E M fv fs c l fu W e w') (hb:Below w.heap.size w W) (hE:E<w.heap.size):RunAns B E M fv fs c l fu w e w':=by
 obtain ⟨d,f,m,g,j,b,o,p,q⟩:=h
 exact ⟨d,f,m,g,j,(ButE.of_below hb).trans b,o.low hb.size hE,p,q⟩
theorem Kp {B E d:Nat} {fv v:Value} {fs:List FN} (ho:Qe B E fv fs d) {n:Nat} {ns:List VN} {fu:Nat} {w W:World} (hn:n<fs.length) (hs:SE B E fv fs fu 0 w) (hv:NR E w v ns) (hd:fu<=d) (hb:Below w.heap.size w W):
  Calls Tryz.prog 35 #[.pointer (some ⟨E,0,none⟩), .int .i64 n,v] W (RunAns B E (100 *(d+1)) fv fs (Xh fs d n ns fu).c (Xh fs d n ns fu).l (Xh fs d n ns fu).fu w):=
 (ho n v ns fu W hn (hs.below hb) (hv.below hb) hd).mono fun e w' h=>h.ahead hb hs.lt
structure Loop (B E:Nat) (fv:Value) (fs:List FN) (d:Nat) (W2:World) (av:Value) (axs:List Value) (m:List (List VN)) (c:Int) (fu:Nat) (o:Value) (oxs:List Value) (out:List (List VN)) (wr:World):Prop where
 se:SE B E fv fs fu c wr
 but:ButE E W2 wr
 lo:LR E W2.heap.size wr o oxs out
 la:LR E W2.heap.size wr av axs m
 apart:av.ownBlock=none\/av.ownBlock≠o.ownBlock
 few:out.length<=40+100 *(d+1)
 fud:fu<=d
theorem Loop.keep {B E d fu fu':Nat} {fv av o:Value} {fs:List FN} {W2 wr w':World} {axs oxs:List Value} {m out:List (List VN)} {c c':Int} (h:Loop B E fv fs d W2 av axs m c fu o oxs out wr) (hb:ButE E wr w') (hs:SE B E fv fs fu' c' w') (hf:fu'<=d):Loop B E fv fs d W2 av axs m c' fu' o oxs out w':=
 ⟨hs,h.but.trans hb,h.lo.keep hb,h.la.keep hb,h.apart,h.few,hf⟩
theorem Loop.app {B E d fu:Nat} {fv av o v':Value} {fs:List FN} {W2 w5 w6:World} {axs oxs xs5:List Value} {m out m5:List (List VN)} {c:Int} (h:Loop B E fv fs d W2 av axs m c fu o oxs out w5) (hl:xs5.length=m5.length) (hm:∀j,j<m5.length->NR E w5 (xs5.getD j undef) (Xn m5 j))
  (hown:w6.ownsRow W2.heap.size 25 1 v' (out.length+m5.length) (oxs++xs5)) (hg:w5.grownBy w6 o.ownBlock) (hat:v'.ownBlock=o.ownBlock\/v'.ownBlock=some w5.heap.size) (hfew:out.length+m5.length<=40+100 *(d+1)):Loop B E fv fs d W2 av axs m c fu v' (oxs++xs5) (out++m5) w6:=by
 obtain ⟨f,b⟩:=h.lo.append hl hm hown hg
 refine ⟨h.se.grown h.lo.row h.lo.lo hg,FrX.toBut h.but b (fun x hx=>(h.lo.row.lt x hx).1),f,h.la.keepX b h.apart, ?_,by rw[List.length_append];exact hfew,h.fud⟩
 rcases h.apart with e|e
 ·exact .inl e
 ·rcases hat with e2|e2
  ·exact .inr (by rw[e2];exact e)
  ·cases e3:av.ownBlock with
   |none=>exact .inl rfl
   |some x=>exact .inr (by rw[e2];intro g;cases g;have:=(h.la.row.lt _ e3).2;omega)
theorem Xn7 {E:Nat} {w:World} {v:Value} {vs:List VN} (h:NR E w v vs):∀j,j< [vs].length->NR E w ([v].getD j undef) (Xn [vs] j):=by
 intro j b
 obtain rfl:j=0:=by simpa using b
 exact h


theorem Xyu {B E d j n:Nat} {fv v:Value} {fs:List FN} {x:FN} {ns:List VN} {w:World} (hok:okF fs=true) (ho:Qe B E fv fs d) (hx:NodeOk fs x) (k:x.kind=8) (h0:x.kids.length=0) (hn:n<fs.length) (hxn:Xo fs n=x) (hse:SE B E fv fs (j+1) 0 w) (hv:NR E w v ns) (hj:j<=d) (hd:d<=100000):
  Calls Tryz.prog 35 #[.pointer (some ⟨E,0,none⟩), .int .i64 n,v] w (RunAns B E (100 *(d+2)) fv fs (evM (Xh fs d) x ns Xl (j,[])).1 (evM (Xh fs d) x ns Xl (j,[])).2.2 (evM (Xh fs d) x ns Xl (j,[])).2.1 w):=by
 obtain ⟨W1,W2,Z,b0,o0,bo,aC,cC,aK,cK,aI,cI,hp⟩:=Qh hse hn hxn
 obtain ⟨ba,q0,q1,q2,z1,bp,p0,s0,s1,s2,s3,s4,s5,t,bb,g1,g2,g3,f,g,b,c,hE,hB⟩:=hp
 have bc:=Xa f
 have bd:=Xa g
 have bq:=Xa b
 have br:=Xa c
 have bs:Hid (NR E Z v ns):=(hv.but g).below b
 have bt:=Xa hv.ok
 have HO:=Xa ho
 have HX:=Xa hx
 have HE:=Xa hE
 obtain ⟨av,cv,rfl⟩:=hv.slice
 obtain ⟨R,Y⟩:∃R,evM (Xh fs d) x ns Xl (j,[])=R:=⟨_,rfl⟩
 have bu:=Xa Y
 rw[Y]
 have be:(n:Int)<(fs.length:Int):=by omega
 have bv:¬((j:Int)+1=0):=by omega
 have bw:(j:Int)<=1000000:=by omega
 obtain ⟨NF,y⟩:∃NF,fs.length=NF:=⟨_,rfl⟩
 rw[y] at q0 p0 be hn
 have y0:=(Xc b (by omega)).trans c.c0
 have y1:=(Xc b (by omega)).trans c.c1
 have y2:=(Xc b (by omega)).trans c.c2
 have y3:=(Xc b (by omega)).trans c.c3
 have y4:=(Xc b (by omega)).trans c.c4
 have y5:=(Xc b (by omega)).trans c.c5
 obtain ⟨KK,z⟩:∃KK,x.kind=KK:=⟨_,rfl⟩
 rw[z] at s0 t y0
 obtain rfl:KK=8:=by omega
 obtain ⟨l,p⟩:∃l,Yo (Zo [])=l:=⟨_,rfl⟩
 have bf:Hid (Yo (Yi 5 [] (Xn []) ([]:List (List VN)).length)=l):=p
 have bg:Hid (Now R Yh l.1 j (Zd l)):=by
  have h1:=Xxi (R:=R) (oc:=Xh fs d) (v:=ns) (fu:=j) h0 (by rw[<-Xga k];exact Y)
  rw[p] at h1
  exact h1
 have bh:Hid (LR E (w.heap.size+1) Z (.slice (some ⟨w.heap.size+1,0,none⟩) 0 0) [] []):=by rw[Hid,<-bb,<-g2];exact ⟨World.ownsRow_lit W2 #[] 0 (Nat.le_refl _) (by simp[maxLen]) rfl,by omega,fun j hj=>absurd hj (by simp)⟩
 have C:Hid (ButE E W2 Z):= .of_below b
 obtain ⟨_,_,bx,_,bz⟩:=f.cells
 obtain ⟨KL,D⟩:∃KL,x.kids.length=KL:=⟨_,rfl⟩
 rw[D] at s5 t y5
 obtain rfl:KL=0:=by omega
 clear hse hv ho hx hxn hok Y ba f g b c y z hE hB k h0 p D
 go_enter Tryz.func35,Tryz.ntmps35
 go_wp2_with fail
 refine (Xae (kind:=5) (kv:= .slice none 0 0) (keys:= []) (by decide) (by decide) bh.out (by simp) (StrsAt.nil 0 _) (Nat.zero_le _) (by simp) (fun i hi=>absurd hi (by simp))).mono ?_
 rintro e w5 ⟨u,b1,b2,rfl,q,o,bi,F⟩
 have G:=Xa (Uq (E:=E) q (by have:=HE.out;omega) (by omega) F)
 have bj:Hid (Yo (Yi 5 [] (Xn []) ([]).length)=l):=bf.out
 rw[bj.out] at G
 have bk:=Xa (C.out.trans (.of_below o))
 have bl:=Xa (bc.out.below o)
 have z5:=o.size
 obtain ⟨a5,c5,e5⟩:=Xg q.row
 obtain ⟨L5,J⟩:∃L5,(Yi 5 [] (Xn []) ([]).length).length=L5:=⟨_,rfl⟩
 rw[J] at e5
 subst e5
 clear q o bi F J
 go_wp2_with fail
 refine G.out.mono ?_
 rintro e w6 ⟨u6,rfl,⟨a6,l6,c6,rfl⟩,L,s⟩
 have bm:=Xa (bk.out.trans (.of_below s))
 have P:=Xa (Xbf (bl.out.below s) ⟨a6,l6,c6,rfl⟩ L)
 have bn:Hid ((Zd l).length<=100 *(d+2)):=by have:=V5 l;unfold Hid;omega
 have S:=Xa bg.out
 obtain ⟨rc,T⟩:∃rc,l.1=rc:=⟨_,rfl⟩
 rw[T] at P S|-
 clear L s T
 go_wp2_with fail
 refine P.out.mono ?_
 rintro e w7 ha
 have HA:=Xa (Vf (M:=100 *(d+2)) ha S.out bd.out bm.out HE.out bn.out)
 obtain ⟨b3,b4,rfl,-,-,V⟩:=ha
 obtain ⟨a7,c7,rfl⟩:=V.slice
 obtain ⟨L7,X⟩:∃L7,(Zd l).length=L7:=⟨_,rfl⟩
 rw[X] at HA|-
 clear V X
 go_wp2_with fail
 go_ret
 exact HA.out


theorem Xwt {B E d j n:Nat} {fv v:Value} {fs:List FN} {x:FN} {ns:List VN} {w:World} (hok:okF fs=true) (ho:Qe B E fv fs d) (hx:NodeOk fs x) (k:x.kind=8) (h1:x.kids.length=1) (hn:n<fs.length) (hxn:Xo fs n=x) (hse:SE B E fv fs (j+1) 0 w) (hv:NR E w v ns) (hj:j<=d) (hd:d<=100000):
  Calls Tryz.prog 35 #[.pointer (some ⟨E,0,none⟩), .int .i64 n,v] w (RunAns B E (100 *(d+2)) fv fs (evM (Xh fs d) x ns Xl (j,[])).1 (evM (Xh fs d) x ns Xl (j,[])).2.2 (evM (Xh fs d) x ns Xl (j,[])).2.1 w):=by
 obtain ⟨W1,W2,W3,b0,o0,cd,aC,cC,aK,cK,aI,cI,hp⟩:=Qh hse hn hxn
 obtain ⟨bp,q0,q1,q2,z1,ce,p0,s0,s1,s2,s3,s4,s5,bq,cf,g1,g2,g3,z,g,b,f,hE,hB⟩:=hp
 have br:=Xa z
 have V:=Xa g
 have bs:=Xa b
 have cg:=Xa f
 have bt:Hid (NR E W3 v ns):=(hv.but g).below b
 have ch:=Xa hv.ok
 have HO:=Xa ho
 have HX:=Xa hx
 have HE:=Xa hE
 obtain ⟨av,cv,rfl⟩:=hv.slice
 obtain ⟨R,X⟩:∃R,evM (Xh fs d) x ns Xl (j,[])=R:=⟨_,rfl⟩
 have ci:=Xa X
 rw[X]
 have bu:(n:Int)<(fs.length:Int):=by omega
 have cj:¬((j:Int)+1=0):=by omega
 have ck:(j:Int)<=1000000:=by omega
 obtain ⟨NF,Y⟩:∃NF,fs.length=NF:=⟨_,rfl⟩
 rw[Y] at q0 p0 bu hn
 have y0:=(Xc b (by omega)).trans f.c0
 have y1:=(Xc b (by omega)).trans f.c1
 have y2:=(Xc b (by omega)).trans f.c2
 have y3:=(Xc b (by omega)).trans f.c3
 have y4:=(Xc b (by omega)).trans f.c4
 have y5:=(Xc b (by omega)).trans f.c5
 obtain ⟨KK,Z⟩:∃KK,x.kind=KK:=⟨_,rfl⟩
 rw[Z] at s0 bq y0
 have bv:=h1
 obtain ⟨kb,ko,cb,ek,cl,k4⟩:=f.inn.kids.get (j:=0) (by omega)
 injection ek with ek1 ek2 ek3
 subst ek1 ek3
 obtain ⟨bw,bx⟩:=hx.kid 0 (by omega)
 obtain ⟨T,ba⟩:∃T:Nat,Xk x 0=(T:Int):=⟨(Xk x 0).toNat,by omega⟩
 have D:Hid (T<fs.length/\(Xk x 0).toNat=T):=by unfold Hid;omega
 have cm:W3.cell? ⟨kb,ko,none⟩=some (.int .i64 (T:Int)):=by rw[<-ba];exact (Xc b (by omega)).trans (by unfold Xk;simpa using k4)
 obtain rfl:KK=8:=by omega
 obtain ⟨r,hr⟩:∃r,Xh fs d T ns j=r:=⟨_,rfl⟩
 have bb:r.l.length<=40:=by rw[<-hr];exact (Ze hok d).few _ _ _ hv.ok
 have bz:=Xa bb
 have b1:Hid (r.c≠0->R=(r.c,(r.fu,[]))):=fun e=>Xxj (oc:=Xh fs d) (x:=x) (v:=ns) (fu:=j) (R:=R) (by omega) (by rw[D.out.2];exact hr) (by rw[<-Xga k];exact X) e
 have bc:Hid (r.c=0->Now R Yh (Yo (Zo r.l)).1 r.fu (Zd (Yo (Zo r.l)))):=fun e=>Xxk (oc:=Xh fs d) (x:=x) (v:=ns) (fu:=j) (R:=R) (by omega) (by rw[D.out.2];exact hr) (by rw[<-Xga k];exact X) e
 have HC:=Xa (Kp HO.out D.out.1 br.out bt.out hj (Below.refl _ _))
 rw[hr] at HC
 have cn:0<x.kids.length:=by omega
 have cc:(0:Int)<(x.kids.length:Int):=by omega
 clear hse hv ho hx hxn hok X bp z g b f Y Z hE hB k k4 bv bw bx ba hr h1 bb
 go_enter Tryz.func35,Tryz.ntmps35
 go_wp2_with fail
 refine HC.out.mono ?_
 rintro e w4 ⟨sv,xs,m,rfl,p,q,s,F,bd⟩
 obtain ⟨_,_,be,_,co⟩:=p.cells
 have G:=Xa p
 have bf:=Xa ((ButE.of_below bs.out).trans q)
 have b2:=Xa s
 have z4:=q.size
 obtain ⟨a4,c4,rfl⟩:=s.slice
 by_cases h0:r.c=0
 ·obtain rfl:=F h0
  obtain ⟨o,J⟩:∃o,Yo (Zo r.l)=o:=⟨_,rfl⟩
  have b3:Hid (Yo (Yi 5 [] (Xn r.l) r.l.length)=o):=J
  have b4:Hid (Now R Yh o.1 r.fu (Zd o)):=by have h1:=bc.out h0;rw[J] at h1;exact h1
  rw[h0] at be G
  obtain ⟨M,L⟩:∃M,r.l.length=M:=⟨_,rfl⟩
  have cp:=Xa L
  have bg:Hid (LR E W3.heap.size w4 (.slice a4 M c4) xs r.l):=by rw[Hid,<-L];exact b2.out
  rw[L]
  clear p q s F bd h0 J L
  go_wp2_with fail
  refine (Xae (kind:=5) (kv:= .slice none 0 0) (keys:= []) (by decide) (by decide) bg.out (by have:=bz.out;omega) (StrsAt.nil 0 _) (Nat.zero_le _) (by simp) (fun i hi=>absurd hi (by simp))).mono ?_
  rintro e w5 ⟨u,cq,cr,rfl,P,t,b5,bh⟩
  have bi:=Xa (Uq (E:=E) P (by have:=HE.out;omega) (by omega) bh)
  have b6:Hid (Yo (Yi 5 [] (Xn r.l) (r.l).length)=o):=b3.out
  rw[b6.out] at bi
  have b7:=Xa (bf.out.trans (.of_below t))
  have b8:=Xa (G.out.below t)
  have z5:=t.size
  obtain ⟨a5,c5,e5⟩:=Xg P.row
  obtain ⟨L5,bj⟩:∃L5,(Yi 5 [] (Xn r.l) (r.l).length).length=L5:=⟨_,rfl⟩
  rw[bj] at e5
  subst e5
  clear P t b5 bh bj
  go_wp2_with fail
  refine bi.out.mono ?_
  rintro e w6 ⟨u6,rfl,⟨a6,l6,c6,rfl⟩,bk,S⟩
  have b9:=Xa (b7.out.trans (.of_below S))
  have bl:=Xa (Xbf (b8.out.below S) ⟨a6,l6,c6,rfl⟩ bk)
  have ca:Hid ((Zd o).length<=100 *(d+2)):=by have:=V5 o;unfold Hid;omega
  have y:=Xa b4.out
  obtain ⟨rc,bm⟩:∃rc,o.1=rc:=⟨_,rfl⟩
  rw[bm] at bl y|-
  clear bk S bm
  go_wp2_with fail
  refine bl.out.mono ?_
  rintro e w7 ha
  have HA:=Xa (Vf (M:=100 *(d+2)) ha y.out V.out b9.out HE.out ca.out)
  obtain ⟨cs,ct,rfl,-,-,bn⟩:=ha
  obtain ⟨a7,c7,rfl⟩:=bn.slice
  obtain ⟨L7,bo⟩:∃L7,(Zd o).length=L7:=⟨_,rfl⟩
  rw[bo] at HA|-
  clear bn bo
  go_wp2_with fail
  go_ret
  exact HA.out
 ·have y:Hid (Now R Yh r.c r.fu []):=Xov h0 (b1.out h0)
  have HA:=Xa (Qu (M:=100 *(d+2)) (e:= .returned (.slice none 0 0)) (m:= []) rfl y.out G.out V.out bf.out (LR.nil (base:=W3.heap.size) (by have:=HE.out;omega)) (by omega) HE.out (by simp))
  obtain ⟨C,hC⟩:∃C,r.c=C:=⟨_,rfl⟩
  rw[hC] at be h0
  have q0:(C !=0)=true:=by simpa using h0
  have q1:(C==0)=false:=by simpa using h0
  obtain ⟨M,L⟩:∃M,m.length=M:=⟨_,rfl⟩
  rw[L]
  clear p q s F bd h0 hC L
  go_wp2_with fail
  go_ret
  exact HA.out


theorem X2t {B E d j n:Nat} {fv v:Value} {fs:List FN} {x:FN} {ns:List VN} {w:World} (hok:okF fs=true) (ho:Qe B E fv fs d) (hx:NodeOk fs x) (k:x.kind=21) (hn:n<fs.length) (hxn:Xo fs n=x) (hse:SE B E fv fs (j+1) 0 w) (hv:NR E w v ns) (hj:j<=d) (hd:d<=100000):
  Calls Tryz.prog 35 #[.pointer (some ⟨E,0,none⟩), .int .i64 n,v] w (RunAns B E (100 *(d+2)) fv fs (evM (Xh fs d) x ns Xl (j,[])).1 (evM (Xh fs d) x ns Xl (j,[])).2.2 (evM (Xh fs d) x ns Xl (j,[])).2.1 w):=by
 obtain ⟨W1,W2,W3,b0,o0,d6,aC,cC,aK,cK,aI,cI,hp⟩:=Qh hse hn hxn
 obtain ⟨c7,q0,q1,q2,z1,c8,p0,s0,s1,s2,s3,s4,s5,bw,bx,g1,g2,g3,bf,G,g,p,hE,hB⟩:=hp
 have c9:=Xa bf
 have bk:=Xa G
 have bz:=Xa g
 have da:=Xa p
 have b1:Hid (NR E W3 v ns):=(hv.but G).below g
 have d7:=Xa hv.ok
 have HO:=Xa ho
 have HX:=Xa hx
 have HE:=Xa hE
 obtain ⟨av,cv,rfl⟩:=hv.slice
 obtain ⟨R,hR⟩:∃R,evM (Xh fs d) x ns Xl (j,[])=R:=⟨_,rfl⟩
 have d8:=Xa hR
 rw[hR]
 have db:(n:Int)<(fs.length:Int):=by omega
 have d9:¬((j:Int)+1=0):=by omega
 have fa:(j:Int)<=1000000:=by omega
 obtain ⟨NF,b2⟩:∃NF,fs.length=NF:=⟨_,rfl⟩
 rw[b2] at q0 p0 db hn
 have y0:=(Xc g (by omega)).trans p.c0
 have y1:=(Xc g (by omega)).trans p.c1
 have y2:=(Xc g (by omega)).trans p.c2
 have y3:=(Xc g (by omega)).trans p.c3
 have y4:=(Xc g (by omega)).trans p.c4
 have y5:=(Xc g (by omega)).trans p.c5
 obtain ⟨KK,b3⟩:∃KK,x.kind=KK:=⟨_,rfl⟩
 rw[b3] at s0 bw y0
 have b4:Hid (NR E W2 (.slice av ns.length cv) ns):=hv.but G
 have dc:=hx.two (by omega)
 obtain ⟨kb,ko,dz,ek,fb,k4⟩:=p.inn.kids.get (j:=0) (by omega)
 injection ek with bl ek2 ek3
 subst bl ek3
 obtain ⟨dd,de⟩:=hx.kid 0 (by omega)
 obtain ⟨K0,b5⟩:∃K0:Nat,Xk x 0=(K0:Int):=⟨(Xk x 0).toNat,by omega⟩
 have b6:Hid (K0<fs.length/\(Xk x 0).toNat=K0):=by unfold Hid;omega
 have df:W3.cell? ⟨kb,ko,none⟩=some (.int .i64 (K0:Int)):=by rw[<-b5];exact (Xc g (by omega)).trans (by unfold Xk;simpa using k4)
 have ba:=(show IntsAt B W2 _ x.kids from p.inn.kids).get (j:=1) (by omega)
 obtain ⟨fc,fd,dg,bl,d0,ba⟩:=ba
 injection bl with eb1 eb2 eb3
 injection eb1 with eb1
 injection eb1 with eb1 eb4 eb5
 clear eb2 eb3 eb5
 subst eb1 eb4
 obtain ⟨b7,b8⟩:=hx.kid 1 (by omega)
 obtain ⟨V,b9⟩:∃V:Nat,Xk x 1=(V:Int):=⟨(Xk x 1).toNat,by omega⟩
 have ca:Hid (V<fs.length/\(Xk x 1).toNat=V):=by unfold Hid;omega
 have dh:W2.cell? ⟨kb,ko+1,none⟩=some (.int .i64 (V:Int)):=by rw[<-b9];exact ba
 obtain rfl:KK=21:=by omega
 obtain ⟨q,X⟩:∃q,Zp (Xh fs d K0 ns j)=q:=⟨_,rfl⟩
 have fe:=Xa X
 have cb:Hid (q.fu<=j):=by rw[Hid,<-X];exact (Xam (Ze hok d) K0 hv.ok j).2
 have ff:Hid (∀n ns fu,okB ns=true->(Xh fs d n ns fu).fu<=fu):=(Ze hok d).le
 have bm:Gn (Xh fs d) (Xk x 1) ns Xl q []=R:=by rw[<-hR,Xxe k,b6.out.2,X]
 have di:Hid (∀m:List (List VN),(q.c=0->m=q.l)->(Qr m m.length).length≠0->Now R Yh (Zj q.c (Qr m m.length).length) q.fu (Qr m m.length)):=fun m h ht=>by
  rw[Xnm] at ht|-
  exact X08 h bm ht
 have dj:Hid (∀m:List (List VN),(q.c=0->m=q.l)->(Qr m m.length).length=0->Now R (Xp (Xh fs d) (Xk x 1) ns Xl) q.c q.fu []):=fun m h ht=>by
  rw[Xnm] at ht
  exact Xxl h bm ht
 have HC:=Xa (Xnq HO.out b6.out.1 c9.out b1.out hj)
 rw[X] at HC
 have dk:Hid (LR E W2.heap.size W3 (.slice (some ⟨w.heap.size+1,0,none⟩) 0 0) [] []):=by rw[Hid,<-bx,<-g2];exact ⟨World.ownsRow_lit W2 #[] 0 (Nat.le_refl _) (by simp[maxLen]) rfl,by omega,fun j hj=>absurd hj (by simp)⟩
 have fg:=hE
 have cc:kb≠E:=by omega
 have s:1<x.kids.length:=by omega
 have d1:(1:Int)<(x.kids.length:Int):=by omega
 have d2:0<x.kids.length:=by omega
 have d3:(0:Int)<(x.kids.length:Int):=by omega
 obtain ⟨i0,dl,dm,dp,dq⟩:=info_parts J8
 obtain ⟨LN,bn⟩:∃LN,ns.length=LN:=⟨_,rfl⟩
 have fh:=Xa bn
 rw[bn] at HC b4 b1|-
 clear hse hv ho hx hxn hok hR c7 bf G g p b2 b3 hE hB k k4 dc dd de b5 X bn bm b9 ba b7 b8
 go_enter Tryz.func35,Tryz.ntmps35
 go_wp2_with fail
 refine HC.out.mono ?_
 rintro e w4 ⟨sv,xs,m,rfl,cd,bo,bb,ce,dr⟩
 have cf:q.fu<=d:=by have:=cb.out;omega
 have f:Hid (Loop B E fv fs d W2 sv xs m q.c q.fu (.slice (some ⟨w.heap.size+1,0,none⟩) 0 0) [] (Qr m 0) w4):=
  ⟨cd, (ButE.of_below bz.out).trans bo, dk.out.keep bo, bb.low bz.out.size (by have := HE.out; omega), by
   cases e3:sv.ownBlock with
   |none=>exact .inl rfl
   |some y=>exact .inr (by have:=(bb.row.lt _ e3).1;simp only[Value.ownBlock];intro e4;injection e4 with e4;omega),by simp[Xkz,Xk0],cf⟩
 obtain ⟨a4,c4,rfl⟩:=bb.slice
 obtain ⟨M,hM⟩:∃M,m.length=M:=⟨_,rfl⟩
 have J:=Xa hM
 have fi:M<=20000000:=by omega
 have fj:M<=100 *(d+1):=by omega
 have cg:=Xa ce
 have bc:=Xa g2
 have fk:=Xa g3
 rw[hM] at f|-
 clear cd bo bb ce dr hM g1 g2 g3 y0 y1 y2 y3 y4 y5 c8 bw bx s0 s1 s2 s3 s4 s5 p0 q0 q1 q2 z1 df
 go_wp2_with fail
 go_loopw [8,20] (fun o i wr=>∃(k:Nat) (bd:List Value),k<=M/\i= .int .i64 k/\Loop B E fv fs d W2 (.slice a4 M c4) xs m q.c q.fu o bd (Qr m k) wr) (fun _ i _=>M-(intOf i).toNat)
 case atStart=>exact ⟨0,[],Nat.zero_le _,rfl,f.out⟩
 case round=>
  obtain ⟨k,bd,hk,rfl,s⟩:=hrel
  have f:=Xa s
  obtain ⟨ao,co,rfl⟩:=s.lo.slice
  have zs:=s.but.size
  have ch:=Xz0 m k
  by_cases hlt:k<M
  ·have d4:(k:Int)<(M:Int):=by omega
   obtain ⟨b,ax,cx,rfl,fl,C,bp⟩:=s.la.cell (j:=k) (by rw[J.out];exact hlt)
   have ci:=Xa bp
   have bq:=Xa (Xb5 bp)
   obtain ⟨tb,br⟩:∃tb,Xu (Xn m k)=tb:=⟨_,rfl⟩
   have cj:=Xa br
   rw[br] at bq
   obtain ⟨LX,ck⟩:∃LX,(Xn m k).length=LX:=⟨_,rfl⟩
   obtain ⟨Z,hO⟩:∃Z,(Qr m k).length=Z:=⟨_,rfl⟩
   have bs:=Xa hO
   rw[ck] at C bq ci
   rw[hO] at f ch|-
   clear s bp br ck hO
   go_wp2_with fail
   refine bq.out.mono ?_
   rintro e w3 ⟨rfl,L⟩
   have z:=Xa (f.out.keep (.of_below L) (f.out.se.below L) f.out.fud)
   have cl:=Xa (ci.out.below L)
   have cz:=(Xc L (X7 C)).trans C
   have z3:=L.size
   clear L
   cases tb
   ·have bt:Hid (Qr m (k+1)=Qr m k):=X2v (by rw[J.out];exact hlt) cj.out
    go_wp2_with fail
    go_roundw
    case rel=>exact ⟨k+1,bd,by omega,by go_num,by rw[bt.out];exact z.out⟩
    case measure=>simp[intOf];omega
   ·have bt:Hid (Qr m (k+1)=Qr m k++ [Xn m k]):=Xzz (by rw[J.out];exact hlt) cj.out
    have D:=z.out.lo.row
    rw[bs.out] at D
    go_wp2_with (at_builtin;refine wpList_append_own_at _ rfl _ _ 28 rfl W2.heap.size 25 i0 (.slice none 0 0) 1 24 Tryz.underlying28 dl dm dp dq rfl (by decide) _ Z bd rfl (D.alloc _) ⟨w3.heap.size,0,none⟩ 1 1 [.slice ax LX cx] rfl rfl ?c1 ?c2 ?c3 ?c4 ?c5 ?_)
    case c1=>exact cell_one_new _ _ _
    case c2=>intro u hu;simp at hu;subst hu;rfl
    case c3=>unfold maxLen;omega
    case c4=>omega
    case c5=>simp;omega
    intro v6 w6 t cm _ bg
    have be:Below w3.heap.size w3 (w3.alloc (.cells #[.slice ax LX cx] 25)):=(Below.refl _ _).alloc (Nat.le_refl _) _
    have bh:=z.out.keep (.of_below be) (z.out.se.below be) z.out.fud
    rw[<-bs.out] at t
    have bi:=Xa (bh.app (xs5:= [.slice ax LX cx]) (m5:= [Xn m k]) rfl (Xn7 (cl.out.below be)) t cm (by simpa using bg) (by rw[bs.out];simp;omega))
    obtain ⟨a6,c6,e6⟩:=Xg t
    obtain ⟨cn,cp⟩:∃cn,(Qr m k).length+1=cn:=⟨_,rfl⟩
    rw[cp] at e6
    subst e6
    rw[<-bt.out] at bi
    clear t cm bh D be cp bg
    go_wp2_with fail
    go_roundw
    case rel=>exact ⟨k+1,_,by omega,by go_num,bi.out⟩
    case measure=>simp[intOf];omega
  ·obtain rfl:k=M:=by omega
   obtain ⟨_,_,q2,_,_⟩:=s.se.cells
   have y5:=s.but.cellE (show w.heap.size≠E by omega) da.out.c5
   have d5:=s.but.cellE cc dh
   have ds:Hid ((Qr m k).length<=100 *(d+2)):=by unfold Hid;omega
   have HT:Hid ((Qr m k).length≠0->Now R Yh (Zj q.c (Qr m k).length) q.fu (Qr m k)):=fun ht=>by have h1:=di.out m cg.out (by rw[J.out];exact ht);rw[J.out] at h1;exact h1
   have HF:Hid ((Qr m k).length=0->Now R (Xp (Xh fs d) (Xk x 1) ns Xl) q.c q.fu []):=fun ht=>dj.out m cg.out (by rw[J.out];exact ht)
   obtain ⟨Z,hO⟩:∃Z,(Qr m k).length=Z:=⟨_,rfl⟩
   rw[hO] at f HT HF ch|-
   clear s hO
   by_cases hz:Z=0
   ·subst hz
    have cq:=Xa (HF.out rfl)
    by_cases h0:q.c=0
    ·have cr:Hid (∀W,Below wr.heap.size wr W->Calls Tryz.prog 35 #[.pointer (some ⟨E,0,none⟩), .int .i64 V, .slice av LN cv] W (RunAns B E (100 *(d+1)) fv fs (Xh fs d V ns q.fu).c (Xh fs d V ns q.fu).l (Xh fs d V ns q.fu).fu wr)):=fun W hb=>Kp HO.out ca.out.1 (by have:=f.out.se;rw[h0] at this;exact this) (b4.out.but f.out.but) f.out.fud hb
     obtain ⟨r1,bu⟩:∃r1,Xh fs d V ns q.fu=r1:=⟨_,rfl⟩
     have cs:Hid (∀m5:List (List VN),(r1.c=0->m5=r1.l)->Now R Yh (Zj r1.c m5.length) r1.fu m5):=fun m5 h5=>X09 cq.out h0 (by rw[ca.out.2];exact bu) h5
     rw[bu] at cr
     have ct:=Xa (cr.out wr (Below.refl _ _))
     clear bu h0
     go_wp2_with fail
     refine ct.out.mono ?_
     rintro e w5 ⟨fm,xs5,m5,rfl,Y,P,bv,cu,dt⟩
     have S:=Xa (cs.out m5 cu)
     have du:=Xa Y
     have dv:=Xa (f.out.but.trans P)
     have cw:=Xa bv
     have cy:Hid (m5.length<=100 *(d+2)):=by unfold Hid;omega
     obtain ⟨a5,c5,rfl⟩:=bv.slice
     obtain ⟨M5,bj⟩:∃M5,m5.length=M5:=⟨_,rfl⟩
     rw[bj] at S cw|-
     clear Y P bv cu dt bj
     go_wp2_with fail
     refine (Zr a5 M5 c5 du.out).mono ?_
     rintro e w6 ⟨rfl,T,F⟩
     have HA:=Xa (Qu (M:=100 *(d+2)) (e:= .returned (.slice a5 M5 c5)) rfl S.out T bk.out (dv.out.trans F) (cw.out.keep F) (by have:=bc.out;omega) HE.out cy.out)
     clear T F
     go_wp2_with fail
     go_ret
     exact HA.out
    ·have S:Hid (Now R Yh q.c q.fu []):=cq.out.dead h0 _ _
     have dw:=Xa (Xpb (V:Int) av LN cv f.out.se h0)
     have dx:Hid (Zj q.c 0=q.c):=Xbd h0
     have dy:Hid (LR E W2.heap.size wr (.slice none 0 0) [] []):=LR.nil (by have:=bc.out;omega)
     clear h0
     go_wp2_with fail
     refine dw.out.mono ?_
     rintro e w5 ⟨rfl,rfl⟩
     go_wp2_with fail
     refine (Zr none 0 0 f.out.se).mono ?_
     rintro e w6 ⟨rfl,T,F⟩
     rw[dx.out] at T
     have HA:=Xa (Qu (M:=100 *(d+2)) (e:= .returned (.slice none 0 0)) rfl S.out T bk.out (f.out.but.trans F) (dy.out.keep F) (by have:=bc.out;omega) HE.out (by simp))
     clear T F
     go_wp2_with fail
     go_ret
     exact HA.out
   ·have S:=Xa (HT.out hz)
    have fn:¬((Z:Int)=0):=by omega
    clear hz
    go_wp2_with fail
    refine (Zr ao Z co f.out.se).mono ?_
    rintro e w5 ⟨rfl,Y,P⟩
    have HA:=Xa (Qu (M:=100 *(d+2)) (e:= .returned (.slice ao Z co)) rfl S.out Y bk.out (f.out.but.trans P) (f.out.lo.keep P) (by have:=bc.out;omega) HE.out ds.out)
    clear Y P
    go_wp2_with fail
    go_ret
    exact HA.out


structure Side (E:Nat) (W2:World) (bv:Value) (bxs:List Value) (m5:List (List VN)) (o:Value) (wr:World):Prop where
 row:LR E W2.heap.size wr bv bxs m5
 apart:bv.ownBlock=none\/bv.ownBlock≠o.ownBlock
theorem Side.keep {E:Nat} {W2 wr w':World} {bv o:Value} {bxs:List Value} {m5:List (List VN)} (h:Side E W2 bv bxs m5 o wr) (hb:ButE E wr w'):Side E W2 bv bxs m5 o w':=⟨h.row.keep hb,h.apart⟩
theorem Side.app {E:Nat} {W2 w5 w6:World} {bv o v':Value} {bxs oxs:List Value} {m5 out:List (List VN)} (h:Side E W2 bv bxs m5 o w5) (lo:LR E W2.heap.size w5 o oxs out) (hg:w5.grownBy w6 o.ownBlock) (hat:v'.ownBlock=o.ownBlock\/v'.ownBlock=some w5.heap.size):Side E W2 bv bxs m5 v' w6:=by
 refine ⟨h.row.keepX (Xe8 lo.row lo.lo hg) h.apart, ?_⟩
 rcases h.apart with e|e
 ·exact .inl e
 ·rcases hat with e2|e2
  ·exact .inr (by rw[e2];exact e)
  ·cases e3:bv.ownBlock with
   |none=>exact .inl rfl
   |some x=>exact .inr (by rw[e2];intro b;cases b;have:=(h.row.row.lt _ e3).2;omega)
theorem Side.new {E d fu:Nat} {B:Nat} {fv av o:Value} {fs:List FN} {W2 wr w5:World} {axs oxs bxs:List Value} {m out m5:List (List VN)} {c:Int} {bv:Value} (h:Loop B E fv fs d W2 av axs m c fu o oxs out wr) (hl:LR E wr.heap.size w5 bv bxs m5) (hE:E<W2.heap.size):Side E W2 bv bxs m5 o w5:=by
 refine ⟨hl.low h.but.size hE, ?_⟩
 cases e3:bv.ownBlock with
 |none=>exact .inl rfl
 |some x=>
  refine .inr (fun e4=> ?_)
  have b:=(hl.row.lt _ e3).1
  have f:=(h.lo.row.lt _ e4.symm).2
  omega
def Xx9 (B E M:Nat) (fv:Value) (fs:List FN) (R:Int×Xs) (w:World) (e:Ending) (w':World):Prop:=
 ∃sv xs m c fu,e= .returned sv/\SE B E fv fs fu c w'/\ButE E w w'/\LR E w.heap.size w' sv xs m/\Now R Yh c fu m/\m.length<=M
theorem Xya (a b:Value) (w:World):(callFunc 130 #[a,b]).run Tryz.prog w= .ok (.enter 130 #[a,b]) w:=by kernel_rfl
theorem Xu1 (a b:Value) (w:World):(callFunc 131 #[a,b]).run Tryz.prog w= .ok (.enter 131 #[a,b]) w:=by kernel_rfl
theorem Xrm (a b:Value) (w:World):(callFunc 132 #[a,b]).run Tryz.prog w= .ok (.enter 132 #[a,b]) w:=by kernel_rfl
theorem X3j (a:Int):decide (a=0)=(a==0):=by cases h:decide (a=0)<;>simp_all
theorem X3k (a:Int):(!decide (a=0))=(a !=0):=by cases h:decide (a=0)<;>simp_all
theorem Made1.ahead {E:Nat} {r:Int×List VN} {w W w':World} {e:Ending} (h:Made1 E r W e w') (hb:Below w.heap.size w W):Made1 E r w e w':=by
 obtain ⟨u,c,d,f,b⟩:=h
 exact ⟨u,c,d,f,hb.trans (b.mono hb.size)⟩
end Go.Proofs.YtdjddneidbddpaaGreatDoor
