import Derived.Test.YtdjddneidbddpaaGreatDoorSeA7
import Derived.Test.YtdjddneidbddpaaGreatDoorSeW
import Derived.Test.YtdjddneidbddpaaGreatDoorSSort
import Derived.Test.YtdjddneidbddpaaGreatDoorSeF
import Derived.Test.YtdjddneidbddpaaGreatDoorByP
namespace Go.Proofs.YtdjddneidbddpaaGreatDoor
set_option linter.unusedSectionVars false
set_option maxRecDepth 100000
set_option maxHeartbeats 12800000
open Go.RowKit
set_option linter.unusedSimpArgs false
set_option linter.unusedVariables false
theorem Xp9 {B E fu:Nat} {fv v kc kn ki:Value} {fs:List FN} {x:FN} {ns:List VN} {w:World} (hx:NodeOk fs x) (k:x.kind=3) (hin:FNodeIn B w x kc kn ki) (hs:SE B E fv fs fu 0 w) (hv:NR E w v ns) (hr:(Xd ns).kind=5) (h1:x.place<0) (h2:0<=x.place+((Xe ns).length:Int)):
  Calls Tryz.prog 71 #[.pointer (some ⟨E,0,none⟩),v,Ym x kc kn ki] w (Qv B E fv fs (Yp x ns).1 (Zd (Yp x ns)) fu w):=by
 obtain ⟨b1,o1,c1,V,X,bl,bm,aC,cC,aK,cK,aI,cI,NL,kr,nr,sr,KS,KM,kk,nm,pl,rr,W1,W2,W3,rfl,rfl,rfl,rfl,bn,j,t,y,Y,c,G,J,d,Z,b7,b8,bo,b9,ca,bp,cb,hE,ba,z,C,o,bb,bq,br,bs,bt,cc,bu,cd,ce,bv,f0,f1,f2,cf,cg,ch,r0,r1,r2,r3,r4,t0,t1,t2,t3,m0,m1,m2,m3,m4,bw,ci⟩:=Kl hx hin hs hv
 rw[Z]
 have L:Z8 ns x.place=x.place+((Xe ns).length:Int):=by unfold Z8;rw[if_pos h1]
 obtain ⟨l,M⟩:∃l:Nat,x.place+((Xd ns).kids.length:Int)=(l:Int):=⟨(x.place+((Xd ns).kids.length:Int)).toNat,by rw[o.out] at h2;omega⟩
 have P:l<(Xd ns).kids.length:=by omega
 have R:Hid (∀W,Below w.heap.size w W->Calls Tryz.prog 128 #[.agg #[.int .i64 (Xd ns).kind, .int .i64 (Xd ns).n, .string (Xd ns).s, .slice V (Xd ns).keys.length X, .slice bl (Xd ns).kids.length bm], .agg #[.bool false, .string x.name, .int .i64 (x.place+((Xd ns).kids.length:Int))]] W fun e w'=>e= .returned (.int .i64 (x.place+((Xd ns).kids.length:Int)))/\Below W.heap.size W w'):=fun W hb=>by
  have h1:=Ub w.heap.size (Xd ns) _ _ ⟨false,x.name,(x.place+((Xd ns).kids.length:Int))⟩ W (bq.out.below hb) hb.size (fun k6=>⟨Q7 (Y0 bb.out k6).2,by rw[(Y0 bb.out k6).1];exact C⟩) (.inr (by simp;omega)) (by omega) (by simp<;>omega)
  rw[Xkc hr (by omega),if_pos (by omega)] at h1
  exact h1
 have bx:(Xd ns).kids.length≠0:=by omega
 obtain ⟨bi,oi,bz,b0,bc⟩:=br.out (by omega)
 subst bz
 have bd:Hid (rr=(0,PL ns l)):=by rw[Hid];rw[bu.out k];unfold atR;rw[if_neg (by omega),if_pos hr,if_pos (by rw[L];exact ⟨h2,by omega⟩),L];rw[o.out,M,Int.toNat_natCast]
 have z1:((NL:Int)-1).toNat=NL-1:=by omega
 rw[c] at C
 rw[j,t,y,Y,c,J,d] at R
 unfold Ym
 rw[G,J,d]
 have e2:(kk==2)=false:=by rw[<-G,k];rfl
 rw[e2] at t0 bo
 obtain rfl:kr=5:=by rw[<-j,hr]
 obtain ⟨q,hq⟩:∃q,pl+(KM:Int)=q:=⟨_,rfl⟩
 obtain ⟨g,b⟩:∃g,W3.setCell ⟨w.heap.size+2,2,none⟩ (.int .i64 q)=g:=⟨_,rfl⟩
 have D:Hid (Below w.heap.size w g):=by rw[Hid,<-b];exact bw.out.setCell (by simp) _
 have cj:g.heap.size=w.heap.size+3:=by rw[<-b];simp[bv]
 have v0:g.cell? ⟨w.heap.size+2,0,none⟩=some (.bool false):=by rw[<-b,World.cell?_setCell_other (h:=by simp)];exact t0
 have v1:g.cell? ⟨w.heap.size+2,1,none⟩=some (.string nm):=by rw[<-b,World.cell?_setCell_other (h:=by simp)];exact t1
 have v2:g.cell? ⟨w.heap.size+2,2,none⟩=some (.int .i64 q):=by rw[<-b];exact World.cell?_setCell_same _ _ _ t2
 have x0:g.cell? ⟨w.heap.size+1,0,none⟩=some (.int .i64 5):=by rw[<-b,World.cell?_setCell_other (h:=by simp)];exact r0
 have x1:g.cell? ⟨w.heap.size+1,1,none⟩=some (.int .i64 nr):=by rw[<-b,World.cell?_setCell_other (h:=by simp)];exact r1
 have x2:g.cell? ⟨w.heap.size+1,2,none⟩=some (.string sr):=by rw[<-b,World.cell?_setCell_other (h:=by simp)];exact r2
 have x3:g.cell? ⟨w.heap.size+1,3,none⟩=some (.slice V KS X):=by rw[<-b,World.cell?_setCell_other (h:=by simp)];exact r3
 have x4:=r4
 rw[<-World.cell?_setCell_other (v:= .int .i64 q) (a:=⟨w.heap.size+2,2,none⟩) (h:=by simp),b] at x4
 have ck:pl<0:=by rw[<-d];exact h1
 have cl: -80<=pl:=by have:=z k;omega
 rw[hq] at R
 have cm:¬(q<0):=by rw[<-hq,<-d,<-c];omega
 have cn:0<=q:=by omega
 have co:q.toNat=l:=by rw[<-hq,<-d,<-c,M];simp
 rw[c] at P
 have cp:q<(KM:Int):=by omega
 have b2:=Xa c
 have F:∀i,i<KM->w.cell? ⟨bi,oi+i,none⟩=some (.int .i64 (Xj (Xe ns) i)):=by rw[o.out,<-c];exact bc
 clear hx hin hs hv k Z bp ba z bn j t y Y c G J d hr L M bc bx h1 h2
 go_enter Tryz.func71,Tryz.ntmps71
 go_wp2_with fail
 refine (R.out g D.out).mono ?_
 rintro e w4 ⟨rfl,f⟩
 have p:=Xa (D.out.trans (f.mono (by omega)))
 have z4:=p.out.size
 have cq:=(Xc f (by omega)).trans x4
 clear f
 have b3:w4.cell? ⟨bi,oi+l,none⟩=some (.int .i64 (Xj (Xe ns) l)):=(Xc p.out b0).trans (F l P)
 have be:=Xa (bs.out w4 p.out l (by rw[o.out,b2.out];exact P))
 obtain ⟨Q,hQ⟩:∃Q,Xj (Xe ns) l=Q:=⟨_,rfl⟩
 rw[hQ] at b3 be
 clear hQ F
 go_wp2_with fail
 refine be.out.mono ?_
 rintro e w5 ⟨u,rfl,⟨a4,c4,rfl⟩,bf,f⟩
 have S:=Xa (p.out.trans (f.mono (by omega)))
 have bg:=Xa (J9 (bt.out _ S.out) bf)
 obtain ⟨L4,bh⟩:∃L4,(PL ns l).length=L4:=⟨_,rfl⟩
 rw[bh] at bg|-
 clear bf f bh
 go_wp2_with fail
 refine bg.out.mono ?_
 rintro e w6 ⟨sv,xs,rfl,bj,bk,T⟩
 have b4:=Xa bj
 have b5:=Xa ((ButE.of_below S.out).trans bk)
 have b6:=Xa (T.low (base':=w.heap.size) S.out.size hE)
 obtain ⟨a5,c5,rfl⟩:=T.slice
 clear bj bk T
 go_wp2_with fail
 go_ret
 exact ⟨_,_,rfl,by rw[bd.out];exact b4.out,b5.out,by rw[bd.out];exact b6.out⟩


theorem X1d {B E fu:Nat} {fv v kc kn ki:Value} {fs:List FN} {x:FN} {ns:List VN} {w:World} (hx:NodeOk fs x) (hk:x.kind=2\/x.kind=3) (hin:FNodeIn B w x kc kn ki) (hs:SE B E fv fs fu 0 w) (hv:NR E w v ns):
  Calls Tryz.prog 71 #[.pointer (some ⟨E,0,none⟩),v,Ym x kc kn ki] w (Qv B E fv fs (Yp x ns).1 (Zd (Yp x ns)) fu w):=by
 have b:=Xer hv.ok
 rcases hk with k|k
 ·by_cases h1:(Xd ns).kind=1
  ·exact Xu8 hx k hin hs hv h1
  by_cases h6:(Xd ns).kind=6
  ·cases hh:Yz (Xd ns).keys x.name
   ·exact Xqo hx k hin hs hv h6 hh
   ·exact Xot hx k hin hs hv h6 hh
  ·exact X1s hx k hin hs hv h1 h6
 ·by_cases h1:(Xd ns).kind=1
  ·exact Xu9 hx k hin hs hv h1
  by_cases h5:(Xd ns).kind=5
  ·by_cases p0:x.place<0
   ·by_cases p1:0<=x.place+((Xe ns).length:Int)
    ·exact Xp9 hx k hin hs hv h5 p0 p1
    ·exact Xop hx k hin hs hv h5 p0 (by omega)
   ·by_cases p1:x.place<((Xe ns).length:Int)
    ·exact Xrt hx k hin hs hv h5 (by omega) p1
    ·exact Xrp hx k hin hs hv h5 (by omega) (by omega)
  ·exact X1t hx k hin hs hv h1 h5
theorem X1e {B E d j n:Nat} {fv v:Value} {fs:List FN} {x:FN} {ns:List VN} {w:World} (hok:okF fs=true) (ho:Qe B E fv fs d) (hx:NodeOk fs x) (k:x.kind=2\/x.kind=3) (hn:n<fs.length) (hxn:Xo fs n=x) (hse:SE B E fv fs (j+1) 0 w) (hv:NR E w v ns) (hj:j<=d) (hd:d<=100000):
  Calls Tryz.prog 35 #[.pointer (some ⟨E,0,none⟩), .int .i64 n,v] w (RunAns B E (100 *(d+2)) fv fs (evM (Xh fs d) x ns Xl (j,[])).1 (evM (Xh fs d) x ns Xl (j,[])).2.2 (evM (Xh fs d) x ns Xl (j,[])).2.1 w):=by
 obtain ⟨W1,W2,t,b0,o0,ba,aC,cC,aK,cK,aI,cI,hp⟩:=Qh hse hn hxn
 obtain ⟨y,q0,q1,q2,z1,bb,p0,s0,s1,s2,s3,s4,s5,z,bc,g1,g2,g3,f,g,b,c,T,hB⟩:=hp
 have bd:=Xa f
 have C:=Xa g
 have D:=Xa b
 have be:=Xa c
 have F:Hid (NR E t v ns):=(hv.but g).below b
 have bf:=Xa hv.ok
 have HO:=Xa ho
 have HX:=Xa hx
 have HE:=Xa T
 obtain ⟨av,cv,rfl⟩:=hv.slice
 obtain ⟨R,q⟩:∃R,evM (Xh fs d) x ns Xl (j,[])=R:=⟨_,rfl⟩
 have bg:=Xa q
 rw[q]
 have G:(n:Int)<(fs.length:Int):=by omega
 have bh:¬((j:Int)+1=0):=by omega
 have bi:(j:Int)<=1000000:=by omega
 obtain ⟨V,o⟩:∃V,fs.length=V:=⟨_,rfl⟩
 rw[o] at q0 p0 G hn
 have y0:=(Xc b (by omega)).trans c.c0
 have y1:=(Xc b (by omega)).trans c.c1
 have y2:=(Xc b (by omega)).trans c.c2
 have y3:=(Xc b (by omega)).trans c.c3
 have y4:=(Xc b (by omega)).trans c.c4
 have y5:=(Xc b (by omega)).trans c.c5
 obtain ⟨s,l⟩:∃s,x.kind=s:=⟨_,rfl⟩
 rw[l] at s0 z y0
 obtain ⟨r,J⟩:∃r,Yp x ns=r:=⟨_,rfl⟩
 have L:Hid (Now R Yh r.1 j (Zd r)):=by
  have X:=Kh (r:=Yp x ns) (fu:=j) (R:=R) (by rw[<-q,Xbu (by omega)])
  rw[J] at X
  exact X
 have Y:Hid (Calls Tryz.prog 71 #[.pointer (some ⟨E,0,none⟩), .slice av ns.length cv, .agg #[.int .i64 x.kind, .string x.name, .int .i64 x.place, .slice aC x.cst.length cC, .slice aK x.names.length cK, .slice aI x.kids.length cI]] t (Qv B E fv fs r.1 (Zd r) j t)):=by
  rw[<-J]
  exact X1d hx k (c.inn.below (b.mono (by omega))) f F.out
 have P:Hid ((Zd r).length<=100 *(d+2)):=by have:=V5 r;unfold Hid;omega
 rw[l] at Y
 have S:s=2\/s=3:=by rw[<-l];exact k
 clear hse hv ho hx hxn hok q y f g b c o l T hB k J
 rcases S with rfl|rfl
 all_goals
  go_enter Tryz.func35,Tryz.ntmps35
  go_wp2_with fail
  refine Y.out.mono ?_
  rintro e w5 Z
  have HA:=Xa (Vf (M:=100 *(d+2)) Z L.out C.out (.of_below D.out) HE.out P.out)
  obtain ⟨sv,xs,rfl,-,-,hl⟩:=Z
  obtain ⟨a5,c5,rfl⟩:=hl.slice
  obtain ⟨L5,p⟩:∃L5,(Zd r).length=L5:=⟨_,rfl⟩
  rw[p] at HA|-
  clear hl p
  go_wp2_with fail
  go_ret
  exact HA.out


theorem X24 {B E d j n:Nat} {fv v:Value} {fs:List FN} {x:FN} {ns:List VN} {w:World} (hok:okF fs=true) (ho:Qe B E fv fs d) (hx:NodeOk fs x) (k:x.kind=23) (hn:n<fs.length) (hxn:Xo fs n=x) (hse:SE B E fv fs (j+1) 0 w) (hv:NR E w v ns) (hj:j<=d) (hd:d<=100000):
  Calls Tryz.prog 35 #[.pointer (some ⟨E,0,none⟩), .int .i64 n,v] w (RunAns B E (100 *(d+2)) fv fs (evM (Xh fs d) x ns Xl (j,[])).1 (evM (Xh fs d) x ns Xl (j,[])).2.2 (evM (Xh fs d) x ns Xl (j,[])).2.1 w):=by
 obtain ⟨W1,W2,W3,b0,o0,bk,aC,cC,aK,cK,aI,cI,hp⟩:=Qh hse hn hxn
 obtain ⟨P,q0,q1,q2,z1,bl,p0,s0,s1,s2,s3,s4,s5,S,bm,g1,g2,g3,g,f,b,c,hE,hB⟩:=hp
 have T:=Xa g
 have V:=Xa f
 have X:=Xa b
 have bn:=Xa c
 have Y:Hid (NR E W3 v ns):=(hv.but f).below b
 have bo:=Xa hv.ok
 have HO:=Xa ho
 have HX:=Xa hx
 have HE:=Xa hE
 obtain ⟨av,cv,rfl⟩:=hv.slice
 obtain ⟨R,L⟩:∃R,evM (Xh fs d) x ns Xl (j,[])=R:=⟨_,rfl⟩
 have bp:=Xa L
 rw[L]
 have Z:(n:Int)<(fs.length:Int):=by omega
 have bq:¬((j:Int)+1=0):=by omega
 have br:(j:Int)<=1000000:=by omega
 obtain ⟨NF,q⟩:∃NF,fs.length=NF:=⟨_,rfl⟩
 rw[q] at q0 p0 Z hn
 have y0:=(Xc b (by omega)).trans c.c0
 have y1:=(Xc b (by omega)).trans c.c1
 have y2:=(Xc b (by omega)).trans c.c2
 have y3:=(Xc b (by omega)).trans c.c3
 have y4:=(Xc b (by omega)).trans c.c4
 have y5:=(Xc b (by omega)).trans c.c5
 obtain ⟨KK,s⟩:∃KK,x.kind=KK:=⟨_,rfl⟩
 rw[s] at s0 S y0
 have ba:=hx.one (.inr k)
 obtain ⟨kb,ko,bi,ek,bs,k4⟩:=c.inn.kids.get (j:=0) (by omega)
 injection ek with ek1 ek2 ek3
 subst ek1 ek3
 obtain ⟨bb,bc⟩:=hx.kid 0 (by omega)
 obtain ⟨p,t⟩:∃p:Nat,Xk x 0=(p:Int):=⟨(Xk x 0).toNat,by omega⟩
 have y:Hid (p<fs.length/\(Xk x 0).toNat=p):=by unfold Hid;omega
 have bt:W3.cell? ⟨kb,ko,none⟩=some (.int .i64 (p:Int)):=by rw[<-t];exact (Xc b (by omega)).trans (by unfold Xk;simpa using k4)
 obtain rfl:KK=23:=by omega
 obtain ⟨r,hr⟩:∃r,Zp (Xh fs d p ns j)=r:=⟨_,rfl⟩
 have bd:Hid (Xar Xl r []=R):=by rw[Hid,<-L,Xxf k,y.out.2,hr]
 have HC:=Xa (Xnq HO.out y.out.1 T.out Y.out hj)
 rw[hr] at HC
 have bu:0<x.kids.length:=by omega
 have bj:(0:Int)<(x.kids.length:Int):=by omega
 clear hse hv ho hx hxn hok L P g f b c q s hE hB k k4 ba bb bc t hr
 go_enter Tryz.func35,Tryz.ntmps35
 go_wp2_with fail
 refine HC.out.mono ?_
 rintro e w4 ⟨sv,xs,m,rfl,z,C,l,D,be⟩
 have F:=Xa (X3a (v:=ns) D bd.out)
 have bf:=Xa z
 have bg:=Xa ((ButE.of_below X.out).trans C)
 have G:=Xa l
 have bh:Hid (m.length<=100 *(d+2)):=by unfold Hid;omega
 obtain ⟨a4,c4,rfl⟩:=l.slice
 obtain ⟨M,hM⟩:∃M,m.length=M:=⟨_,rfl⟩
 have bv:=Xa hM
 rw[hM] at F G|-
 clear z C l D be hM
 go_wp2_with fail
 refine (Zr a4 M c4 bf.out).mono ?_
 rintro e w5 ⟨rfl,J,o⟩
 have HA:=Xa (Qu (M:=100 *(d+2)) (e:= .returned (.slice a4 M c4)) rfl F.out J V.out (bg.out.trans o) (G.out.keep o) (by omega) HE.out bh.out)
 clear J o
 go_wp2_with fail
 go_ret
 exact HA.out


theorem Xu0 {B E d j n:Nat} {fv v:Value} {fs:List FN} {x:FN} {ns:List VN} {w:World} (hok:okF fs=true) (ho:Qe B E fv fs d) (hx:NodeOk fs x) (k:x.kind=10) (hn:n<fs.length) (hxn:Xo fs n=x) (hse:SE B E fv fs (j+1) 0 w) (hv:NR E w v ns) (hj:j<=d) (hd:d<=100000):
  Calls Tryz.prog 35 #[.pointer (some ⟨E,0,none⟩), .int .i64 n,v] w (RunAns B E (100 *(d+2)) fv fs (evM (Xh fs d) x ns Xl (j,[])).1 (evM (Xh fs d) x ns Xl (j,[])).2.2 (evM (Xh fs d) x ns Xl (j,[])).2.1 w):=by
 obtain ⟨W1,W2,W3,b0,o0,cz,aC,cC,aK,cK,aI,cI,hp⟩:=Qh hse hn hxn
 obtain ⟨b9,q0,q1,q2,z1,ca,p0,s0,s1,s2,s3,s4,s5,bi,bj,g1,g2,g3,V,C,f,g,hE,hB⟩:=hp
 have cb:=Xa V
 have cc:=Xa C
 have bk:=Xa f
 have c7:=Xa g
 have bl:Hid (NR E W3 v ns):=(hv.but C).below f
 have c8:=Xa hv.ok
 have HO:=Xa ho
 have HX:=Xa hx
 have HE:=Xa hE
 obtain ⟨av,cv,rfl⟩:=hv.slice
 obtain ⟨R,hR⟩:∃R,evM (Xh fs d) x ns Xl (j,[])=R:=⟨_,rfl⟩
 have c9:=Xa hR
 rw[hR]
 have cd:(n:Int)<(fs.length:Int):=by omega
 have da:¬((j:Int)+1=0):=by omega
 have db:(j:Int)<=1000000:=by omega
 obtain ⟨NF,bm⟩:∃NF,fs.length=NF:=⟨_,rfl⟩
 rw[bm] at q0 p0 cd hn
 have y0:=(Xc f (by omega)).trans g.c0
 have y1:=(Xc f (by omega)).trans g.c1
 have y2:=(Xc f (by omega)).trans g.c2
 have y3:=(Xc f (by omega)).trans g.c3
 have y4:=(Xc f (by omega)).trans g.c4
 have y5:=(Xc f (by omega)).trans g.c5
 obtain ⟨KK,bn⟩:∃KK,x.kind=KK:=⟨_,rfl⟩
 rw[bn] at s0 bi y0
 have bo:Hid (NR E W2 (.slice av ns.length cv) ns):=hv.but C
 have ce:=hx.one (.inl k)
 obtain ⟨kb,ko,cs,ek,dc,k4⟩:=g.inn.kids.get (j:=0) (by omega)
 injection ek with ek1 ek2 ek3
 subst ek1 ek3
 obtain ⟨cf,cg⟩:=hx.kid 0 (by omega)
 obtain ⟨K0,bp⟩:∃K0:Nat,Xk x 0=(K0:Int):=⟨(Xk x 0).toNat,by omega⟩
 have bq:Hid (K0<fs.length/\(Xk x 0).toNat=K0):=by unfold Hid;omega
 have ch:W3.cell? ⟨kb,ko,none⟩=some (.int .i64 (K0:Int)):=by rw[<-bp];exact (Xc f (by omega)).trans (by unfold Xk;simpa using k4)
 obtain rfl:KK=10:=by omega
 obtain ⟨D,J⟩:∃D,Xh fs d K0 ns j=D:=⟨_,rfl⟩
 have dd:=Xa J
 have br:Hid (D.fu<=j):=by rw[Hid,<-J];exact (Ze hok d).le _ _ _ hv.ok
 have bs:Hid (∀m:List (List VN),(D.c=0->m=D.l)->Now R Yh (Zj D.c (Jh m ns m.length).length) D.fu (Jh m ns m.length)):=fun m h=>by
  rw[Xzx]
  exact Xuh (oc:=Xh fs d) (n:=Xk x 0) (fu:=j) (by rw[bq.out.2];exact J) h (by rw[<-hR,Xla k])
 have HC:=Xa (Kp HO.out bq.out.1 cb.out bl.out hj (Below.refl _ _))
 rw[J] at HC
 have ci:Hid (LR E W2.heap.size W3 (.slice (some ⟨w.heap.size+1,0,none⟩) 0 0) [] []):=by rw[Hid,<-bj,<-g2];exact ⟨World.ownsRow_lit W2 #[] 0 (Nat.le_refl _) (by simp[maxLen]) rfl,by omega,fun j hj=>absurd hj (by simp)⟩
 have de:=hE
 have ct:0<x.kids.length:=by omega
 have cu:(0:Int)<(x.kids.length:Int):=by omega
 obtain ⟨i0,cj,ck,cl,cm⟩:=info_parts J8
 obtain ⟨LN,bt⟩:∃LN,ns.length=LN:=⟨_,rfl⟩
 rw[bt] at HC bo bl|-
 clear hse hv ho hx hxn hok hR b9 V C f g bm bn hE hB k k4 ce cf cg bp J bt
 go_enter Tryz.func35,Tryz.ntmps35
 go_wp2_with fail
 refine HC.out.mono ?_
 rintro e w4 ⟨sv,xs,m,rfl,bu,ba,P,bv,cn⟩
 have bw:D.fu<=d:=by have:=br.out;omega
 have p:Hid (Loop B E fv fs d W2 sv xs m D.c D.fu (.slice (some ⟨w.heap.size+1,0,none⟩) 0 0) [] (Jh m ns 0) w4):=
  ⟨bu, (ButE.of_below bk.out).trans ba, ci.out.keep ba, P.low bk.out.size (by have := HE.out; omega), by
   cases e3:sv.ownBlock with
   |none=>exact .inl rfl
   |some y=>exact .inr (by have:=(P.row.lt _ e3).1;simp only[Value.ownBlock];intro e4;injection e4 with e4;omega),by simp[Xkz,Xk0],bw⟩
 obtain ⟨a4,c4,rfl⟩:=P.slice
 obtain ⟨M,hM⟩:∃M,m.length=M:=⟨_,rfl⟩
 have S:=Xa hM
 have df:M<=20000000:=by omega
 have dg:M<=100 *(d+1):=by omega
 have cp:=Xa bv
 have cq:=Xa g2
 have dh:=Xa g3
 rw[hM] at p|-
 clear bu ba P bv cn hM g1 g2 g3 y0 y1 y2 y3 y4 y5 ca bi bj s0 s1 s2 s3 s4 s5 p0 q0 q1 q2 z1 ch
 go_wp2_with fail
 go_loopw [8,14] (fun o i wr=>∃(k:Nat) (T:List Value),k<=M/\i= .int .i64 k/\Loop B E fv fs d W2 (.slice a4 M c4) xs m D.c D.fu o T (Jh m ns k) wr) (fun _ i _=>M-(intOf i).toNat)
 case atStart=>exact ⟨0,[],Nat.zero_le _,rfl,p.out⟩
 case round=>
  obtain ⟨k,T,hk,rfl,F⟩:=hrel
  have p:=Xa F
  obtain ⟨ao,co,rfl⟩:=F.lo.slice
  have zs:=F.but.size
  have bx:=Xzy m ns k
  by_cases hlt:k<M
  ·have cw:(k:Int)<(M:Int):=by omega
   obtain ⟨b,ax,cx,rfl,di,t,bb⟩:=F.la.cell (j:=k) (by rw[S.out];exact hlt)
   have bz:=Xa bb
   have bc:=Xa (Xb5 bb)
   obtain ⟨tb,bd⟩:∃tb,Xu (Xn m k)=tb:=⟨_,rfl⟩
   have b1:=Xa bd
   rw[bd] at bc
   obtain ⟨LX,b2⟩:∃LX,(Xn m k).length=LX:=⟨_,rfl⟩
   obtain ⟨X,hO⟩:∃X,(Jh m ns k).length=X:=⟨_,rfl⟩
   have be:=Xa hO
   rw[b2] at t bc bz
   rw[hO] at p bx|-
   clear F bb bd b2 hO
   go_wp2_with fail
   refine bc.out.mono ?_
   rintro e w3 ⟨rfl,G⟩
   have s:=Xa (p.out.keep (.of_below G) (p.out.se.below G) p.out.fud)
   have cy:=Xa (bz.out.below G)
   have b8:=(Xc G (X7 t)).trans t
   have z3:=G.size
   clear G
   cases tb
   ·have bf:Hid (Jh m ns (k+1)=Jh m ns k):=X2u (by rw[S.out];exact hlt) b1.out
    go_wp2_with fail
    go_roundw
    case rel=>exact ⟨k+1,T,by omega,by go_num,by rw[bf.out];exact s.out⟩
    case measure=>simp[intOf];omega
   ·have bf:Hid (Jh m ns (k+1)=Jh m ns k++ [ns]):=Xzw (by rw[S.out];exact hlt) b1.out
    have z:=s.out.lo.row
    rw[be.out] at z
    go_wp2_with (at_builtin;refine wpList_append_own_at _ rfl _ _ 28 rfl W2.heap.size 25 i0 (.slice none 0 0) 1 24 Tryz.underlying28 cj ck cl cm rfl (by decide) _ X T rfl (z.alloc _) ⟨w3.heap.size,0,none⟩ 1 1 [.slice av LN cv] rfl rfl ?c1 ?c2 ?c3 ?c4 ?c5 ?_)
    case c1=>exact cell_one_new _ _ _
    case c2=>intro u hu;simp at hu;subst hu;rfl
    case c3=>unfold maxLen;omega
    case c4=>omega
    case c5=>simp;omega
    intro v6 w6 q b3 _ Y
    have bg:Below w3.heap.size w3 (w3.alloc (.cells #[.slice av LN cv] 25)):=(Below.refl _ _).alloc (Nat.le_refl _) _
    have L:=s.out.keep (.of_below bg) (s.out.se.below bg) s.out.fud
    rw[<-be.out] at q
    have Z:=Xa (L.app (xs5:= [.slice av LN cv]) (m5:= [ns]) rfl (Xn7 (bo.out.but L.but)) q b3 (by simpa using Y) (by rw[be.out];simp;omega))
    obtain ⟨a6,c6,e6⟩:=Xg q
    obtain ⟨b4,b5⟩:∃b4,(Jh m ns k).length+1=b4:=⟨_,rfl⟩
    rw[b5] at e6
    subst e6
    rw[<-bf.out] at Z
    clear q b3 L z bg b5 Y
    go_wp2_with fail
    go_roundw
    case rel=>exact ⟨k+1,_,by omega,by go_num,Z.out⟩
    case measure=>simp[intOf];omega
  ·obtain rfl:k=M:=by omega
   have b6:Hid (Now R Yh (Zj D.c (Jh m ns k).length) D.fu (Jh m ns k)):=by have h1:=bs.out m cp.out;rw[S.out] at h1;exact h1
   have cr:Hid ((Jh m ns k).length<=100 *(d+2)):=by unfold Hid;omega
   obtain ⟨X,hO⟩:∃X,(Jh m ns k).length=X:=⟨_,rfl⟩
   rw[hO] at p b6 bx|-
   clear F hO
   go_wp2_with fail
   refine (Zr ao X co p.out.se).mono ?_
   rintro e w5 ⟨rfl,b7,bh⟩
   have HA:=Xa (Qu (M:=100 *(d+2)) (e:= .returned (.slice ao X co)) rfl b6.out b7 cc.out (p.out.but.trans bh) (p.out.lo.keep bh) (by have:=cq.out;omega) HE.out cr.out)
   clear b7 bh
   go_wp2_with fail
   go_ret
   exact HA.out


theorem X18 {B E d j n:Nat} {fv v:Value} {fs:List FN} {x:FN} {ns:List VN} {w:World} (hok:okF fs=true) (ho:Qe B E fv fs d) (hx:NodeOk fs x) (k:x.kind=6) (hn:n<fs.length) (hxn:Xo fs n=x) (hse:SE B E fv fs (j+1) 0 w) (hv:NR E w v ns) (hj:j<=d) (hd:d<=100000):
  Calls Tryz.prog 35 #[.pointer (some ⟨E,0,none⟩), .int .i64 n,v] w (RunAns B E (100 *(d+2)) fv fs (evM (Xh fs d) x ns Xl (j,[])).1 (evM (Xh fs d) x ns Xl (j,[])).2.2 (evM (Xh fs d) x ns Xl (j,[])).2.1 w):=by
 obtain ⟨W1,W2,W3,b0,o0,dx,aC,cC,aK,cK,aI,cI,hp⟩:=Qh hse hn hxn
 obtain ⟨cp,q0,q1,q2,z1,cq,p0,s0,s1,s2,s3,s4,s5,bt,bu,g1,g2,g3,be,S,f,g,hE,hB⟩:=hp
 have cr:=Xa be
 have bv:=Xa S
 have bw:=Xa f
 have cs:=Xa g
 have ct:Hid (NR E W3 v ns):=(hv.but S).below f
 have dy:=Xa hv.ok
 have HO:=Xa ho
 have HX:=Xa hx
 have HE:=Xa hE
 obtain ⟨av,cv,rfl⟩:=hv.slice
 obtain ⟨R,hR⟩:∃R,evM (Xh fs d) x ns Xl (j,[])=R:=⟨_,rfl⟩
 have dz:=Xa hR
 rw[hR]
 have cu:(n:Int)<(fs.length:Int):=by omega
 have d0:¬((j:Int)+1=0):=by omega
 have d1:(j:Int)<=1000000:=by omega
 obtain ⟨NF,bx⟩:∃NF,fs.length=NF:=⟨_,rfl⟩
 rw[bx] at q0 p0 cu hn
 have y0:=(Xc f (by omega)).trans g.c0
 have y1:=(Xc f (by omega)).trans g.c1
 have y2:=(Xc f (by omega)).trans g.c2
 have y3:=(Xc f (by omega)).trans g.c3
 have y4:=(Xc f (by omega)).trans g.c4
 have y5:=(Xc f (by omega)).trans g.c5
 obtain ⟨KK,bz⟩:∃KK,x.kind=KK:=⟨_,rfl⟩
 rw[bz] at s0 bt y0
 have cw:=hx.two (.inl k)
 obtain ⟨kb,ko,dp,ek,d2,k4⟩:=g.inn.kids.get (j:=0) (by omega)
 injection ek with bk ek2 ek3
 subst bk ek3
 obtain ⟨cy,cz⟩:=hx.kid 0 (by omega)
 obtain ⟨K0,b1⟩:∃K0:Nat,Xk x 0=(K0:Int):=⟨(Xk x 0).toNat,by omega⟩
 have b2:Hid (K0<fs.length/\(Xk x 0).toNat=K0):=by unfold Hid;omega
 have c7:W3.cell? ⟨kb,ko,none⟩=some (.int .i64 (K0:Int)):=by rw[<-b1];exact (Xc f (by omega)).trans (by unfold Xk;simpa using k4)
 have ba:=(show IntsAt B W2 _ x.kids from g.inn.kids).get (j:=1) (by omega)
 obtain ⟨d3,d4,c8,bk,dq,ba⟩:=ba
 injection bk with eb1 eb2 eb3
 injection eb1 with eb1
 injection eb1 with eb1 eb4 eb5
 clear eb2 eb3 eb5
 subst eb1 eb4
 obtain ⟨b3,b4⟩:=hx.kid 1 (by omega)
 obtain ⟨K1,b5⟩:∃K1:Nat,Xk x 1=(K1:Int):=⟨(Xk x 1).toNat,by omega⟩
 have b6:Hid (K1<fs.length/\(Xk x 1).toNat=K1):=by unfold Hid;omega
 have c9:W2.cell? ⟨kb,ko+1,none⟩=some (.int .i64 (K1:Int)):=by rw[<-b5];exact ba
 obtain rfl:KK=6:=by omega
 obtain ⟨r0,bb⟩:∃r0,Xh fs d K0 ns j=r0:=⟨_,rfl⟩
 have da:=Xa bb
 have b7:Hid (r0.fu<=j):=by rw[Hid,<-bb];exact (Ze hok d).le _ _ _ hv.ok
 have db:Hid (∀n ns fu,okB ns=true->(Xh fs d n ns fu).fu<=fu):=(Ze hok d).le
 have dc:Hid (Xp (Xh fs d) (Xk x 0) ns (fun y=>Xp (Xh fs d) (Xk x 1) y Xl) (j,[])=R):=by rw[Hid,<-hR,Xsl k]
 have HC:=Xa (Kp HO.out b2.out.1 cr.out ct.out hj (Below.refl _ _))
 rw[bb] at HC
 have dd:Hid (LR E W2.heap.size W3 (.slice (some ⟨w.heap.size+1,0,none⟩) 0 0) [] []):=by rw[Hid,<-bu,<-g2];exact ⟨World.ownsRow_lit W2 #[] 0 (Nat.le_refl _) (by simp[maxLen]) rfl,by omega,fun j hj=>absurd hj (by simp)⟩
 have d5:=hE
 have b8:kb≠E:=by omega
 have q:1<x.kids.length:=by omega
 have dr:(1:Int)<(x.kids.length:Int):=by omega
 have ds:0<x.kids.length:=by omega
 have dt:(0:Int)<(x.kids.length:Int):=by omega
 obtain ⟨i0,de,df,dg,dh⟩:=info_parts J8
 clear hse hv ho hx hxn hok hR cp be S f g bx bz hE hB k k4 cw cy cz b1 bb b5 ba b3 b4
 go_enter Tryz.func35,Tryz.ntmps35
 go_wp2_with fail
 refine HC.out.mono ?_
 rintro e w4 ⟨sv,xs,m,rfl,b9,bl,bc,ca,di⟩
 have dj:=Xa (Xdv (v:=ns) (h:=(fun y=>Xp (Xh fs d) (Xk x 1) y Xl)) (by rw[b2.out.2];exact da.out) ca dc.out)
 have cb:r0.fu<=d:=by have:=b7.out;omega
 have p:Hid (Loop B E fv fs d W2 sv xs m r0.c r0.fu (.slice (some ⟨w.heap.size+1,0,none⟩) 0 0) [] [] w4):=
  ⟨b9, (ButE.of_below bw.out).trans bl, dd.out.keep bl, bc.low bw.out.size (by have := HE.out; omega), by
   cases e3:sv.ownBlock with
   |none=>exact .inl rfl
   |some y=>exact .inr (by have:=(bc.row.lt _ e3).1;simp only[Value.ownBlock];intro e4;injection e4 with e4;omega),by simp,cb⟩
 obtain ⟨a4,c4,rfl⟩:=bc.slice
 obtain ⟨M,hM⟩:∃M,m.length=M:=⟨_,rfl⟩
 have bm:=Xa hM
 have d6:M<=20000000:=by omega
 have cc:=Xa g2
 have d7:=Xa g3
 rw[hM] at p|-
 clear b9 bl bc ca di hM g1 g2 g3 y0 y1 y2 y3 y4 y5 cq bt bu s0 s1 s2 s3 s4 s5 p0 q0 q1 q2 z1 c7
 go_wp2_with fail
 go_loopw [8,10] (fun o i wr=>∃(k:Nat) (c:Int) (fu:Nat) (bn:List Value) (s:List (List VN)),k<=M/\i= .int .i64 k/\Hid (Now R (fun st=>Y3 (Xq (fun y=>Xp (Xh fs d) (Xk x 1) y Xl) (m.drop k) st) Yh) c fu s)/\Loop B E fv fs d W2 (.slice a4 M c4) xs m c fu o bn s wr) (fun _ i _=>M-(intOf i).toNat)
 case atStart=>exact ⟨0,r0.c,r0.fu,[],[],Nat.zero_le _,rfl,dj.out,p.out⟩
 case round=>
  obtain ⟨k,c,fu,bn,s,hk,rfl,t,q⟩:=hrel
  have du:=Xa t
  have p:=Xa q
  obtain ⟨ao,co,rfl⟩:=q.lo.slice
  obtain ⟨_,_,q2,_,_⟩:=q.se.cells
  have zs:=q.but.size
  have y5:=q.but.cellE (by omega) cs.out.c5
  have dv:=q.but.cellE b8 c9
  by_cases hlt:k<M
  ·have dw:(k:Int)<(M:Int):=by omega
   by_cases h0:c=0
   ·subst h0
    obtain ⟨cd,bf⟩:=t.next rfl (by rw[bm.out];exact hlt)
    obtain ⟨b,ax,cx,rfl,d8,bo,bp⟩:=q.la.cell (j:=k) (by rw[bm.out];exact hlt)
    obtain ⟨T,bd⟩:∃T,Xh fs d K1 (Xn m k) fu=T:=⟨_,rfl⟩
    have ce:Hid (∀W,Below wr.heap.size wr W->Calls Tryz.prog 35 #[.pointer (some ⟨E,0,none⟩), .int .i64 K1, .slice ax (Xn m k).length cx] W (RunAns B E (100 *(d+1)) fv fs T.c T.l T.fu wr)):=fun W hb=>by
     rw[<-bd]
     exact Kp HO.out b6.out.1 q.se bp q.fud hb
    have cf:Hid (T.fu<=d):=by have h1:=db.out K1 (Xn m k) fu bp.ok;rw[bd] at h1;exact Nat.le_trans h1 q.fud
    have cg:Hid (∀m5:List (List VN),(T.c=0->m5=T.l)->Now R (fun st=>Y3 (Xq (fun y=>Xp (Xh fs d) (Xk x 1) y Xl) (m.drop (k+1)) st) Yh) (Zj T.c (s.length+m5.length)) T.fu (s++m5)):=fun m5 h5=>Ui bf h5 (by rw[cd,Uj (r:=T) (by rw[b6.out.2];exact bd)])
    obtain ⟨LX,ch⟩:∃LX,(Xn m k).length=LX:=⟨_,rfl⟩
    obtain ⟨J,hO⟩:∃J,s.length=J:=⟨_,rfl⟩
    have bq:=Xa hO
    have dk:J<=40:=by omega
    rw[ch] at bo ce
    rw[hO] at p|-
    clear t q cd bf bp bd ch hO
    go_wp2_with fail
    go_region_law (first
     |(refine Xq7 (by rfl) 35 _ _ _ _ _ _ (by rfl) (.pointer (some ⟨E,0,none⟩)) (.int .i64 (K1:Int)) (.slice ax LX cx) (by rfl) (by rfl) (by rfl) (X1n _ _ _) (ce.out _ (by first|exact Below.refl _ _|exact (Below.refl _ _).drew)) ?_;rintro e w5 ⟨d9,dl,m5,rfl,z,C,P,ci,dm⟩;have L:=p.out.keep C z cf.out;have F:=L.lo.row;rw[bq.out] at F;have G:=P.len;have V:=P.ones;have bg:=P.inn;obtain ⟨a5,c5,rfl⟩:=P.slice;have X:=P.src;have fa:=L.but.size;refine ⟨_,rfl, ?_⟩)
     |(refine Zk (by rfl) _ _ 28 (by rfl) W2.heap.size 25 i0 (.slice none 0 0) 1 24 Tryz.underlying28 de df dg dh rfl (by decide) _ J bn (by rfl) F a5 m5.length c5 dl (by rfl) (by rw[G,Nat.mul_one]) X V (by unfold maxLen;omega) (by omega) (by omega) ?_;intro v6 w6 D cj bh))
    all_goals
     rw[<-bq.out] at D
     have bi:=Xa (L.app G bg D cj bh (by rw[bq.out];omega))
     have bj:=Xa (cg.out m5 ci)
     obtain ⟨a6,c6,e6⟩:=Xg D
     obtain ⟨br,ck⟩:∃br,s.length+m5.length=br:=⟨_,rfl⟩
     rw[ck] at e6 bj
     subst e6
     clear D cj bh L G bg V F X z C P ci dm ck
     go_wp2_with fail
     refine (Zr a6 br c6 bi.out.se).mono ?_
     rintro e w7 ⟨rfl,cl,cm⟩
     have cn:=Xa (bi.out.keep cm cl cf.out)
     clear cl cm
     go_wp2_with fail
     go_roundw
     case rel=>exact ⟨k+1,_,_,_,_,by omega,by go_num,bj.out,cn.out⟩
     case measure=>simp[intOf];omega
   ·have q0:(c==0)=false:=by simpa using h0
    have Y:Hid (Now R Yh c fu s):=t.dead h0 _ _
    have Z:=Xa Y.out.many
    have bs:Hid (s.length<=100 *(d+2)):=by have:=p.out.few;unfold Hid;omega
    obtain ⟨J,hO⟩:∃J,s.length=J:=⟨_,rfl⟩
    rw[hO] at p Z|-
    clear h0
    clear t q hO
    go_wp2_with fail
    refine (Zr ao J co p.out.se).mono ?_
    rintro e w5 ⟨rfl,z,C⟩
    rw[Z.out] at z
    have HA:=Xa (Qu (M:=100 *(d+2)) (e:= .returned (.slice ao J co)) rfl Y.out z bv.out (p.out.but.trans C) (p.out.lo.keep C) (by have:=cc.out;omega) HE.out bs.out)
    clear z C
    go_wp2_with fail
    go_ret
    exact HA.out
  ·obtain rfl:k=M:=by omega
   have Y:Hid (Now R Yh c fu s):=t.over (by rw[bm.out];exact Nat.le_refl _)
   have Z:=Xa Y.out.many
   have bs:Hid (s.length<=100 *(d+2)):=by have:=p.out.few;unfold Hid;omega
   obtain ⟨J,hO⟩:∃J,s.length=J:=⟨_,rfl⟩
   rw[hO] at p Z|-
   clear t q hO
   go_wp2_with fail
   refine (Zr ao J co p.out.se).mono ?_
   rintro e w5 ⟨rfl,z,C⟩
   rw[Z.out] at z
   have HA:=Xa (Qu (M:=100 *(d+2)) (e:= .returned (.slice ao J co)) rfl Y.out z bv.out (p.out.but.trans C) (p.out.lo.keep C) (by have:=cc.out;omega) HE.out bs.out)
   clear z C
   go_wp2_with fail
   go_ret
   exact HA.out


theorem X37 {B E d j n:Nat} {fv v:Value} {fs:List FN} {x:FN} {ns:List VN} {w:World} (hok:okF fs=true) (ho:Qe B E fv fs d) (hx:NodeOk fs x) (k:x.kind=22) (hn:n<fs.length) (hxn:Xo fs n=x) (hse:SE B E fv fs (j+1) 0 w) (hv:NR E w v ns) (hj:j<=d) (hd:d<=100000):
  Calls Tryz.prog 35 #[.pointer (some ⟨E,0,none⟩), .int .i64 n,v] w (RunAns B E (100 *(d+2)) fv fs (evM (Xh fs d) x ns Xl (j,[])).1 (evM (Xh fs d) x ns Xl (j,[])).2.2 (evM (Xh fs d) x ns Xl (j,[])).2.1 w):=by
 obtain ⟨W1,W2,W3,b0,o0,fn,aC,cC,aK,cK,aI,cI,hp⟩:=Qh hse hn hxn
 obtain ⟨dr,q0,q1,q2,z1,ds,p0,s0,s1,s2,s3,s4,s5,cg,ch,g1,g2,g3,b1,bf,t,p,hE,hB⟩:=hp
 have dt:=Xa b1
 have ci:=Xa bf
 have cj:=Xa t
 have b4:=Xa p
 have du:Hid (NR E W3 v ns):=(hv.but bf).below t
 have ck:=Xa hv.ok
 have HO:=Xa ho
 have HX:=Xa hx
 have HE:=Xa hE
 obtain ⟨av,cv,rfl⟩:=hv.slice
 obtain ⟨R,hR⟩:∃R,evM (Xh fs d) x ns Xl (j,[])=R:=⟨_,rfl⟩
 have fo:=Xa hR
 rw[hR]
 have dv:(n:Int)<(fs.length:Int):=by omega
 have fp:¬((j:Int)+1=0):=by omega
 have fq:(j:Int)<=1000000:=by omega
 obtain ⟨NF,cl⟩:∃NF,fs.length=NF:=⟨_,rfl⟩
 rw[cl] at q0 p0 dv hn
 have y0:=(Xc t (by omega)).trans p.c0
 have y1:=(Xc t (by omega)).trans p.c1
 have y2:=(Xc t (by omega)).trans p.c2
 have y3:=(Xc t (by omega)).trans p.c3
 have y4:=(Xc t (by omega)).trans p.c4
 have y5:=(Xc t (by omega)).trans p.c5
 obtain ⟨KK,cm⟩:∃KK,x.kind=KK:=⟨_,rfl⟩
 rw[cm] at s0 cg y0
 have cn:Hid (NR E W2 (.slice av ns.length cv) ns):=hv.but bf
 have dw:=hx.three k
 obtain ⟨kb,ko,fc,ek,fr,k4⟩:=p.inn.kids.get (j:=0) (by omega)
 injection ek with b5 cw ek3
 subst b5 ek3
 obtain ⟨dx,dy⟩:=hx.kid 0 (by omega)
 obtain ⟨K0,cp⟩:∃K0:Nat,Xk x 0=(K0:Int):=⟨(Xk x 0).toNat,by omega⟩
 have cq:Hid (K0<fs.length/\(Xk x 0).toNat=K0):=by unfold Hid;omega
 have dz:W3.cell? ⟨kb,ko,none⟩=some (.int .i64 (K0:Int)):=by rw[<-cp];exact (Xc t (by omega)).trans (by unfold Xk;simpa using k4)
 have bu:=(show IntsAt B W2 _ x.kids from p.inn.kids).get (j:=1) (by omega)
 obtain ⟨ft,fw,d0,b5,fd,bu⟩:=bu
 injection b5 with eb1 eb2 eb3
 injection eb1 with eb1
 injection eb1 with eb1 eb4 eb5
 clear eb2 eb3 eb5
 subst eb1 eb4
 obtain ⟨cr,cs⟩:=hx.kid 1 (by omega)
 obtain ⟨K1,ct⟩:∃K1:Nat,Xk x 1=(K1:Int):=⟨(Xk x 1).toNat,by omega⟩
 have cu:Hid (K1<fs.length/\(Xk x 1).toNat=K1):=by unfold Hid;omega
 have b6:W2.cell? ⟨kb,ko+1,none⟩=some (.int .i64 (K1:Int)):=by rw[<-ct];exact bu
 have bv:=(show IntsAt B W2 _ x.kids from p.inn.kids).get (j:=2) (by omega)
 obtain ⟨fx,fy,d1,cw,fe,bv⟩:=bv
 injection cw with eb1 eb2 eb3
 injection eb1 with eb1
 injection eb1 with eb1 eb4 eb5
 clear eb2 eb3 eb5
 subst eb1 eb4
 obtain ⟨cy,cz⟩:=hx.kid 2 (by omega)
 obtain ⟨K2,c7⟩:∃K2:Nat,Xk x 2=(K2:Int):=⟨(Xk x 2).toNat,by omega⟩
 have c8:Hid (K2<fs.length/\(Xk x 2).toNat=K2):=by unfold Hid;omega
 have d2:W2.cell? ⟨kb,ko+2,none⟩=some (.int .i64 (K2:Int)):=by rw[<-c7];exact bv
 obtain rfl:KK=22:=by omega
 obtain ⟨r0,bw⟩:∃r0,Xh fs d K0 ns j=r0:=⟨_,rfl⟩
 have d3:=Xa bw
 have c9:Hid (r0.fu<=j):=by rw[Hid,<-bw];exact (Ze hok d).le _ _ _ hv.ok
 have da:Hid (∀n ns X,okB ns=true->(Xh fs d n ns X).fu<=X):=(Ze hok d).le
 have d4:Hid (Xp (Xh fs d) (Xk x 0) ns (fun y=>if Xu y=true then Xp (Xh fs d) (Xk x 1) ns Xl else Xp (Xh fs d) (Xk x 2) ns Xl) (j,[])=R):=by rw[Hid,<-hR,X2c k]
 have HC:=Xa (Kp HO.out cq.out.1 dt.out du.out hj (Below.refl _ _))
 rw[bw] at HC
 have d5:Hid (LR E W2.heap.size W3 (.slice (some ⟨w.heap.size+1,0,none⟩) 0 0) [] []):=by rw[Hid,<-ch,<-g2];exact ⟨World.ownsRow_lit W2 #[] 0 (Nat.le_refl _) (by simp[maxLen]) rfl,by omega,fun j hj=>absurd hj (by simp)⟩
 have fz:=hE
 have bg:kb≠E:=by omega
 have L:2<x.kids.length:=by omega
 have ff:(2:Int)<(x.kids.length:Int):=by omega
 have z:1<x.kids.length:=by omega
 have fg:(1:Int)<(x.kids.length:Int):=by omega
 have fh:0<x.kids.length:=by omega
 have fi:(0:Int)<(x.kids.length:Int):=by omega
 obtain ⟨i0,db,dc,dd,de⟩:=info_parts J8
 clear hse hv ho hx hxn hok hR dr b1 bf t p cl cm hE hB k k4 dw dx dy cp bw ct bu cr cs c7 bv cy cz
 go_enter Tryz.func35,Tryz.ntmps35
 go_wp2_with fail
 refine HC.out.mono ?_
 rintro e w4 ⟨sv,xs,m,rfl,df,b7,bx,dg,d6⟩
 have d7:=Xa (Xdv (v:=ns) (h:=(fun y=>if Xu y=true then Xp (Xh fs d) (Xk x 1) ns Xl else Xp (Xh fs d) (Xk x 2) ns Xl)) (by rw[cq.out.2];exact d3.out) dg d4.out)
 have dh:r0.fu<=d:=by have:=c9.out;omega
 have q:Hid (Loop B E fv fs d W2 sv xs m r0.c r0.fu (.slice (some ⟨w.heap.size+1,0,none⟩) 0 0) [] [] w4):=
  ⟨df, (ButE.of_below cj.out).trans b7, d5.out.keep b7, bx.low cj.out.size (by have := HE.out; omega), by
   cases e3:sv.ownBlock with
   |none=>exact .inl rfl
   |some y=>exact .inr (by have:=(bx.row.lt _ e3).1;simp only[Value.ownBlock];intro e4;injection e4 with e4;omega),by simp,dh⟩
 obtain ⟨a4,c4,rfl⟩:=bx.slice
 obtain ⟨M,hM⟩:∃M,m.length=M:=⟨_,rfl⟩
 have b8:=Xa hM
 have f0:M<=20000000:=by omega
 have di:=Xa g2
 have f1:=Xa g3
 rw[hM] at q|-
 clear df b7 bx dg d6 hM g1 g2 g3 y0 y1 y2 y3 y4 y5 ds cg ch s0 s1 s2 s3 s4 s5 p0 q0 q1 q2 z1 dz
 go_wp2_with fail
 go_loopw [8,22] (fun o i wr=>∃(k:Nat) (c:Int) (X:Nat) (bz:List Value) (s:List (List VN)),k<=M/\i= .int .i64 k/\Hid (Now R (fun st=>Y3 (Xq (fun y=>if Xu y=true then Xp (Xh fs d) (Xk x 1) ns Xl else Xp (Xh fs d) (Xk x 2) ns Xl) (m.drop k) st) Yh) c X s)/\Loop B E fv fs d W2 (.slice a4 M c4) xs m c X o bz s wr) (fun _ i _=>M-(intOf i).toNat)
 case atStart=>exact ⟨0,r0.c,r0.fu,[],[],Nat.zero_le _,rfl,d7.out,q.out⟩
 case round=>
  obtain ⟨k,c,X,bz,s,hk,rfl,P,L⟩:=hrel
  have fj:=Xa P
  have q:=Xa L
  obtain ⟨ao,co,rfl⟩:=L.lo.slice
  obtain ⟨_,_,q2,_,_⟩:=L.se.cells
  have zs:=L.but.size
  have y5:=L.but.cellE (by omega) b4.out.c5
  have fk:=L.but.cellE bg d2
  by_cases hlt:k<M
  ·have fl:(k:Int)<(M:Int):=by omega
   by_cases h0:c=0
   ·subst h0
    obtain ⟨dj,b2⟩:=P.next rfl (by rw[b8.out];exact hlt)
    have dk:=Xa dj
    have b3:=Xa b2
    obtain ⟨b,ax,cx,rfl,f2,b9,dl⟩:=L.la.cell (j:=k) (by rw[b8.out];exact hlt)
    have ca:=Xa (Xb5 dl)
    obtain ⟨tb,cb⟩:∃tb,Xu (Xn m k)=tb:=⟨_,rfl⟩
    have dm:=Xa cb
    rw[cb] at ca
    obtain ⟨LX,dp⟩:∃LX,(Xn m k).length=LX:=⟨_,rfl⟩
    obtain ⟨OL,hO⟩:∃OL,s.length=OL:=⟨_,rfl⟩
    have bh:=Xa hO
    have d8:OL<=40:=by omega
    rw[dp] at b9 ca
    rw[hO] at q|-
    have fm:=L.but.cellE bg b6
    clear P L dj b2 dl cb dp hO
    go_wp2_with fail
    refine ca.out.mono ?_
    rintro e w3 ⟨rfl,cc⟩
    have f:=Xa (q.out.keep (.of_below cc) (q.out.se.below cc) q.out.fud)
    clear cc
    cases tb
    ·have bi:Hid (∀W,Below w3.heap.size w3 W->Calls Tryz.prog 35 #[.pointer (some ⟨E,0,none⟩), .int .i64 K2, .slice av ns.length cv] W (RunAns B E (100 *(d+1)) fv fs (Xh fs d K2 ns X).c (Xh fs d K2 ns X).l (Xh fs d K2 ns X).fu w3)):=fun W hb=>Kp HO.out c8.out.1 f.out.se ((cn.out.but f.out.but)) f.out.fud hb
     obtain ⟨Y,V⟩:∃Y,Xh fs d K2 ns X=Y:=⟨_,rfl⟩
     rw[V] at bi
     have bj:Hid (Y.fu<=d):=by have h1:=da.out K2 ns X ck.out;rw[V] at h1;exact Nat.le_trans h1 f.out.fud
     have bk:Hid (∀Z:List (List VN),(Y.c=0->Z=Y.l)->Now R (fun st=>Y3 (Xq (fun y=>if Xu y=true then Xp (Xh fs d) (Xk x 1) ns Xl else Xp (Xh fs d) (Xk x 2) ns Xl) (m.drop (k+1)) st) Yh) (Zj Y.c (s.length+Z.length)) Y.fu (s++Z)):=fun Z h5=>Ui b3.out h5 (by have h1:=dk.out;simp only[dm.out,Bool.false_eq_true,if_false] at h1;rw[Uj (r:=Y) (by rw[c8.out.2];exact V)] at h1;exact h1)
     have bl:=Xa (bi.out w3 (Below.refl _ _))
     have dq:=f.out.but.cellE bg b6
     have d9:=f.out.but.cellE (show w.heap.size≠E by omega) b4.out.c5
     clear V
     go_wp2_with fail
     refine bl.out.mono ?_
     rintro e w5 ⟨fa,cd,Z,rfl,F,G,J,bm,ce⟩
     have z:=f.out.keep G F bj.out
     have C:=z.lo.row
     rw[bh.out] at C
     have D:=J.len
     have S:=J.ones
     have ba:=J.inn
     obtain ⟨a5,c5,rfl⟩:=J.slice
     have T:=J.src
     have fb:=z.but.size
     go_wp2_with (at_builtin;refine Yd rfl _ _ 28 rfl W2.heap.size 25 i0 (.slice none 0 0) 1 24 Tryz.underlying28 db dc dd de rfl (by decide) _ OL bz rfl C a5 Z.length c5 cd rfl (by rw[D,Nat.mul_one]) T S (by unfold maxLen;omega) (by omega) (by omega) ?_)
     intro v6 w6 g bn bb
     rw[<-bh.out] at g
     have bc:=Xa (z.app D ba g bn bb (by rw[bh.out];omega))
     have bd:=Xa (bk.out Z bm)
     obtain ⟨a6,c6,e6⟩:=Xg g
     obtain ⟨be,bo⟩:∃be,s.length+Z.length=be:=⟨_,rfl⟩
     rw[bo] at e6 bd
     subst e6
     clear g bn bb z D ba S C T F G J bm ce bo
     go_wp2_with fail
     refine (Zr a6 be c6 bc.out.se).mono ?_
     rintro e w7 ⟨rfl,bp,bq⟩
     have br:=Xa (bc.out.keep bq bp bj.out)
     clear bp bq
     go_wp2_with fail
     go_roundw
     case rel=>exact ⟨k+1,_,_,_,_,by omega,by go_num,bd.out,br.out⟩
     case measure=>simp[intOf];omega
    ·have bi:Hid (∀W,Below w3.heap.size w3 W->Calls Tryz.prog 35 #[.pointer (some ⟨E,0,none⟩), .int .i64 K1, .slice av ns.length cv] W (RunAns B E (100 *(d+1)) fv fs (Xh fs d K1 ns X).c (Xh fs d K1 ns X).l (Xh fs d K1 ns X).fu w3)):=fun W hb=>Kp HO.out cu.out.1 f.out.se ((cn.out.but f.out.but)) f.out.fud hb
     obtain ⟨Y,V⟩:∃Y,Xh fs d K1 ns X=Y:=⟨_,rfl⟩
     rw[V] at bi
     have bj:Hid (Y.fu<=d):=by have h1:=da.out K1 ns X ck.out;rw[V] at h1;exact Nat.le_trans h1 f.out.fud
     have bk:Hid (∀Z:List (List VN),(Y.c=0->Z=Y.l)->Now R (fun st=>Y3 (Xq (fun y=>if Xu y=true then Xp (Xh fs d) (Xk x 1) ns Xl else Xp (Xh fs d) (Xk x 2) ns Xl) (m.drop (k+1)) st) Yh) (Zj Y.c (s.length+Z.length)) Y.fu (s++Z)):=fun Z h5=>Ui b3.out h5 (by have h1:=dk.out;simp only[dm.out,if_true] at h1;rw[Uj (r:=Y) (by rw[cu.out.2];exact V)] at h1;exact h1)
     have bl:=Xa (bi.out w3 (Below.refl _ _))
     have dq:=f.out.but.cellE bg b6
     have d9:=f.out.but.cellE (show w.heap.size≠E by omega) b4.out.c5
     clear V
     go_wp2_with fail
     refine bl.out.mono ?_
     rintro e w5 ⟨fa,cd,Z,rfl,F,G,J,bm,ce⟩
     have z:=f.out.keep G F bj.out
     have C:=z.lo.row
     rw[bh.out] at C
     have D:=J.len
     have S:=J.ones
     have ba:=J.inn
     obtain ⟨a5,c5,rfl⟩:=J.slice
     have T:=J.src
     have fb:=z.but.size
     go_wp2_with (at_builtin;refine Yd rfl _ _ 28 rfl W2.heap.size 25 i0 (.slice none 0 0) 1 24 Tryz.underlying28 db dc dd de rfl (by decide) _ OL bz rfl C a5 Z.length c5 cd rfl (by rw[D,Nat.mul_one]) T S (by unfold maxLen;omega) (by omega) (by omega) ?_)
     intro v6 w6 g bn bb
     rw[<-bh.out] at g
     have bc:=Xa (z.app D ba g bn bb (by rw[bh.out];omega))
     have bd:=Xa (bk.out Z bm)
     obtain ⟨a6,c6,e6⟩:=Xg g
     obtain ⟨be,bo⟩:∃be,s.length+Z.length=be:=⟨_,rfl⟩
     rw[bo] at e6 bd
     subst e6
     clear g bn bb z D ba S C T F G J bm ce bo
     go_wp2_with fail
     refine (Zr a6 be c6 bc.out.se).mono ?_
     rintro e w7 ⟨rfl,bp,bq⟩
     have br:=Xa (bc.out.keep bq bp bj.out)
     clear bp bq
     go_wp2_with fail
     go_roundw
     case rel=>exact ⟨k+1,_,_,_,_,by omega,by go_num,bd.out,br.out⟩
     case measure=>simp[intOf];omega
   ·have q0:(c==0)=false:=by simpa using h0
    have bs:Hid (Now R Yh c X s):=P.dead h0 _ _
    have bt:=Xa bs.out.many
    have cf:Hid (s.length<=100 *(d+2)):=by have:=q.out.few;unfold Hid;omega
    obtain ⟨OL,hO⟩:∃OL,s.length=OL:=⟨_,rfl⟩
    rw[hO] at q bt|-
    clear h0
    clear P L hO
    go_wp2_with fail
    refine (Zr ao OL co q.out.se).mono ?_
    rintro e w5 ⟨rfl,F,G⟩
    rw[bt.out] at F
    have HA:=Xa (Qu (M:=100 *(d+2)) (e:= .returned (.slice ao OL co)) rfl bs.out F ci.out (q.out.but.trans G) (q.out.lo.keep G) (by have:=di.out;omega) HE.out cf.out)
    clear F G
    go_wp2_with fail
    go_ret
    exact HA.out
  ·obtain rfl:k=M:=by omega
   have bs:Hid (Now R Yh c X s):=P.over (by rw[b8.out];exact Nat.le_refl _)
   have bt:=Xa bs.out.many
   have cf:Hid (s.length<=100 *(d+2)):=by have:=q.out.few;unfold Hid;omega
   obtain ⟨OL,hO⟩:∃OL,s.length=OL:=⟨_,rfl⟩
   rw[hO] at q bt|-
   clear P L hO
   go_wp2_with fail
   refine (Zr ao OL co q.out.se).mono ?_
   rintro e w5 ⟨rfl,F,G⟩
   rw[bt.out] at F
   have HA:=Xa (Qu (M:=100 *(d+2)) (e:= .returned (.slice ao OL co)) rfl bs.out F ci.out (q.out.but.trans G) (q.out.lo.keep G) (by have:=di.out;omega) HE.out cf.out)
   clear F G
   go_wp2_with fail
   go_ret
   exact HA.out


theorem X3m {B E d fu : Nat} {fv v kc kn ki : Value} {fs : List FN} {x : FN} {ns : List VN} {w : World} (hok : okF fs = true) (ho : Qe B E fv fs d) (hx : NodeOk fs x) (k1 : 15 <= x.kind) (k2 : x.kind <= 20) (hin : FNodeIn B w x kc kn ki) (hs : SE B E fv fs fu 0 w) (hv : NR E w v ns) (hfu : fu <= d) (hd : d <= 100000) :
  Calls Tryz.prog 82 #[.pointer (some ⟨E,0,none⟩), .int .i64 x.kind,Ym x kc kn ki,v] w (Xx9 B E (100 *(d+2)) fv fs (Xp (Xh fs d) (Xk x 0) ns (fun a=>Xp (Xh fs d) (Xk x 1) ns (fun b=>Yk (Yy x.kind a b) Xl)) (fu,[])) w):=by
 have f4:=Xa hv.ok
 have HO:=Xa ho
 have je:=hs.hBE
 have hE:=hs.lt
 have f5:=hx.two (by omega)
 obtain ⟨K,c6⟩:∃K,x.kind=K:=⟨_,rfl⟩
 have f6:Hid ((K=15\/K=16)\/K=17\/K=18\/K=19\/K=20):=by unfold Hid;omega
 rw[c6]
 obtain ⟨_,aC,cC,rfl,_⟩:=id hin.cst
 obtain ⟨_,_,aK,cK,rfl,_⟩:=id hin.names
 obtain ⟨_,_,aI,cI,rfl,_⟩:=id hin.kids
 obtain ⟨kb,ko,gz,ek,jf,k4⟩:=hin.kids.get (j:=0) (by omega)
 injection ek with da ek2 ek3
 subst da ek3
 obtain ⟨f7,f8⟩:=hx.kid 0 (by omega)
 obtain ⟨K0,ds⟩:∃K0:Nat,Xk x 0=(K0:Int):=⟨(Xk x 0).toNat,by omega⟩
 have dt:Hid (K0<fs.length/\(Xk x 0).toNat=K0):=by unfold Hid;omega
 obtain ⟨jg,jh,f9,da,g0,du⟩:=hin.kids.get (j:=1) (by omega)
 injection da with eb1 eb2 eb3
 injection eb1 with eb1
 injection eb1 with eb1 eb4 eb5
 clear eb2 eb3 eb5
 subst eb1 eb4
 obtain ⟨dv,dw⟩:=hx.kid 1 (by omega)
 obtain ⟨K1,dx⟩:∃K1:Nat,Xk x 1=(K1:Int):=⟨(Xk x 1).toNat,by omega⟩
 have dy:Hid (K1<fs.length/\(Xk x 1).toNat=K1):=by unfold Hid;omega
 have l0:w.cell? ⟨kb,ko,none⟩=some (.int .i64 (K0:Int)):=by rw[<-ds];unfold Xk;simpa using k4
 have l1:w.cell? ⟨kb,ko+1,none⟩=some (.int .i64 (K1:Int)):=by rw[<-dx];exact du
 obtain ⟨L,bu⟩:∃L,w.alloc (.cells #[.int .i64 x.kind, .string x.name, .int .i64 x.place, .slice aC x.cst.length cC, .slice aK x.names.length cK, .slice (some ⟨kb,ko,none⟩) x.kids.length cI] 84)=L:=⟨_,rfl⟩
 obtain ⟨W3,cc⟩:∃W3,L.alloc (.cells #[] 25)=W3:=⟨_,rfl⟩
 have g2:L.heap.size=w.heap.size+1:=by rw[<-bu];simp
 have g3:W3.heap.size=w.heap.size+2:=by rw[<-cc];simp[g2]
 have bq:Below w.heap.size w L:=by rw[<-bu];exact (Below.refl _ _).alloc (Nat.le_refl _) _
 have S:Below L.heap.size L W3:=by rw[<-cc];exact (Below.refl _ _).alloc (Nat.le_refl _) _
 have cj:L.heap[w.heap.size]? =some (.cells #[.int .i64 x.kind, .string x.name, .int .i64 x.place, .slice aC x.cst.length cC, .slice aK x.names.length cK, .slice (some ⟨kb,ko,none⟩) x.kids.length cI] 84 (0,0)):=by rw[<-bu];exact heap_alloc_new w _
 have b5:=Xw cj 5
 have db:L.cell? ⟨w.heap.size,5,none⟩=some (.slice (some ⟨kb,ko,none⟩) x.kids.length cI):=b5
 have dz:L.cell? ⟨kb,ko,none⟩=some (.int .i64 (K0:Int)):=(Xc bq (by omega)).trans l0
 have d0:L.cell? ⟨kb,ko+1,none⟩=some (.int .i64 (K1:Int)):=(Xc bq (by omega)).trans l1
 have y5:W3.cell? ⟨w.heap.size,5,none⟩=some (.slice (some ⟨kb,ko,none⟩) x.kids.length cI):=(Xc S (by omega)).trans db
 have d1:W3.cell? ⟨kb,ko,none⟩=some (.int .i64 (K0:Int)):=(Xc S (by omega)).trans dz
 have dc:Hid (NR E L v ns):=hv.below bq
 have ga:Hid (SE B E fv fs fu 0 W3):=(hs.below bq).below S
 have d2:Hid (NR E W3 v ns):=dc.out.below S
 have d3:Hid (ButE E w L):= .of_below bq
 have d4:=Xa S
 have HE:=Xa hE
 obtain ⟨R,hR⟩:∃R,Xp (Xh fs d) (Xk x 0) ns (fun a=>Xp (Xh fs d) (Xk x 1) ns (fun b=>Yk (Yy K a b) Xl)) (fu,[])=R:=⟨_,rfl⟩
 have gb:=Xa hR
 rw[hR]
 obtain ⟨r0,cd⟩:∃r0,Xh fs d K0 ns fu=r0:=⟨_,rfl⟩
 have gc:=Xa cd
 have d5:Hid (r0.fu<=fu):=by rw[Hid,<-cd];exact (Ze hok d).le _ _ _ hv.ok
 have gd:Hid (∀n ns fu,okB ns=true->(Xh fs d n ns fu).fu<=fu):=(Ze hok d).le
 have HC:=Xa (Kp HO.out dt.out.1 ga.out d2.out hfu (Below.refl _ _))
 rw[cd] at HC
 have gf:Hid (LR E L.heap.size W3 (.slice (some ⟨w.heap.size+1,0,none⟩) 0 0) [] []):=by rw[Hid,<-cc,<-g2];exact ⟨World.ownsRow_lit L #[] 0 (Nat.le_refl _) (by simp[maxLen]) rfl,by omega,fun j hj=>absurd hj (by simp)⟩
 have d6:kb≠E:=by omega
 have s:1<x.kids.length:=by omega
 have g1:(1:Int)<(x.kids.length:Int):=by omega
 have g4:0<x.kids.length:=by omega
 have g5:(0:Int)<(x.kids.length:Int):=by omega
 obtain ⟨i0,d7,d8,d9,fa⟩:=info_parts J8
 obtain ⟨av,cv,rfl⟩:=hv.slice
 unfold Ym
 rw[c6] at bu|-
 obtain ⟨LN,fb⟩:∃LN,ns.length=LN:=⟨_,rfl⟩
 rw[fb] at HC dc d2|-
 clear ho hx k1 k2 hin hs hv hok ds dx k4 du l0 l1 f7 f8 dv dw bq S cj b5 hR cd f5 c6 fb
 go_enter Tryz.func82,Tryz.ntmps82
 go_wp2_with fail
 refine HC.out.mono ?_
 rintro e w4 ⟨sv,xs,m,rfl,fc,dd,ce,fd,gg⟩
 have gh:=Xa (Xdv (v:=ns) (h:=(fun a=>Xp (Xh fs d) (Xk x 1) ns (fun b=>Yk (Yy K a b) Xl))) (by rw[dt.out.2];exact gc.out) fd gb.out)
 have fe:r0.fu<=d:=by have:=d5.out;omega
 have p:Hid (Loop B E fv fs d L sv xs m r0.c r0.fu (.slice (some ⟨w.heap.size+1,0,none⟩) 0 0) [] [] w4):=
  ⟨fc, (ButE.of_below d4.out).trans dd, gf.out.keep dd, ce.low d4.out.size (by have := HE.out; omega), by
   cases e3:sv.ownBlock with
   |none=>exact .inl rfl
   |some y=>exact .inr (by have:=(ce.row.lt _ e3).1;simp only[Value.ownBlock];intro e4;injection e4 with e4;omega),by simp,fe⟩
 obtain ⟨a4,c4,rfl⟩:=ce.slice
 obtain ⟨M,hM⟩:∃M,m.length=M:=⟨_,rfl⟩
 have cf:=Xa hM
 have ji:M<=20000000:=by omega
 have bv:=Xa g2
 have jj:=Xa g3
 have gi:Hid (L.cell? ⟨w.heap.size,5,none⟩=some (.slice (some ⟨kb,ko,none⟩) x.kids.length cI)):=db
 have gj:=Xa d0
 rw[hM] at p|-
 clear fc dd ce fd gg hM g2 g3 y5 bu cc dz d0 d1 db
 go_wp2_with fail
 go_loopw [9,11,12,13] (fun o i _ _ wr=>∃(k:Nat) (c:Int) (fu:Nat) (bh:List Value) (q:List (List VN)),k<=M/\i= .int .i64 k/\Hid (Now R (fun st=>Y3 (Xq (fun a=>Xp (Xh fs d) (Xk x 1) ns (fun b=>Yk (Yy K a b) Xl)) (m.drop k) st) Yh) c fu q)/\Loop B E fv fs d L (.slice a4 M c4) xs m c fu o bh q wr) (fun _ i _ _ _=>M-(intOf i).toNat)
 case atStart=>exact ⟨0,r0.c,r0.fu,[],[],Nat.zero_le _,rfl,gh.out,p.out⟩
 case round =>
  obtain ⟨i,c,fu,bh,q,hk,rfl,T,s⟩:=hrel
  obtain ⟨W0,rfl⟩:∃W0,W0=wr:=⟨_,rfl⟩
  have p:=Xa s
  obtain ⟨ao,co,rfl⟩:=s.lo.slice
  obtain ⟨_,_,q2,_,_⟩:=s.se.cells
  have zs:=s.but.size
  have y5:=s.but.cellE (by have:=HE.out;omega) gi.out
  have g6:=s.but.cellE d6 gj.out
  by_cases hlt:i<M
  ·have g7 : (i : Int) < (M : Int) := by omega
   by_cases h0:c=0
   ·subst h0
    obtain ⟨ff,ck⟩:=T.next rfl (by rw[cf.out];exact hlt)
    have gk:=Xa ff
    have fg:=Xa ck
    obtain ⟨r1,cg⟩:∃r1,Xh fs d K1 ns fu=r1:=⟨_,rfl⟩
    have gl:=Xa cg
    have gm:Hid (Calls Tryz.prog 35 #[.pointer (some ⟨E,0,none⟩), .int .i64 K1, .slice av LN cv] W0 (RunAns B E (100 *(d+1)) fv fs r1.c r1.l r1.fu W0)):=by
     rw[<-cg]
     exact Kp HO.out dy.out.1 s.se (dc.out.but s.but) s.fud (Below.refl _ _)
    have gn:Hid (r1.fu<=d):=by have h1:=gd.out K1 ns fu f4.out;rw[cg] at h1;exact Nat.le_trans h1 s.fud
    obtain ⟨b,ax,cx,rfl,jk,go,gp⟩:=s.la.cell (j:=i) (by rw[cf.out];exact hlt)
    obtain ⟨OL,hO⟩:∃OL,q.length=OL:=⟨_,rfl⟩
    have fh:=Xa hO
    rw[hO] at p|-
    clear T s ff ck gp cg hO go
    go_wp2_with fail
    refine gm.out.mono ?_
    rintro e w5 ⟨jl,xs5,m5,rfl,fi,fj,de,fk,gq⟩
    have gr:=Xa (Xka (R:=R) (k:=(fun st=>Y3 (Xq (fun a=>Xp (Xh fs d) (Xk x 1) ns (fun b=>Yk (Yy K a b) Xl)) (m.drop (i+1)) st) Yh)) (h:=(fun b=>Yk (Yy K (Xn m i) b) Xl)) (n:=Xk x 1) (by rw[dy.out.2];exact gl.out) fk fg.out gk.out)
    have fl:=Xa (Side.new p.out de (by have:=HE.out;have:=bv.out;omega))
    have fm:=Xa (p.out.keep fj fi gn.out)
    obtain ⟨a5,c5,rfl⟩:=de.slice
    obtain ⟨M5,bw⟩:∃M5,m5.length=M5:=⟨_,rfl⟩
    have df:=Xa bw
    have g8:M5<=20000000:=by omega
    rw[bw] at fl|-
    clear fi fj de fk gq bw
    go_wp2_with fail
    go_loopw [9,13] (fun o i2 wr=>∃(k:Nat) (c:Int) (fu:Nat) (bh:List Value) (q:List (List VN)),k<=M5/\i2= .int .i64 k/\Hid (Now R (fun st=>Y3 (Xq (fun b=>Yk (Yy K (Xn m i) b) Xl) (m5.drop k) st) (fun st=>Y3 (Xq (fun a=>Xp (Xh fs d) (Xk x 1) ns (fun b=>Yk (Yy K a b) Xl)) (m.drop (i+1)) st) Yh)) c fu q)/\Loop B E fv fs d L (.slice (some ⟨b,0,none⟩) M c4) xs m c fu o bh q wr/\Side E L (.slice a5 M5 c5) xs5 m5 o wr) (fun _ i2 _=>M5-(intOf i2).toNat)
    case atStart=>exact ⟨0,r1.c,r1.fu,bh,q,Nat.zero_le _,rfl,gr.out,fm.out,fl.out⟩
    case round =>
     obtain ⟨k,c2,fn,cl,Z,jm,rfl,t,f,ba⟩:=hrel
     have bb:=Xa f
     have cm:=Xa ba
     obtain ⟨jn,jo,rfl⟩:=f.lo.slice
     obtain ⟨_,_,jp,_,_⟩:=f.se.cells
     have jq:=f.but.size
     by_cases hlt2:k<M5
     ·have gs : (k : Int) < (M5 : Int) := by omega
      by_cases h02:c2=0
      ·subst h02
       obtain ⟨cn,bz⟩:=t.next rfl (by rw[df.out];exact hlt2)
       obtain ⟨b',br,bs,b0,g9,b1,b2⟩:=f.la.cell (j:=i) (by rw[cf.out];exact hlt)
       injection b0 with b0
       injection b0 with b0
       subst b0
       obtain ⟨bB,bx,cy,rfl,ja,dg,b3⟩:=ba.row.cell (j:=k) (by rw[df.out];exact hlt2)
       have fo:=Xa b2
       have fp:=Xa b3
       have D:=Xa f.fud
       obtain ⟨r9,dh⟩:∃r9,Yy K (Xn m i) (Xn m5 k)=r9:=⟨_,rfl⟩
       have fq:=Xa dh
       have V:Hid (Now R (fun st=>Y3 (Xq (fun b=>Yk (Yy K (Xn m i) b) Xl) (m5.drop (k+1)) st) (fun st=>Y3 (Xq (fun a=>Xp (Xh fs d) (Xk x 1) ns (fun b=>Yk (Yy K a b) Xl)) (m.drop (i+1)) st) Yh)) (Zj r9.1 (Z.length+(Zd r9).length)) fn (Z++Zd r9)):=Xj9 bz (by rw[cn,<-dh])
       have ch:Hid (∀W,Below wr.heap.size wr W->Calls Tryz.prog 130 #[.slice br (Xn m i).length bs, .slice bx (Xn m5 k).length cy] W fun e w'=>e= .returned (.int .i64 (Y9 (Xn m i) (Xn m5 k)))/\Below wr.heap.size wr w'):=fun W hb=>(Xzl (b2.below hb) (b3.below hb)).mono fun e w' h=>⟨h.1,hb.trans (h.2.mono hb.size)⟩
       obtain ⟨od,di⟩:∃od,Y9 (Xn m i) (Xn m5 k)=od:=⟨_,rfl⟩
       have gu:=Xa di
       rw[di] at ch
       obtain ⟨LX,fr⟩:∃LX,(Xn m i).length=LX:=⟨_,rfl⟩
       obtain ⟨LY,ft⟩:∃LY,(Xn m5 k).length=LY:=⟨_,rfl⟩
       obtain ⟨bc,dj⟩:∃bc,Z.length=bc:=⟨_,rfl⟩
       have C:=Xa dj
       have gv:bc<=40:=by omega
       rw[fr] at b1 ch fo
       rw[ft] at dg ch fp
       rw[dj] at bb cm V|-
       clear t f ba cn bz b2 b3 dh fr ft dj di
       go_wp2_with fail
       go_region_law (refine Kf (by rfl) 130 _ _ _ _ (by rfl) (.slice br LX bs) (.slice bx LY cy) (by rfl) (by rfl) (Xya _ _) (ch.out _ (by first|exact Below.refl _ _|exact (Below.refl _ _).drew)) ?_;rintro e w6 ⟨rfl,X⟩;have jb:=(Xc X (X7 b1)).trans b1;have jc:=(Xc X (X7 dg)).trans dg;refine ⟨_,rfl, ?_⟩)
       all_goals
        have bp:=Xa (bb.out.keep (.of_below X) (bb.out.se.below X) D.out)
        have cp:=Xa (cm.out.keep (.of_below X))
        have cq:=Xa (fo.out.below X)
        have cr:=Xa (fp.out.below X)
        have z6:=X.size
        clear X
        obtain ⟨rc,fw⟩:∃rc,r9.1=rc:=⟨_,rfl⟩
        have dk:=Xa fw
        clear fw
        rcases f6.out with hk|hk
        ·have fx:Hid (∀W,Below w6.heap.size w6 W->(K=15->Calls Tryz.prog 131 #[.slice br LX bs, .slice bx LY cy] W (Made1 E r9 w6))/\(K=16->Calls Tryz.prog 132 #[.slice br LX bs, .slice bx LY cy] W (Made1 E r9 w6))):=fun W hb=>by
          have fy:E<W.heap.size:=by have:=HE.out;have:=bv.out;have:=hb.size;omega
          rw[<-fq.out]
          refine ⟨fun e=> ?_,fun e=> ?_⟩
          ·subst e;exact (Xvx (cq.out.below hb) (cr.out.below hb) fy).mono fun e w' h=>h.ahead hb
          ·subst e;exact (Xte (cq.out.below hb) (cr.out.below hb) fy).mono fun e w' h=>h.ahead hb
         rcases hk with rfl|rfl
         all_goals
          go_wp2_with fail
          first
          |go_region_law (refine Kf (by rfl) 131 _ _ _ _ (by rfl) (.slice br LX bs) (.slice bx LY cy) (by rfl) (by rfl) (Xu1 _ _) ((fx.out _ (by first|exact Below.refl _ _|exact (Below.refl _ _).drew)).1 (by first|rfl|trivial)) ?_;rintro e w7 ⟨u7,rfl,⟨a7,l7,c7,rfl⟩,F,P⟩;rw[dk.out];refine ⟨_,rfl, ?_⟩)
          |go_region_law (refine Kf (by rfl) 132 _ _ _ _ (by rfl) (.slice br LX bs) (.slice bx LY cy) (by rfl) (by rfl) (Xrm _ _) ((fx.out _ (by first|exact Below.refl _ _|exact (Below.refl _ _).drew)).2 (by first|rfl|trivial)) ?_;rintro e w7 ⟨u7,rfl,⟨a7,l7,c7,rfl⟩,F,P⟩;rw[dk.out];refine ⟨_,rfl, ?_⟩)
          all_goals
           have cs:=Xa (bp.out.keep (.of_below P) (bp.out.se.below P) D.out)
           have fz:=Xa (cp.out.keep (.of_below P))
           have f0:=Xa (Xbf cs.out.se ⟨a7,l7,c7,rfl⟩ F)
           have gw:=Xa (V5 r9)
           rw[dk.out] at f0 V
           clear F P
           go_wp2_with fail
           refine f0.out.mono ?_
           rintro e w8 ⟨jr,gx,rfl,f1,dl,bt⟩
           have bd:=cs.out.keep dl f1 D.out
           have ct:=fz.out.keep dl
           have bi:=bd.lo.row
           rw[C.out] at bi
           have Y:=bt.len
           have b4:=bt.ones
           have b6:=bt.inn
           obtain ⟨a8,c8,rfl⟩:=bt.slice
           have bj:=bt.src
           have js:=bd.but.size
           obtain ⟨m8,dm⟩:∃m8,Zd r9=m8:=⟨_,rfl⟩
           have jd:m8.length<=1:=by rw[<-dm];exact gw.out
           rw[dm] at V Y b6 bj|-
           clear dm
           go_wp2_with (at_builtin;refine Yd rfl _ _ 28 rfl L.heap.size 25 i0 (.slice none 0 0) 1 24 Tryz.underlying28 d7 d8 d9 fa rfl (by decide) _ bc cl rfl bi a8 m8.length c8 gx rfl (by rw[Y,Nat.mul_one]) bj b4 (by unfold maxLen;omega) (by omega) (by omega) ?_)
           intro v9 w9 g bk G
           have b7:=Xa (ct.app bd.lo bk G)
           rw[<-C.out] at g
           have be:=Xa (bd.app Y b6 g bk G (by rw[C.out];omega))
           obtain ⟨a9,c9,e9⟩:=Xg g
           rw[C.out] at e9
           obtain ⟨bl,b8⟩:∃bl,bc+m8.length=bl:=⟨_,rfl⟩
           rw[b8] at e9 V
           subst e9
           clear g bk G bd ct Y b6 b4 bi bj f1 dl bt b8
           go_wp2_with fail
           refine (Zr a9 bl c9 be.out.se).mono ?_
           rintro e gy ⟨rfl,bf,J⟩
           have bm:=Xa (be.out.keep J bf D.out)
           have bn:=Xa (b7.out.keep J)
           clear bf J
           go_wp2_with fail
           go_roundw
           case rel=>exact ⟨k+1,_,_,_,_,by omega,by go_num,V.out,bm.out,bn.out⟩
           case measure=>simp[intOf];omega
        ·obtain ⟨z,f2,hz⟩:∃z,r9=(0,Q9 z)/\Hid ((K=17/\z=(od==0))\/(K=18/\z=(od !=0))\/(K=19/\z=decide (od<0))\/(K=20/\z=decide (od<=0))):=by
          rw[<-fq.out]
          unfold Yy Xne
          rcases hk with rfl|rfl|rfl|rfl
          all_goals rw[if_neg (by decide),if_neg (by decide),gu.out]
          ·exact ⟨_,by rw[if_pos rfl,X3j], .inl ⟨rfl,rfl⟩⟩
          ·exact ⟨_,by rw[if_neg (by decide),if_pos rfl,X3k], .inr (.inl ⟨rfl,rfl⟩)⟩
          ·exact ⟨_,by rw[if_neg (by decide),if_neg (by decide),if_pos rfl], .inr (.inr (.inl ⟨rfl,rfl⟩))⟩
          ·exact ⟨_,by rw[if_neg (by decide),if_neg (by decide),if_neg (by decide)], .inr (.inr (.inr ⟨rfl,rfl⟩))⟩
         have f3:=Xa (Xkq E z w6 (by have:=HE.out;have:=bv.out;omega))
         obtain ⟨nb,ci⟩:∃nb,Q9 z=nb:=⟨_,rfl⟩
         have b9:Hid (Now R (fun st=>Y3 (Xq (fun b=>Yk (Yy K (Xn m i) b) Xl) (m5.drop (k+1)) st) (fun st=>Y3 (Xq (fun a=>Xp (Xh fs d) (Xk x 1) ns (fun b=>Yk (Yy K a b) Xl)) (m.drop (i+1)) st) Yh)) (Zj 0 (bc+1)) fn (Z++ [nb])):=by
          have h1:=V.out
          rw[f2,ci] at h1
          exact h1
         rw[ci] at f3
         have cu:nb.length=1:=by rw[<-ci];rfl
         clear ci f2 hk
         rcases hz.out with ⟨rfl,rfl⟩|⟨rfl,rfl⟩|⟨rfl,rfl⟩|⟨rfl,rfl⟩
         all_goals
          clear hz
          go_wp2_with fail
          refine f3.out.mono ?_
          rintro e w7 ⟨u7,rfl,⟨a7,c7,rfl⟩,F,P⟩
          rw[cu] at F|-
          have bg:=bp.out.keep (.of_below P) (bp.out.se.below P) D.out
          have cw:=cp.out.keep (.of_below P)
          have bo:=bg.lo.row
          rw[C.out] at bo
          have jt:=bg.but.size
          clear cu
          go_wp2_with (at_builtin;refine wpList_append_own_at _ rfl _ _ 28 rfl L.heap.size 25 i0 (.slice none 0 0) 1 24 Tryz.underlying28 d7 d8 d9 fa rfl (by decide) _ bc cl rfl (bo.alloc _) ⟨w7.heap.size,0,none⟩ 1 1 [.slice a7 1 c7] rfl rfl ?c1 ?c2 ?c3 ?c4 ?c5 ?_)
          case c1=>exact cell_one_new _ _ _
          case c2=>intro u hu;simp at hu;subst hu;rfl
          case c3=>unfold maxLen;omega
          case c4=>omega
          case c5=>simp;omega
          intro v9 w9 g bk _ G
          have ca:Below w7.heap.size w7 (w7.alloc (.cells #[.slice a7 1 c7] 25)):=(Below.refl _ _).alloc (Nat.le_refl _) _
          have cb:=bg.keep (.of_below ca) (bg.se.below ca) D.out
          have cz:=cw.keep (.of_below ca)
          have b7:=Xa (cz.app cb.lo bk (by simpa using G))
          rw[<-C.out] at g
          have be:=Xa (cb.app (xs5:= [.slice a7 1 c7]) (m5:= [nb]) rfl (Xn7 (F.below ca)) g bk (by simpa using G) (by rw[C.out];simp;omega))
          obtain ⟨a9,c9,e9⟩:=Xg g
          rw[C.out] at e9
          obtain ⟨bl,b8⟩:∃bl,bc+1=bl:=⟨_,rfl⟩
          rw[b8] at e9 b9
          subst e9
          clear g bk G bg cw cb cz bo ca F P b8
          go_wp2_with fail
          refine (Zr a9 bl c9 be.out.se).mono ?_
          rintro e gy ⟨rfl,bf,J⟩
          have bm:=Xa (be.out.keep J bf D.out)
          have bn:=Xa (b7.out.keep J)
          clear bf J
          go_wp2_with fail
          go_roundw
          case rel=>exact ⟨k+1,_,_,_,_,by omega,by go_num,b9.out,bm.out,bn.out⟩
          case measure=>simp[intOf];omega
      ·have q0:(c2==0)=false:=by simpa using h02
       have dp:=Xa (t.dead h02 (fun st=>Y3 (Xq (fun a=>Xp (Xh fs d) (Xk x 1) ns (fun b=>Yk (Yy K a b) Xl)) (m.drop (i+1)) st) Yh) Z)
       clear h02
       clear t f ba
       go_wp2_with fail
       go_roundw
       case rel=>exact ⟨i+1,_,_,_,_,by omega,by go_num,dp.out,bb.out⟩
       case measure=>simp[intOf];omega
     ·obtain rfl:k=M5:=by omega
      have dp:=Xa (t.over (by rw[df.out];exact Nat.le_refl _))
      clear t f ba
      go_wp2_with fail
      go_roundw
      case rel=>exact ⟨i+1,_,_,_,_,by omega,by go_num,dp.out,bb.out⟩
      case measure=>simp[intOf];omega
   ·have q0:(c==0)=false:=by simpa using h0
    have dq:Hid (Now R Yh c fu q):=T.dead h0 _ _
    have dr:Hid (q.length<=100 *(d+2)):=by have:=p.out.few;unfold Hid;omega
    obtain ⟨OL,hO⟩:∃OL,q.length=OL:=⟨_,rfl⟩
    have fh:=Xa hO
    rw[hO] at p|-
    clear h0
    clear T s hO
    go_wp2_with fail
    go_ret
    exact ⟨.slice ao OL co,bh,q,c,fu,rfl,p.out.se,d3.out.trans p.out.but,p.out.lo.low (by have:=bv.out;omega) HE.out,dq.out,dr.out⟩
  ·obtain rfl:i=M:=by omega
   have dq:Hid (Now R Yh c fu q):=T.over (by rw[cf.out];exact Nat.le_refl _)
   have dr:Hid (q.length<=100 *(d+2)):=by have:=p.out.few;unfold Hid;omega
   obtain ⟨OL,hO⟩:∃OL,q.length=OL:=⟨_,rfl⟩
   have fh:=Xa hO
   rw[hO] at p|-
   clear T s hO
   go_wp2_with fail
   go_ret
   exact ⟨.slice ao OL co,bh,q,c,fu,rfl,p.out.se,d3.out.trans p.out.but,p.out.lo.low (by have:=bv.out;omega) HE.out,dq.out,dr.out⟩


theorem X27 {B E d j n:Nat} {fv v:Value} {fs:List FN} {x:FN} {ns:List VN} {w:World} (hok:okF fs=true) (ho:Qe B E fv fs d) (hx:NodeOk fs x) (k1:15<=x.kind) (k2:x.kind<=20) (hn:n<fs.length) (hxn:Xo fs n=x) (hse:SE B E fv fs (j+1) 0 w) (hv:NR E w v ns) (hj:j<=d) (hd:d<=100000):
  Calls Tryz.prog 35 #[.pointer (some ⟨E,0,none⟩), .int .i64 n,v] w (RunAns B E (100 *(d+2)) fv fs (evM (Xh fs d) x ns Xl (j,[])).1 (evM (Xh fs d) x ns Xl (j,[])).2.2 (evM (Xh fs d) x ns Xl (j,[])).2.1 w):=by
 obtain ⟨W1,W2,P,b0,o0,bf,aC,cC,aK,cK,aI,cI,hp⟩:=Qh hse hn hxn
 obtain ⟨S,q0,q1,q2,z1,bg,p0,s0,s1,s2,s3,s4,s5,T,bh,g1,g2,g3,g,l,b,f,hE,hB⟩:=hp
 have bi:=Xa g
 have V:=Xa l
 have X:=Xa b
 have bj:=Xa f
 have Y:Hid (NR E P v ns):=(hv.but l).below b
 have bk:=Xa hv.ok
 have HO:=Xa ho
 have HX:=Xa hx
 have HE:=Xa hE
 obtain ⟨av,cv,rfl⟩:=hv.slice
 obtain ⟨R,L⟩:∃R,evM (Xh fs d) x ns Xl (j,[])=R:=⟨_,rfl⟩
 have bl:=Xa L
 rw[L]
 have Z:(n:Int)<(fs.length:Int):=by omega
 have bm:¬((j:Int)+1=0):=by omega
 have bn:(j:Int)<=1000000:=by omega
 obtain ⟨NF,z⟩:∃NF,fs.length=NF:=⟨_,rfl⟩
 rw[z] at q0 p0 Z hn
 have y0:=(Xc b (by omega)).trans f.c0
 have y1:=(Xc b (by omega)).trans f.c1
 have y2:=(Xc b (by omega)).trans f.c2
 have y3:=(Xc b (by omega)).trans f.c3
 have y4:=(Xc b (by omega)).trans f.c4
 have y5:=(Xc b (by omega)).trans f.c5
 obtain ⟨o,p⟩:∃o,x.kind=o:=⟨_,rfl⟩
 rw[p] at s0 T y0
 have HC:Hid (Calls Tryz.prog 82 #[.pointer (some ⟨E,0,none⟩), .int .i64 x.kind, .agg #[.int .i64 x.kind, .string x.name, .int .i64 x.place, .slice aC x.cst.length cC, .slice aK x.names.length cK, .slice aI x.kids.length cI], .slice av ns.length cv] P (Xx9 B E (100 *(d+2)) fv fs R P)):=by
  have h1:=X3m hok ho hx k1 k2 (f.inn.below (b.mono (by omega))) g Y.out hj hd
  rw[<-Xxd k1 k2,L] at h1
  exact h1
 rw[p] at HC
 have ba:o=15\/o=16\/o=17\/o=18\/o=19\/o=20:=by omega
 clear hse hv ho hx hxn hok L S g l b f z p hE hB k1 k2
 rcases ba with rfl|rfl|rfl|rfl|rfl|rfl
 all_goals
  go_enter Tryz.func35,Tryz.ntmps35
  go_wp2_with fail
  refine HC.out.mono ?_
  rintro e w4 ⟨sv,xs,m,c,fu,rfl,C,D,q,s,F⟩
  have bb:=Xa s
  have G:=Xa s.many
  have bc:=Xa C
  have bd:=Xa ((ButE.of_below X.out).trans D)
  have J:=Xa q
  have be:=Xa F
  obtain ⟨a4,c4,rfl⟩:=q.slice
  obtain ⟨M,hM⟩:∃M,m.length=M:=⟨_,rfl⟩
  rw[hM] at G J|-
  clear C D q s F hM
  go_wp2_with fail
  refine (Zr a4 M c4 bc.out).mono ?_
  rintro e w5 ⟨rfl,t,y⟩
  rw[G.out] at t
  have HA:=Xa (Qu (M:=100 *(d+2)) (e:= .returned (.slice a4 M c4)) rfl bb.out t V.out (bd.out.trans y) (J.out.keep y) (by omega) HE.out be.out)
  clear t y
  go_wp2_with fail
  go_ret
  exact HA.out
end Go.Proofs.YtdjddneidbddpaaGreatDoor
