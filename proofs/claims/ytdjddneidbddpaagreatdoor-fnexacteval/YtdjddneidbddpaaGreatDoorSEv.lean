import Derived.Test.YtdjddneidbddpaaGreatDoorSeW
import Derived.Test.YtdjddneidbddpaaGreatDoorSSort
import Derived.Laws.EntriesVeiled
import Derived.Deep.RegionHeld3
import Derived.Test.YtdjddneidbddpaaGreatDoorSeX
import Derived.Test.YtdjddneidbddpaaGreatDoorSeDD
import Derived.Test.YtdjddneidbddpaaGreatDoorIEv
import Derived.Test.YtdjddneidbddpaaGreatDoorFSpc3
namespace Go.Proofs.YtdjddneidbddpaaGreatDoor
set_option linter.unusedSectionVars false
set_option maxRecDepth 100000
set_option maxHeartbeats 12800000
open Go.RowKit
set_option linter.unusedSimpArgs false
set_option linter.unusedVariables false
theorem Xna {B E d:Nat} {fv:Value} {fs:List FN} {x:FN} {ns:List VN} {R:Int×Xs} {c:Int} {fu K1:Nat} {av:Option Addr} {cv:Nat} {w:World} (hok:okF fs=true) (ho:Qe B E fv fs d) (hK:K1<fs.length/\(Xk x 1).toNat=K1) (hs:SE B E fv fs fu c w) (hv:NR E w (.slice av ns.length cv) ns) (hd:fu<=d):
  Calls Tryz.prog 35 #[.pointer (some ⟨E,0,none⟩), .int .i64 K1, .slice av ns.length cv] w fun e w'=>∃sv xs m c' fu',e= .returned sv/\SE B E fv fs fu' c' w'/\ButE E w w'/\LR E w.heap.size w' sv xs m/\(c≠0->m= [])/\m.length<=100 *(d+1)/\fu'<=d/\∀out,Now R (Xp (Xh fs d) (Xk x 1) ns Xl) c fu out->Now R Yh (Zj c' (out.length+m.length)) fu' (out++m):=by
 by_cases h0:c=0
 ·subst h0
  refine (Kp ho hK.1 hs hv hd (Below.refl _ _)).mono ?_
  rintro e w' ⟨sv,xs,m,j,b,l,o,p,q⟩
  have f:=(Ze hok d).le K1 ns fu hv.ok
  refine ⟨sv,xs,m,_,_,j,b,l,o,fun h=>absurd rfl h,q,Nat.le_trans f hd,fun out hn=> ?_⟩
  have g:=Xxh hn rfl (by rw[hK.2]) p
  rw[List.length_append] at g
  exact g
 ·refine (Xpb (K1:Int) av ns.length cv hs h0).mono ?_
  rintro e w' ⟨rfl,rfl⟩
  refine ⟨_,[],[],c,fu,rfl,hs,ButE.refl _ _,LR.nil hs.lt,fun _=>rfl,Nat.zero_le _,hd,fun out hn=> ?_⟩
  rw[Xbd h0]
  exact hn.dead h0 _ _
theorem Xv7 {c:Int} {d:Nat} {a b:List (List VN)} (h1:c=0->a.length<=40) (h2:c≠0->b= []) (h3:a.length<=100 *(d+1)) (h4:b.length<=100 *(d+1)):a.length+b.length<=40+100 *(d+1):=by
 by_cases e:c=0
 ·have:=h1 e;omega
 ·rw[h2 e];simp;omega
theorem Xv8 {B E d j n:Nat} {fv v:Value} {fs:List FN} {x:FN} {ns:List VN} {w:World} (hok:okF fs=true) (ho:Qe B E fv fs d) (hx:NodeOk fs x) (k:x.kind=7) (hn:n<fs.length) (hxn:Xo fs n=x) (hse:SE B E fv fs (j+1) 0 w) (hv:NR E w v ns) (hj:j<=d) (hd:d<=100000):
  Calls Tryz.prog 35 #[.pointer (some ⟨E,0,none⟩), .int .i64 n,v] w (RunAns B E (100 *(d+2)) fv fs (evM (Xh fs d) x ns Xl (j,[])).1 (evM (Xh fs d) x ns Xl (j,[])).2.2 (evM (Xh fs d) x ns Xl (j,[])).2.1 w):=by
 obtain ⟨W1,y,W3,b0,o0,d4,aC,cC,aK,cK,aI,cI,hp⟩:=Qh hse hn hxn
 obtain ⟨c9,q0,q1,q2,z1,da,p0,s0,s1,s2,s3,s4,s5,bw,bx,g1,g2,g3,bi,z,b,f,hE,hB⟩:=hp
 have bz:=Xa bi
 have db:=Xa z
 have d5:=Xa b
 have dc:=Xa f
 have b1:Hid (NR E W3 v ns):=(hv.but z).below b
 have d6:=Xa hv.ok
 have HO:=Xa ho
 have HX:=Xa hx
 have HE:=Xa hE
 obtain ⟨av,cv,rfl⟩:=hv.slice
 obtain ⟨R,hR⟩:∃R,evM (Xh fs d) x ns Xl (j,[])=R:=⟨_,rfl⟩
 have d7:=Xa hR
 rw[hR]
 have dd:(n:Int)<(fs.length:Int):=by omega
 have d8:¬((j:Int)+1=0):=by omega
 have d9:(j:Int)<=1000000:=by omega
 obtain ⟨NF,b2⟩:∃NF,fs.length=NF:=⟨_,rfl⟩
 rw[b2] at q0 p0 dd hn
 have y0:=(Xc b (by omega)).trans f.c0
 have y1:=(Xc b (by omega)).trans f.c1
 have y2:=(Xc b (by omega)).trans f.c2
 have y3:=(Xc b (by omega)).trans f.c3
 have y4:=(Xc b (by omega)).trans f.c4
 have y5:=(Xc b (by omega)).trans f.c5
 obtain ⟨KK,b3⟩:∃KK,x.kind=KK:=⟨_,rfl⟩
 rw[b3] at s0 bw y0
 have b4:Hid (NR E y (.slice av ns.length cv) ns):=hv.but z
 have de:=hx.two (.inr (.inl k))
 obtain ⟨kb,ko,dz,ek,fa,k4⟩:=f.inn.kids.get (j:=0) (by omega)
 injection ek with bs ek2 ek3
 subst bs ek3
 obtain ⟨df,dg⟩:=hx.kid 0 (by omega)
 obtain ⟨P,b5⟩:∃P:Nat,Xk x 0=(P:Int):=⟨(Xk x 0).toNat,by omega⟩
 have b6:Hid (P<fs.length/\(Xk x 0).toNat=P):=by unfold Hid;omega
 have dh:W3.cell? ⟨kb,ko,none⟩=some (.int .i64 (P:Int)):=by rw[<-b5];exact (Xc b (by omega)).trans (by unfold Xk;simpa using k4)
 have bh:=(show IntsAt B y _ x.kids from f.inn.kids).get (j:=1) (by omega)
 obtain ⟨fb,fc,di,bs,d0,bh⟩:=bh
 injection bs with eb1 eb2 eb3
 injection eb1 with eb1
 injection eb1 with eb1 eb4 eb5
 clear eb2 eb3 eb5
 subst eb1 eb4
 obtain ⟨b7,b8⟩:=hx.kid 1 (by omega)
 obtain ⟨K1,b9⟩:∃K1:Nat,Xk x 1=(K1:Int):=⟨(Xk x 1).toNat,by omega⟩
 have dj:Hid (K1<fs.length/\(Xk x 1).toNat=K1):=by unfold Hid;omega
 have ca:y.cell? ⟨kb,ko+1,none⟩=some (.int .i64 (K1:Int)):=by rw[<-b9];exact bh
 obtain rfl:KK=7:=by omega
 obtain ⟨o,S⟩:∃o,Xh fs d P ns j=o:=⟨_,rfl⟩
 have T:o.fu<=d:=by have h1:=(Ze hok d).le P ns j hv.ok;rw[S] at h1;omega
 have bt:o.l.length<=40:=by rw[<-S];exact (Ze hok d).few _ _ _ hv.ok
 have cb:=Xa T
 have dk:=Xa bt
 have cc:Hid (∀m:List (List VN),(o.c=0->m=o.l)->Now R (Xp (Xh fs d) (Xk x 1) ns Xl) o.c o.fu m):=fun m h=>Xxg (oc:=Xh fs d) (x:=x) (v:=ns) (fu:=j) (by rw[b6.out.2];exact S) h (fun _=>bt) (by rw[<-Xox k];exact hR)
 have HC:Hid (∀W,Below W3.heap.size W3 W->Calls Tryz.prog 35 #[.pointer (some ⟨E,0,none⟩), .int .i64 P, .slice av ns.length cv] W (RunAns B E (100 *(d+1)) fv fs o.c o.l o.fu W3)):=fun W hb=>by rw[<-S];exact Kp HO.out b6.out.1 bz.out b1.out hj hb
 have cd:Hid (∀w6,SE B E fv fs o.fu o.c w6->ButE E y w6->Calls Tryz.prog 35 #[.pointer (some ⟨E,0,none⟩), .int .i64 K1, .slice av ns.length cv] w6 fun e w'=>∃sv xs m c' fu',e= .returned sv/\SE B E fv fs fu' c' w'/\ButE E w6 w'/\LR E w6.heap.size w' sv xs m/\(o.c≠0->m= [])/\m.length<=100 *(d+1)/\fu'<=d/\∀out,Now R (Xp (Xh fs d) (Xk x 1) ns Xl) o.c o.fu out->Now R Yh (Zj c' (out.length+m.length)) fu' (out++m)):=fun w6 hs hb=>Xna hok HO.out dj.out hs (b4.out.but hb) T
 have bj:LR E y.heap.size W3 (.slice (some ⟨w.heap.size+1,0,none⟩) 0 0) [] []:=by rw[<-bx,<-g2];exact ⟨World.ownsRow_lit y #[] 0 (Nat.le_refl _) (by simp[maxLen]) rfl,by omega,fun j hj=>absurd hj (by simp)⟩
 have ce:Hid (Loop B E fv fs d y (.slice none 0 0) [] [] 0 j (.slice (some ⟨w.heap.size+1,0,none⟩) 0 0) [] [] W3):=⟨bz.out, .of_below b,bj,LR.nil (by omega), .inl rfl,by simp,hj⟩
 have fd:=hE
 have bk:kb≠E:=by omega
 have fe:1<x.kids.length:=by omega
 have d1:(1:Int)<(x.kids.length:Int):=by omega
 have d2:0<x.kids.length:=by omega
 have d3:(0:Int)<(x.kids.length:Int):=by omega
 obtain ⟨i0,cf,cg,ch,ci⟩:=info_parts J8
 obtain ⟨LN,cj⟩:∃LN,ns.length=LN:=⟨_,rfl⟩
 rw[cj] at HC cd b4 b1|-
 have bl:y.cell? ⟨kb,ko,none⟩=some (.int .i64 (P:Int)):=(Xc b (by omega)).symm.trans dh
 have G:Hid (∀Y,ButE E y Y->(Y.cell? ⟨w.heap.size,5,none⟩=some (.slice (some ⟨kb,ko,none⟩) x.kids.length cI)/\Y.cell? ⟨kb,ko,none⟩=some (.int .i64 (P:Int))/\Y.cell? ⟨kb,ko+1,none⟩=some (.int .i64 (K1:Int)))):=fun Y hY=>⟨hY.cellE (by omega) dc.out.c5,hY.cellE bk bl,hY.cellE bk ca⟩
 have dl:Hid (ButE E y W3.drew):=(ButE.of_below b).trans (.of_below (Below.refl _ _).drew)
 have ck:Hid (ButE E y W3):=ButE.of_below b
 clear hse hv ho hx hxn hok hR c9 bi z b f b2 b3 hE hB k k4 de df dg b5 S cj b9 bh b7 b8 T bt bj ca bl
 go_enter Tryz.func35,Tryz.ntmps35
 go_wp2_with fail
 have dm:=Xa g2
 have ff:=Xa g3
 clear g1 g2 g3 da bw bx s0 s1 s2 s3 s4 s5 p0 q0 q1 q2 z1
 go_region_held3 (fun w'=>w'.cell? ⟨w.heap.size,5,none⟩=some (.slice (some ⟨kb,ko,none⟩) x.kids.length cI)/\w'.cell? ⟨kb,ko,none⟩=some (.int .i64 (P:Int))/\w'.cell? ⟨kb,ko+1,none⟩=some (.int .i64 (K1:Int)))
  (first|exact G.out _ bn|exact G.out _ ba|exact G.out _ bc|exact G.out _ bg|exact G.out _ dl.out|exact G.out _ ck.out)
  (first
   |(refine Zk (by rfl) _ _ 28 (by rfl) y.heap.size 25 i0 (.slice none 0 0) 1 24 Tryz.underlying28 cf cg ch ci rfl (by decide) _ m5.length bu (by rfl) V a7 m7.length ds dp (by rfl) (by rw [q, Nat.mul_one]) Z X (by unfold maxLen; omega) (by omega) (by omega) ?_; intro v8 w8 p cl bm
     have g:=cq.out.app q bo (v':=v8) (by simpa using p) (by simpa using cl) (by simpa using bm) (by simpa using Xv7 (fun e=>by rw[cs.out e];exact dk.out) dv.out dw dq)
     have bn:=g.but
     obtain ⟨a8,c8,e8⟩:=Xg p
     subst e8)
   |(go_at_call 35;refine (cd.out _ bq.out.se bc).mono ?_;rintro e w7 ⟨fg,dp,m7,c7,fh,rfl,cm,cn,J,co,dq,dr,cp⟩;have C:=bq.out.keep cn cm dr;have V:w7.ownsRow y.heap.size 25 1 (.slice a6 m5.length c6) m5.length bu:=(by simpa using C.lo.row);have q:=J.len;have X:=J.ones;have bo:=J.inn;obtain ⟨a7,ds,rfl⟩:=J.slice;have Z:=J.src;have ba:=C.but;have dt:=ba.size;have cq:=Xa C;have du:=Xa cp;have dv:=Xa co;clear cm cn J cp co C)
   |(refine Zk (by rfl) _ _ 28 (by rfl) y.heap.size 25 i0 (.slice none 0 0) 1 24 Tryz.underlying28 cf cg ch ci rfl (by decide) _ 0 [] (by rfl) bd a5 m5.length c5 bu (by rfl) (by rw [t, Nat.mul_one]) bf be (by unfold maxLen; omega) (by omega) (by omega) ?_; intro v6 w6 s cr bp
     have bb:=D.app t br s cr bp (by simp;omega)
     have bc:=bb.but
     obtain ⟨a6,c6,e6⟩:=Xg s
     subst e6
     have bq:=Xa bb
     have cs:=Xa cw
     clear s cr bp bb D t be br bf ct cu L cw)
   |(go_at_call 35;refine (HC.out _ (by first|exact Below.refl _ _|exact (Below.refl _ _).drew)).mono ?_;rintro e w5 ⟨fi,bu,m5,rfl,ct,cu,L,cw,dw⟩;have D:=ce.out.keep cu ct cb.out;have bd:=D.lo.row;have t:=L.len;have be:=L.ones;have br:=L.inn;obtain ⟨a5,c5,rfl⟩:=L.slice;have bf:=L.src;have bg:=D.but;have dx:=bg.size))
 all_goals
  simp only[List.nil_append] at g
  have F:=Xa g
  have cx:=Xa (du.out m5 (cc.out m5 cs.out))
  have dy:Hid ((m5++m7).length<=100 *(d+2)):=by have:=g.few;unfold Hid;omega
  obtain ⟨N8,cy⟩:∃N8,m5.length+m7.length=N8:=⟨_,rfl⟩
  rw[cy] at F cx|-
  clear g bn bm cl p V q X bo Z ba dt bc bd bg dx cy
  go_wp2_with fail
  refine (Zr a8 N8 c8 F.out.se).mono ?_
  rintro e w9 ⟨rfl,cz,bv⟩
  have HA:=Xa (Qu (M:=100 *(d+2)) (e:= .returned (.slice a8 N8 c8)) rfl cx.out cz db.out (F.out.but.trans bv) (F.out.lo.keep bv) (by have:=dm.out;omega) HE.out dy.out)
  clear cz bv
  go_wp2_with fail
  go_ret
  exact HA.out


theorem X3b {R R1:Int×Xs} {k:Xs->Int×Xs} {c:Int} {fu:Nat} {m:List (List VN)} (h:R=Y3 R1 k) (hn:Now R1 Yh c fu m):Now R k c fu m:=by
 by_cases e:c=0
 ·obtain ⟨b,d⟩:=hn.1 e
  refine ⟨fun _=>⟨?_,d⟩,fun e2=>absurd e e2⟩
  rw[h,<-b]
  rfl
 ·obtain ⟨b,d⟩:=hn.2 e
  refine ⟨fun e2=>absurd e2 e,fun _=> ?_⟩
  have f:Y3 R1 k=R1:=by unfold Y3;rw[if_neg (by rw[b];exact e)]
  rw[h,f]
  exact ⟨b,d⟩
theorem Xxs {l:List Int} {k:Nat} (h:k<l.length):l.drop k=Xj l k::l.drop (k+1):=by
 rw[List.drop_eq_getElem_cons h,Y8 h]
structure MapSt (B E d:Nat) (fv:Value) (fs:List FN) (G:Option Nat) (bO:Nat) (W5:World) (c:Int) (fu:Nat) (o:Value) (oxs:List Value) (out:List (List VN)) (wr:World):Prop where
 se:SE B E fv fs fu c wr
 fr:FrX E G W5 wr
 lo:LR E bO wr o oxs out
 own:o.ownBlock=G\/∀y,o.ownBlock=some y->W5.heap.size<=y
 few:out.length<=41
 fud:fu<=d
theorem MapSt.far {B E d bO fu:Nat} {fv o:Value} {fs:List FN} {G:Option Nat} {W5 wr:World} {c:Int} {oxs:List Value} {out:List (List VN)} (h:MapSt B E d fv fs G bO W5 c fu o oxs out wr) {x:Nat} (hx:x<W5.heap.size) (hG:some x≠G):some x≠o.ownBlock:=by
 rcases h.own with e|e
 ·rw[e];exact hG
 ·intro b
  have:=e x b.symm
  omega
theorem MapSt.apart {B E d bO fu:Nat} {fv o av:Value} {fs:List FN} {G:Option Nat} {W5 wr:World} {c:Int} {oxs:List Value} {out:List (List VN)} (h:MapSt B E d fv fs G bO W5 c fu o oxs out wr) (hl:∀x,av.ownBlock=some x->x<W5.heap.size) (hG:av.ownBlock=none\/av.ownBlock≠G):av.ownBlock=none\/av.ownBlock≠o.ownBlock:=by
 cases e:av.ownBlock with
 |none=>exact .inl rfl
 |some x=>
  refine .inr (h.far (hl x e) ?_)
  rcases hG with hG|hG
  ·rw[e] at hG;cases hG
  ·rw[<-e];exact hG
theorem FrX.cellE {E:Nat} {G:Option Nat} {w w':World} (h:FrX E G w w') {b o:Nat} {v:Value} (hn:b≠E) (hG:some b≠G) (hc:w.cell? ⟨b,o,none⟩=some v):w'.cell? ⟨b,o,none⟩=some v:=
 (World.cell?_of_block (w:=w) (w':=w') (a:=⟨b,o,none⟩) (h.block b (X7 hc) hn hG)).trans hc
theorem Xxt (w:World) (y:Value):(w.alloc (.cells #[y] 25)).cell? ⟨w.heap.size,0,none⟩=some y:=by rw[World.cell?_alloc_at _ _ _ _ (by simp)];rfl
theorem Xo0 {w:World} {b:Nat} {y:Value} (h:w.cell? ⟨b,0,none⟩=some y):∀(j:Nat) (u:Value),[y][j]? =some u->w.cell? ((⟨b,0,none⟩:Addr).add j)=some u:=by
 intro j u c
 match j,c with
 |0,c=>simp at c;subst c;rw[Addr.add_lit];exact h
 |j+1,c=>simp at c
theorem Xxu {B E d mm : Nat} {fv : Value} {fs : List FN} {x : FN} (hok : okF fs = true) (ho : Qe B E fv fs d) (hx : NodeOk fs x) (k9 : x.kind = 9) (hd : d <= 100000) (ih : Xja B E d fv fs x mm) : Xja B E d fv fs x (mm + 1) := by
 intro kc kn ki v ns f bb dv ov t bv bD bO fu w d3 bn hs hv b5 b6 c3 cb d4 d5
 obtain ⟨m1,m2⟩:=hx.map k9
 have HO:=Xa ho
 have d6:=Xa ih
 have f6:=Xa hv.ok
 have hE:=hs.lt
 have d7:=hs.hBE
 obtain ⟨_,aC,cC,rfl,_⟩:=id bn.cst
 obtain ⟨_,_,aK,cK,rfl,_⟩:=id bn.names
 obtain ⟨_,_,aI,cI,rfl,_⟩:=id bn.kids
 obtain ⟨D,hD⟩:∃D,f.length=D:=⟨_,rfl⟩
 have HD:=Xa hD
 obtain ⟨kb,ko,f2,ek,f7,k4⟩:=bn.kids.get (j:=D) (by omega)
 injection ek with ek1 ek2 ek3
 subst ek1 ek3
 obtain ⟨d8,d9⟩:=hx.kid D (by omega)
 obtain ⟨K0,c5⟩:∃K0:Nat,Xk x D=(K0:Int):=⟨(Xk x D).toNat,by omega⟩
 have c9:Hid (K0<fs.length/\(Xk x D).toNat=K0):=by unfold Hid;omega
 have e9:Z3 (Xh fs d) x.names ns Xl (x.kids.drop f.length) f (fu,bb)=Xp (Xh fs d) (Xk x D) ns (fun y=>Z3 (Xh fs d) x.names ns Xl (x.kids.drop (D+1)) (f++ [y])) (fu,bb):=by
  rw[hD,Xxs (by omega)];rfl
 rw[e9]
 obtain ⟨R,hR⟩:∃R,Xp (Xh fs d) (Xk x D) ns (fun y=>Z3 (Xh fs d) x.names ns Xl (x.kids.drop (D+1)) (f++ [y])) (fu,bb)=R:=⟨_,rfl⟩
 have fa:=Xa hR
 rw[hR]
 have l0:w.cell? ⟨kb,ko+D,none⟩=some (.int .i64 (K0:Int)):=by rw[<-c5];exact k4
 obtain ⟨W2,bo⟩:∃W2,w.alloc (.cells #[.int .i64 x.kind, .string x.name, .int .i64 x.place, .slice aC x.cst.length cC, .slice aK x.names.length cK, .slice (some ⟨kb,ko,none⟩) x.kids.length cI] 84)=W2:=⟨_,rfl⟩
 have g2:W2.heap.size=w.heap.size+1:=by rw[<-bo];simp
 have bw:Below w.heap.size w W2:=by rw[<-bo];exact (Below.refl _ _).alloc (Nat.le_refl _) _
 have P:W2.heap[w.heap.size]? =some (.cells #[.int .i64 x.kind, .string x.name, .int .i64 x.place, .slice aC x.cst.length cC, .slice aK x.names.length cK, .slice (some ⟨kb,ko,none⟩) x.kids.length cI] 84 (0,0)):=by rw[<-bo];exact heap_alloc_new w _
 have bl:Hid (W2.cell? ⟨w.heap.size,0,none⟩=some (.int .i64 x.kind)/\W2.cell? ⟨w.heap.size,1,none⟩=some (.string x.name)/\W2.cell? ⟨w.heap.size,2,none⟩=some (.int .i64 x.place)/\W2.cell? ⟨w.heap.size,3,none⟩=some (.slice aC x.cst.length cC)/\W2.cell? ⟨w.heap.size,4,none⟩=some (.slice aK x.names.length cK)/\W2.cell? ⟨w.heap.size,5,none⟩=some (.slice (some ⟨kb,ko,none⟩) x.kids.length cI)):=⟨Xw P 0,Xw P 1,Xw P 2,Xw P 3,Xw P 4,Xw P 5⟩
 have y5:=bl.out.2.2.2.2.2
 have fb:=(Xc bw (show kb<w.heap.size by omega)).trans l0
 have bp:=Xa bw
 have fc:=Xa (hs.below bw)
 have HV:=Xa hv
 have cm:=Xa bn
 have da:=Xa b6
 have db:=Xa b5
 have b7:=Xa c3
 have cc:=Xa cb
 have HE:=Xa hE
 obtain ⟨r0,bx⟩:∃r0,Xh fs d K0 ns fu=r0:=⟨_,rfl⟩
 have fd:=Xa bx
 have f8:r0.l.length<=40:=by rw[<-bx];exact (Ze hok d).few _ _ _ hv.ok
 have dc:r0.fu<=d:=by have h1:=(Ze hok d).le K0 ns fu hv.ok;rw[bx] at h1;omega
 have HC:Hid (Calls Tryz.prog 35 #[.pointer (some ⟨E,0,none⟩), .int .i64 K0,v] W2 (RunAns B E (100 *(d+1)) fv fs r0.c r0.l r0.fu W2)):=by
  rw[<-bx]
  exact Kp HO.out c9.out.1 fc.out (hv.below bw) d4 (Below.refl _ _)
 obtain ⟨ao,co,fe⟩:=b6.slice
 obtain ⟨ad,cd,ff⟩:=b5.slice
 obtain ⟨av,cv,fg⟩:=hv.slice
 subst fe ff fg
 obtain ⟨OL,hO⟩:∃OL,bb.length=OL:=⟨_,rfl⟩
 have cn:=Xa hO
 obtain ⟨LN,dd⟩:∃LN,ns.length=LN:=⟨_,rfl⟩
 obtain ⟨KL,b8⟩:∃KL,x.kids.length=KL:=⟨_,rfl⟩
 obtain ⟨NL,b9⟩:∃NL,x.names.length=NL:=⟨_,rfl⟩
 have f9:D<KL:=by omega
 have f3:(D:Int)<(KL:Int):=by omega
 have f4:¬((D:Int)=(KL:Int)):=by omega
 have ga:D<=5:=by omega
 have fh:=Xa b8
 have gb:=Xa b9
 unfold Ym
 rw[dd] at HC HV|-
 rw[hO,hD,b8,b9]
 rw[hO] at da b7
 rw[hD] at db b7
 rw[b8] at bo y5 bl cm
 rw[b9] at bo bl cm
 have de:D+(mm+1)=KL:=by omega
 have fi:=Xa de
 obtain ⟨i0,bq,br,bs,bt⟩:=info_parts J8
 have df:=b6.row.lt
 have dg:=b5.row.lt
 have cp:=Xa df
 have gc:=Xa dg
 have fj:=Xa d5
 clear ho ih d3 bn hs hv b5 b6 c3 hx k9 m1 m2 e9 hR bw P bx c5 k4 d8 d9 l0 hO hD dd b8 b9 df dg de cb hok
 go_enter Tryz.func76,Tryz.ntmps76
 go_wp2_with fail
 refine HC.out.mono ?_
 rintro e W5 ⟨sv,xs,m,rfl,dh,bz,ca,di,fk⟩
 have fl:=Xa (Xka (R:=R) (k:=Yh) (h:=(fun y=>Z3 (Xh fs d) x.names ns Xl (x.kids.drop (D+1)) (f++ [y]))) (n:=Xk x D) (by rw[c9.out.2];exact fd.out) di cc.out (by rw[Xan];exact fa.out.symm))
 have cq:=Xa bz
 have cr:=Xa ca
 have bg:=Xa g2
 have z5:=bz.size
 obtain ⟨a4,c4,rfl⟩:=ca.slice
 obtain ⟨M,hM⟩:∃M,m.length=M:=⟨_,rfl⟩
 have cs:=Xa hM
 have gd:M<=20000000:=by omega
 -- the rows behind the run
 have dj:Hid (LR E bO W5 (.slice ao OL co) bv bb):=(da.out.keepB bp.out).keep bz
 have ce:Hid (LR E bD W5 (.slice ad D cd) t f):=(db.out.keepB bp.out).keep bz
 have fm:Hid (MapSt B E d fv fs (Value.slice ao OL co).ownBlock bO W5 r0.c r0.fu (.slice ao OL co) bv bb W5):=⟨dh,FrX.refl _ _ _,dj.out, .inl rfl,by have:=cc.out;omega,dc⟩
 have dk:Hid ((Value.slice a4 M c4).ownBlock=none\/(Value.slice a4 M c4).ownBlock≠(Value.slice ao OL co).ownBlock):=by
  cases e3:(Value.slice a4 M c4).ownBlock with
  |none=>exact .inl rfl
  |some y=>
   refine .inr (fun e4=> ?_)
   have h1:=(ca.row.lt y (by rw[hM];exact e3)).1
   have h2:=(cp.out y (by rw[cn.out];exact e4.symm)).2
   have:=bg.out
   omega
 rw[hM] at cr|-
 clear dh bz ca di fk hM g2 y5 fb bo
 go_wp2_with fail
 go_loopw [4,15] (fun o i wr=>∃(k:Nat) (c:Int) (fu:Nat) (bv:List Value) (bb:List (List VN)),k<=M/\i= .int .i64 k/\Hid (Now R (fun st=>Y3 (Xq (fun y=>Z3 (Xh fs d) x.names ns Xl (x.kids.drop (D+1)) (f++ [y])) (m.drop k) st) Yh) c fu bb)/\MapSt B E d fv fs (Value.slice ao OL co).ownBlock bO W5 c fu o bv bb wr) (fun _ i _=>M-(intOf i).toNat)
 case atStart=>exact ⟨0,r0.c,r0.fu,bv,bb,Nat.zero_le _,rfl,fl.out,fm.out⟩
 case round =>
  obtain ⟨k,c,bu,b0,g,hk,rfl,bf,z⟩:=hrel
  have s:=Xa z
  obtain ⟨bh,bi,rfl⟩:=z.lo.slice
  obtain ⟨_,_,q2,_,_⟩:=z.se.cells
  have zs:=z.fr.keep.size
  by_cases hlt:k<M
  ·have f5 : (k : Int) < (M : Int) := by omega
   by_cases h0:c=0
   ·subst h0
    obtain ⟨dl,b1⟩:=bf.next rfl (by rw[cs.out];exact hlt)
    have fn:Hid (LR E W2.heap.size wr (.slice a4 M c4) xs m):=cr.out.keepX z.fr dk.out
    have S:Hid (LR E bD wr (.slice ad D cd) t f):=ce.out.keepX z.fr b7.out
    obtain ⟨b,J,L,rfl,gf,b2,ct⟩:=fn.out.cell (j:=k) (by rw[cs.out];exact hlt)
    have bm:=z.apart (av:=(.slice (some ⟨b,0,none⟩) M c4)) (fun y hy=>(cr.out.row.lt y hy).2) dk.out
    have dm:b≠E:=by have:=HE.out;have:=bg.out;omega
    have dp:some b≠(Value.slice bh g.length bi).ownBlock:=by
     rcases bm with e|e
     ·cases e
     ·exact e
    have T:some w.heap.size≠(Value.slice bh g.length bi).ownBlock:=z.far (by have:=bg.out;omega) (fun e=>by have:=(cp.out _ (by rw[cn.out];exact e.symm)).2;omega)
    have dq:=z.apart (av:= .slice ad D cd) (fun y hy=>(ce.out.row.lt y hy).2) b7.out
    have q:=(cq.out.frx (Value.slice ao OL co).ownBlock).trans z.fr (.inl rfl)
    have V:some w.heap.size≠(Value.slice ao OL co).ownBlock:=fun e=>by have:=(cp.out _ (by rw[cn.out];exact e.symm)).2;omega
    obtain ⟨x0,x1,x2,x3,x4,x5⟩:=bl.out
    have y0:=q.cellE (by have:=HE.out;omega) V x0
    have y1:=q.cellE (by have:=HE.out;omega) V x1
    have y2:=q.cellE (by have:=HE.out;omega) V x2
    have y3:=q.cellE (by have:=HE.out;omega) V x3
    have y4:=q.cellE (by have:=HE.out;omega) V x4
    have y5:=q.cellE (by have:=HE.out;omega) V x5
    obtain ⟨G,dr⟩:∃G,(Xn m k).length=G:=⟨_,rfl⟩
    rw[dr] at b2 ct
    have bc:Hid (∀Y,FrX E (Value.slice bh g.length bi).ownBlock wr Y->(Y.cell? ⟨w.heap.size,0,none⟩=some (.int .i64 x.kind)/\Y.cell? ⟨w.heap.size,1,none⟩=some (.string x.name)/\Y.cell? ⟨w.heap.size,2,none⟩=some (.int .i64 x.place)/\Y.cell? ⟨w.heap.size,3,none⟩=some (.slice aC x.cst.length cC)/\Y.cell? ⟨w.heap.size,4,none⟩=some (.slice aK NL cK)/\Y.cell? ⟨w.heap.size,5,none⟩=some (.slice (some ⟨kb,ko,none⟩) KL cI)/\Y.cell? ⟨b,k,none⟩=some (.slice J G L))):=fun Y hY=>⟨hY.cellE (by have:=HE.out;omega) T y0,hY.cellE (by have:=HE.out;omega) T y1,hY.cellE (by have:=HE.out;omega) T y2,hY.cellE (by have:=HE.out;omega) T y3,hY.cellE (by have:=HE.out;omega) T y4,hY.cellE (by have:=HE.out;omega) T y5,hY.cellE dm dp b2⟩
    have bd:Hid (∀Y,Below wr.heap.size wr Y->FrX E (Value.slice bh g.length bi).ownBlock wr Y):=fun Y h=>(ButE.of_below h).frx _
    have ds:Hid (FNodeIn B wr x (.slice aC x.cst.length cC) (.slice aK NL cK) (.slice (some ⟨kb,ko,none⟩) KL cI)):=(cm.out.below (bp.out.mono (by have:=HE.out;omega))).below (q.keep.below d7 (by have:=bg.out;have:=HE.out;omega) q.os q.tape q.output)
    have fo:Hid (NR E wr (.slice av LN cv) ns):=(HV.out.below bp.out).keep q.keep
    have dt:=Xa ct
    have cf:Hid (∀(w7:World) (v7:Value),Below wr.heap.size wr w7->LR E wr.heap.size w7 v7 (t++ [.slice J G L]) (f++ [Xn m k])->Calls Tryz.prog 76 #[.pointer (some ⟨E,0,none⟩), .agg #[.int .i64 x.kind, .string x.name, .int .i64 x.place, .slice aC x.cst.length cC, .slice aK NL cK, .slice (some ⟨kb,ko,none⟩) KL cI], .slice av LN cv,v7, .slice bh g.length bi] w7 (Xqa B E d fv fs (Z3 (Xh fs d) x.names ns Xl (x.kids.drop (D+1)) (f++ [Xn m k]) (bu,g)) (Value.slice bh g.length bi).ownBlock bO w7)):=fun w7 v7 F hl7=>by
     have h1:=d6.out (.slice aC x.cst.length cC) (.slice aK NL cK) (.slice (some ⟨kb,ko,none⟩) KL cI) (.slice av LN cv) ns (f++ [Xn m k]) g v7 (.slice bh g.length bi) (t++ [.slice J G L]) b0 wr.heap.size bO bu w7 (by have:=HD.out;have:=fi.out;have:=fh.out;simp;omega) (ds.out.below (F.mono (by have:=HE.out;have:=bg.out;omega))) (z.se.below F) (fo.out.below F) hl7 (z.lo.keepB F) (by
      cases e3:v7.ownBlock with
      |none=>exact .inl rfl
      |some y=>
       refine .inr (fun e4=> ?_)
       have h1:=(hl7.row.lt y e3).1
       have h2:=(z.lo.row.lt y e4.symm).2
       omega) b1 z.fud (by have:=fj.out;have:=bg.out;have:=F.size;omega)
     rw[show (f++ [Xn m k]).length=D+1 by rw[List.length_append,HD.out];rfl] at h1
     exact h1
    have fp:=Xa dl
    have du:Hid (∀(w7:World) (v7:Value),Below wr.heap.size wr w7->w7.ownsRow wr.heap.size 25 1 v7 (D+1) (t++ [.slice J G L])->LR E wr.heap.size w7 v7 (t++ [.slice J G L]) (f++ [Xn m k])):=fun w7 v7 F hown=>⟨by rw[List.length_append,HD.out];exact hown,by have:=HE.out;have:=bg.out;omega,fun j hj=>by
     by_cases e:j<f.length
     ·rw[Xim e,List.getD_eq_getElem?_getD,List.getElem?_append_left (by rw[S.out.len];exact e),<-List.getD_eq_getElem?_getD]
      exact (S.out.inn j e).below F
     ·have fq:j=f.length:=by rw[List.length_append,List.length_singleton] at hj;omega
      subst fq
      rw[Xin (Nat.le_refl _),List.getD_eq_getElem?_getD,List.getElem?_append_right (by rw[S.out.len];exact Nat.le_refl _),S.out.len,Nat.sub_self]
      exact dt.out.below F⟩
    have cu:Hid (∀W,Below wr.heap.size wr W->(0<D->∃adr,ad=some adr/\∀j u,t[j]? =some u->W.cell? (adr.add j)=some u)):=fun W hb=>(S.out.keepB hb).src
    have cw:=Xa S.out.ones
    have cy:Hid (t.length=D *1):=by rw[Hid,S.out.len,HD.out,Nat.mul_one]
    have BA:Hid (Below wr.heap.size wr (wr.drew.alloc (.cells #[] 25))):=(Below.refl _ _).drew.alloc (Nat.le_refl _) _
    have BB:Hid (Below wr.heap.size wr ((wr.drew.alloc (.cells #[] 25)).alloc (.cells #[.slice J G L] 25))):=BA.out.alloc (by simp) _
    have BX:Hid (Below wr.heap.size wr (wr.drew.alloc (.cells #[.slice J G L] 25))):=(Below.refl _ _).drew.alloc (Nat.le_refl _) _
    have BC:Hid (Below wr.heap.size wr ((wr.drew.alloc (.cells #[.slice J G L] 25)).alloc (.cells #[] 25))):=BX.out.alloc (by simp) _
    have OA:Hid ((wr.drew.alloc (.cells #[] 25)).ownsRow wr.heap.size 25 1 (.slice (some ⟨wr.heap.size,0,none⟩) 0 0) 0 []):=World.ownsRow_lit wr.drew #[] 0 (Nat.le_refl _) (by simp[maxLen]) rfl
    have OB:Hid (((wr.drew.alloc (.cells #[] 25)).alloc (.cells #[.slice J G L] 25)).ownsRow wr.heap.size 25 1 (.slice (some ⟨wr.heap.size,0,none⟩) 0 0) 0 []):=OA.out.alloc _
    have OC:Hid (((wr.drew.alloc (.cells #[.slice J G L] 25)).alloc (.cells #[] 25)).ownsRow wr.heap.size 25 1 (.slice (some ⟨wr.heap.size+1,0,none⟩) 0 0) 0 []):=by
     have h1:=World.ownsRow_lit (base:=wr.heap.size) (e:=25) (size:=1) (wr.drew.alloc (.cells #[.slice J G L] 25)) #[] 0 (by simp) (by simp[maxLen]) rfl
     unfold Hid
     simpa using h1
    have ft:Hid (((wr.drew.alloc (.cells #[] 25)).alloc (.cells #[.slice J G L] 25)).cell? ⟨wr.heap.size+1,0,none⟩=some (.slice J G L)):=by
     have h1:=Xxt (wr.drew.alloc (.cells #[] 25)) (.slice J G L)
     unfold Hid
     simpa using h1
    have fw:Hid (((wr.drew.alloc (.cells #[.slice J G L] 25)).alloc (.cells #[] 25)).cell? ⟨wr.heap.size,0,none⟩=some (.slice J G L)):=by
     rw[Hid,World.cell?_alloc_past _ _ _ (by simp)]
     have h1:=Xxt wr.drew (.slice J G L)
     simpa using h1
    obtain ⟨be,X⟩:∃be,g.length=be:=⟨_,rfl⟩
    rw[X] at s bc bd cf|-
    have cg:=Xa X
    clear bf z dl b1 ct dr x0 x1 x2 x3 x4 x5 bm dq q V dp T X
    go_wp2_with fail
    go_region_held3 (fun Y=>Y.cell? ⟨w.heap.size,0,none⟩=some (.int .i64 x.kind)/\Y.cell? ⟨w.heap.size,1,none⟩=some (.string x.name)/\Y.cell? ⟨w.heap.size,2,none⟩=some (.int .i64 x.place)/\Y.cell? ⟨w.heap.size,3,none⟩=some (.slice aC x.cst.length cC)/\Y.cell? ⟨w.heap.size,4,none⟩=some (.slice aK NL cK)/\Y.cell? ⟨w.heap.size,5,none⟩=some (.slice (some ⟨kb,ko,none⟩) KL cI)/\Y.cell? ⟨b,k,none⟩=some (.slice J G L))
     (first|exact bc.out _ b3|exact bc.out _ (bd.out _ F)|exact bc.out _ (bd.out _ (ba.alloc ba.size _))|exact bc.out _ (bd.out _ ba)|exact bc.out _ (bd.out _ (Below.refl _ _).drew)|exact bc.out _ (bd.out _ BA.out)|exact bc.out _ (bd.out _ BX.out)|exact bc.out _ (bd.out _ BB.out)|exact bc.out _ (bd.out _ BC.out))
     (first
      |(go_at_call 76;refine (cf.out _ _ F (du.out _ _ F bj)).mono ?_;rintro e w8 ⟨gg,fx,m8,c8,fy,rfl,dw,dx,cz,ch,dy,dz,ci⟩;have b3:=(bd.out _ F).trans dx (.inl rfl);obtain ⟨a8,fz,rfl⟩:=cz.slice)
      |(refine Zk (by rfl) _ _ 28 (by rfl) wr.heap.size 25 i0 (.slice none 0 0) 1 24 Tryz.underlying28 bq br bs bt rfl (by decide) _ D t (by rfl) p (some ⟨wr.heap.size + 1, 0, none⟩) 1 1 [.slice J G L] (by rfl) (by rfl) (fun _ => ⟨_, rfl, Xo0 f0⟩) (by intro u hu; simp at hu; subst hu; rfl) (by unfold maxLen; omega) (by omega) (by have := ba.size; omega) ?_; intro v7 w7 C b4 cj
        have F:Below wr.heap.size wr w7:=J7 ba p (Nat.le_refl _) b4
        have bj:=C
        obtain ⟨a7,c7,e7⟩:=Xg C
        subst e7)
      |(refine Zk (by rfl) _ _ 28 (by rfl) wr.heap.size 25 i0 (.slice none 0 0) 1 24 Tryz.underlying28 bq br bs bt rfl (by decide) _ D t (by rfl) p (some ⟨wr.heap.size, 0, none⟩) 1 1 [.slice J G L] (by rfl) (by rfl) (fun _ => ⟨_, rfl, Xo0 f1⟩) (by intro u hu; simp at hu; subst hu; rfl) (by unfold maxLen; omega) (by omega) (by have := ba.size; omega) ?_; intro v7 w7 C b4 cj
        have F:Below wr.heap.size wr w7:=J7 ba p (Nat.le_refl _) b4
        have bj:=C
        obtain ⟨a7,c7,e7⟩:=Xg C
        subst e7)
      |(refine Zk (by rfl) _ _ 28 (by rfl) wr.heap.size 25 i0 (.slice none 0 0) 1 24 Tryz.underlying28 bq br bs bt rfl (by decide) _ D t (by rfl) (p.alloc _) (some ⟨w6.heap.size, 0, none⟩) 1 1 [.slice J G L] (by rfl) (by rfl) (fun _ => ⟨_, rfl, Xsv w6 (.slice J G L) 25⟩) (by intro u hu; simp at hu; subst hu; rfl) (by unfold maxLen; omega) (by omega) (by have := ba.size; simp; omega) ?_; intro v7 w7 C b4 cj
        have F:Below wr.heap.size wr w7:=Xfp ba p (Nat.le_refl _) b4
        have bj:=C
        obtain ⟨a7,c7,e7⟩:=Xg C
        subst e7)
      |(refine Zk (by rfl) _ _ 28 (by rfl) wr.heap.size 25 i0 (.slice none 0 0) 1 24 Tryz.underlying28 bq br bs bt rfl (by decide) _ 0 [] (by rfl) OA.out ad D cd t (by rfl) cy.out (cu.out _ BA.out) cw.out (by unfold maxLen; omega) (by omega) (by simp <;> omega) ?_; intro v6 w6 Z bk ck
        have ba:Below wr.heap.size wr w6:=J7 BA.out OA.out (Nat.le_refl _) bk
        have p:w6.ownsRow wr.heap.size 25 1 v6 D t:=(by simpa using Z)
        obtain ⟨a6,c6,e6⟩:=Xg p
        subst e6)
      |(refine Zk (by rfl) _ _ 28 (by rfl) wr.heap.size 25 i0 (.slice none 0 0) 1 24 Tryz.underlying28 bq br bs bt rfl (by decide) _ 0 [] (by rfl) OB.out ad D cd t (by rfl) cy.out (cu.out _ BB.out) cw.out (by unfold maxLen; omega) (by omega) (by simp <;> omega) ?_; intro v6 w6 Z bk ck
        have ba:Below wr.heap.size wr w6:=J7 BB.out OB.out (Nat.le_refl _) bk
        have p:w6.ownsRow wr.heap.size 25 1 v6 D t:=(by simpa using Z)
        have f0:w6.cell? ⟨wr.heap.size+1,0,none⟩=some (.slice J G L):=(World.grownBy.cell_far bk ⟨wr.heap.size+1,0,none⟩ (by simp) (by simp[Value.ownBlock])).trans ft.out
        obtain ⟨a6,c6,e6⟩:=Xg p
        subst e6)
      |(refine Zk (by rfl) _ _ 28 (by rfl) wr.heap.size 25 i0 (.slice none 0 0) 1 24 Tryz.underlying28 bq br bs bt rfl (by decide) _ 0 [] (by rfl) OC.out ad D cd t (by rfl) cy.out (cu.out _ BC.out) cw.out (by unfold maxLen; omega) (by omega) (by simp <;> omega) ?_; intro v6 w6 Z bk ck
        have ba:Below wr.heap.size wr w6:=J7 BC.out OC.out (Nat.le_refl _) bk
        have p:w6.ownsRow wr.heap.size 25 1 v6 D t:=(by simpa using Z)
        have f1:w6.cell? ⟨wr.heap.size,0,none⟩=some (.slice J G L):=(World.grownBy.cell_far bk ⟨wr.heap.size,0,none⟩ (by simp;omega) (by simp[Value.ownBlock])).trans fw.out
        obtain ⟨a6,c6,e6⟩:=Xg p
        subst e6))
    all_goals
     have cl:Hid (MapSt B E d fv fs (Value.slice ao OL co).ownBlock bO W5 c8 fy (.slice a8 m8.length fz) fx m8 w8):=by
      refine ⟨dw,s.out.fr.trans b3 (s.out.own),cz, ?_,dz,ci⟩
      rcases ch with e|e
      ·rcases s.out.own with e2|e2
       ·exact .inl (e.trans e2)
       ·exact .inr (fun y hy=>e2 y (by rw[<-e];exact hy))
      ·exact .inr (fun y hy=>by have:=e y hy;have:=F.size;omega)
     have d0:=Xa (X3b fp.out dy)
     obtain ⟨d1,d2⟩:∃d1,m8.length=d1:=⟨_,rfl⟩
     rw[d2] at cl|-
     clear dw dx cz ch dy dz ci b3 F d2
     go_wp2_with fail
     go_roundw
     case rel=>exact ⟨k+1,_,_,_,_,by omega,by go_num,d0.out,cl.out⟩
     case measure=>simp[intOf];omega
   ·have q0:(c==0)=false:=by simpa using h0
    have c2:Hid (Now R Yh c bu g):=bf.dead h0 _ _
    obtain ⟨be,X⟩:∃be,g.length=be:=⟨_,rfl⟩
    have cg:=Xa X
    rw[X] at s|-
    clear h0
    clear bf z X
    go_wp2_with fail
    go_ret
    exact ⟨.slice bh be bi,b0,g,c,bu,rfl,s.out.se,(((ButE.of_below bp.out).trans cq.out).frx _).trans s.out.fr (.inl rfl),s.out.lo,by
     rcases s.out.own with e|e
     ·exact .inl e
     ·exact .inr (fun y hy=>by have:=e y hy;have:=bg.out;omega),c2.out,s.out.few,s.out.fud⟩
  ·obtain rfl:k=M:=by omega
   have c2:Hid (Now R Yh c bu g):=bf.over (by rw[cs.out];exact Nat.le_refl _)
   obtain ⟨be,X⟩:∃be,g.length=be:=⟨_,rfl⟩
   have cg:=Xa X
   rw[X] at s|-
   clear bf z X
   go_wp2_with fail
   go_ret
   exact ⟨.slice bh be bi,b0,g,c,bu,rfl,s.out.se,(((ButE.of_below bp.out).trans cq.out).frx _).trans s.out.fr (.inl rfl),s.out.lo,by
    rcases s.out.own with e|e
    ·exact .inl e
    ·exact .inr (fun y hy=>by have:=e y hy;have:=bg.out;omega),c2.out,s.out.few,s.out.fud⟩


theorem Xou {B E d:Nat} {fv:Value} {fs:List FN} {x:FN} (hok:okF fs=true) (ho:Qe B E fv fs d) (hx:NodeOk fs x) (k9:x.kind=9) (hd:d<=100000):∀mm,Xja B E d fv fs x mm
 |0=>Xy1 hx k9
 |mm+1=>Xxu hok ho hx k9 hd (Xou hok ho hx k9 hd mm)
theorem X29 {B E d j n:Nat} {fv v:Value} {fs:List FN} {x:FN} {ns:List VN} {w:World} (hok:okF fs=true) (ho:Qe B E fv fs d) (hx:NodeOk fs x) (k:x.kind=9) (hn:n<fs.length) (hxn:Xo fs n=x) (hse:SE B E fv fs (j+1) 0 w) (hv:NR E w v ns) (hj:j<=d) (hd:d<=100000):
  Calls Tryz.prog 35 #[.pointer (some ⟨E,0,none⟩), .int .i64 n,v] w (RunAns B E (100 *(d+2)) fv fs (evM (Xh fs d) x ns Xl (j,[])).1 (evM (Xh fs d) x ns Xl (j,[])).2.2 (evM (Xh fs d) x ns Xl (j,[])).2.1 w):=by
 obtain ⟨W1,W2,o,b0,o0,bh,aC,cC,aK,cK,aI,cI,hp⟩:=Qh hse hn hxn
 obtain ⟨L,q0,q1,q2,z1,bi,p0,s0,s1,s2,s3,s4,s5,P,bj,g1,g2,g3,g,l,b,f,hE,hB⟩:=hp
 have bk:=Xa g
 have S:=Xa l
 have T:=Xa b
 have bl:=Xa f
 have V:Hid (NR E o v ns):=(hv.but l).below b
 have bm:=Xa hv.ok
 have HO:=Xa ho
 have HX:=Xa hx
 have HE:=Xa hE
 obtain ⟨av,cv,rfl⟩:=hv.slice
 obtain ⟨R,J⟩:∃R,evM (Xh fs d) x ns Xl (j,[])=R:=⟨_,rfl⟩
 have bn:=Xa J
 rw[J]
 have X:(n:Int)<(fs.length:Int):=by omega
 have bo:¬((j:Int)+1=0):=by omega
 have bp:(j:Int)<=1000000:=by omega
 obtain ⟨NF,z⟩:∃NF,fs.length=NF:=⟨_,rfl⟩
 rw[z] at q0 p0 X hn
 have y0:=(Xc b (by omega)).trans f.c0
 have y1:=(Xc b (by omega)).trans f.c1
 have y2:=(Xc b (by omega)).trans f.c2
 have y3:=(Xc b (by omega)).trans f.c3
 have y4:=(Xc b (by omega)).trans f.c4
 have y5:=(Xc b (by omega)).trans f.c5
 obtain ⟨Y,p⟩:∃Y,x.kind=Y:=⟨_,rfl⟩
 rw[p] at s0 P y0
 have HC:Hid (Calls Tryz.prog 76 #[.pointer (some ⟨E,0,none⟩), .agg #[.int .i64 x.kind, .string x.name, .int .i64 x.place, .slice aC x.cst.length cC, .slice aK x.names.length cK, .slice aI x.kids.length cI], .slice av ns.length cv, .slice none 0 0, .slice none 0 0] o (Xqa B E d fv fs R none o.heap.size o)):=by
  have Z:=Xou hok ho hx k hd x.kids.length (.slice aC x.cst.length cC) (.slice aK x.names.length cK) (.slice aI x.kids.length cI) (.slice av ns.length cv) ns [] [] (.slice none 0 0) (.slice none 0 0) [] [] o.heap.size o.heap.size j o (by simp) (f.inn.below (b.mono (by omega))) g V.out (LR.nil (by omega)) (LR.nil (by omega)) (.inl rfl) (by simp) hj (Nat.le_refl _)
  simp only[List.length_nil,List.drop_zero] at Z
  rw[<-Xxc k,J] at Z
  exact Z
 rw[p] at HC
 obtain rfl:Y=9:=by omega
 clear hse hv ho hx hxn hok J L g l b f z p hE hB k
 go_enter Tryz.func35,Tryz.ntmps35
 go_wp2_with fail
 refine HC.out.mono ?_
 rintro e w4 ⟨sv,xs,m,c,fu,rfl,C,D,q,ba,s,bb,bg⟩
 have bc:=Xa s
 have F:=Xa s.many
 have bd:=Xa C
 have be:Hid (ButE E W2 w4):=(ButE.of_below T.out).trans (FrX.toBut (ButE.refl _ _) D (fun x hx=>by cases hx))
 have G:=Xa q
 have bf:Hid (m.length<=100 *(d+2)):=by unfold Hid;omega
 obtain ⟨a4,c4,rfl⟩:=q.slice
 obtain ⟨M,hM⟩:∃M,m.length=M:=⟨_,rfl⟩
 rw[hM] at F G|-
 clear C D q ba s bb hM
 go_wp2_with fail
 refine (Zr a4 M c4 bd.out).mono ?_
 rintro e w5 ⟨rfl,t,y⟩
 rw[F.out] at t
 have HA:=Xa (Qu (M:=100 *(d+2)) (e:= .returned (.slice a4 M c4)) rfl bc.out t S.out (be.out.trans y) (G.out.keep y) (by omega) HE.out bf.out)
 clear t y
 go_wp2_with fail
 go_ret
 exact HA.out


theorem Xz5 {B E d j n:Nat} {fv v:Value} {fs:List FN} {ns:List VN} {w:World} (hok:okF fs=true) (ho:Qe B E fv fs d) (hn:n<fs.length) (hse:SE B E fv fs (j+1) 0 w) (hv:NR E w v ns) (hj:j<=d) (hd:d<=100000):
  Calls Tryz.prog 35 #[.pointer (some ⟨E,0,none⟩), .int .i64 n,v] w (RunAns B E (100 *(d+2)) fv fs (evM (Xh fs d) (Xo fs n) ns Xl (j,[])).1 (evM (Xh fs d) (Xo fs n) ns Xl (j,[])).2.2 (evM (Xh fs d) (Xo fs n) ns Xl (j,[])).2.1 w):=by
 have c:=Xkf hok hn
 obtain ⟨x,b⟩:∃x,Xo fs n=x:=⟨_,rfl⟩
 rw[b] at c|-
 have f:=c.range
 by_cases k1:x.kind=1
 ·exact X0h hok ho c k1 hn b hse hv hj hd
 by_cases k2:x.kind=2\/x.kind=3
 ·exact X1e hok ho c k2 hn b hse hv hj hd
 by_cases k4:x.kind=4
 ·exact X0i hok ho c k4 hn b hse hv hj hd
 by_cases k5:x.kind=5
 ·exact Xwp hok ho c k5 hn b hse hv hj hd
 by_cases k6:x.kind=6
 ·exact X18 hok ho c k6 hn b hse hv hj hd
 by_cases k7:x.kind=7
 ·exact Xv8 hok ho c k7 hn b hse hv hj hd
 by_cases k8:x.kind=8
 ·have g:=c.list k8
  by_cases h0:x.kids.length=0
  ·exact Xyu hok ho c k8 h0 hn b hse hv hj hd
  ·exact Xwt hok ho c k8 (by omega) hn b hse hv hj hd
 by_cases k9:x.kind=9
 ·exact X29 hok ho c k9 hn b hse hv hj hd
 by_cases k10:x.kind=10
 ·exact Xu0 hok ho c k10 hn b hse hv hj hd
 by_cases k11:x.kind=11
 ·exact Xq6 hok ho c k11 hn b hse hv hj hd
 by_cases k12:x.kind=12
 ·exact Xwq hok ho c k12 hn b hse hv hj hd
 by_cases k13:x.kind=13
 ·exact X23 hok ho c k13 hn b hse hv hj hd
 by_cases k14:x.kind=14
 ·exact Xwr hok ho c k14 hn b hse hv hj hd
 by_cases k15:15<=x.kind/\x.kind<=20
 ·exact X27 hok ho c k15.1 k15.2 hn b hse hv hj hd
 by_cases k21:x.kind=21
 ·exact X2t hok ho c k21 hn b hse hv hj hd
 by_cases k22:x.kind=22
 ·exact X37 hok ho c k22 hn b hse hv hj hd
 ·exact X24 hok ho c (by omega) hn b hse hv hj hd
theorem Xz6 {B E:Nat} {fv:Value} {fs:List FN} (hok:okF fs=true):∀d,d<=100000->Qe B E fv fs d:=by
 intro d
 induction d with
 |zero=>
  intro _ n v b o w t f g p
  obtain rfl:o=0:=by omega
  obtain ⟨a,c,rfl⟩:=g.slice
  have q:=Xpc (M:=100 *(0+1)) (l:=(Xh fs 0 n b 0).l) (n:Int) a b.length c f
  exact q
 |succ d ih=>
  intro R n v b o w t f g p
  cases o with
  |zero=>
   obtain ⟨a,c,rfl⟩:=g.slice
   have y:Xh fs (d+1) n b 0=⟨4,[],0⟩:=by rw[Xh,if_pos rfl]
   rw[y]
   exact Xpc (M:=100 *(d+1+1)) (n:Int) a b.length c f
  |succ j=>
   have q:=Xz5 (d:=d) hok (ih (by omega)) t f g (by omega) (by omega)
   obtain ⟨c1,z,C⟩:=X3l fs d n j b rfl
   refine q.mono ?_
   rintro e S ⟨D,F,m,G,s,J,L,P,T⟩
   refine ⟨D,F,m,G,by rw[c1,z];exact s,J,L,fun h=> ?_,by omega⟩
   rw[c1] at h
   rw[C h]
   exact P h


theorem Xok (fv v:Value) (fs:List FN) (vs:List VN) (fuel:Int) (w:World) (hf:FNodesAt w.heap.size w fv fs) (hv:NodesAt w.heap.size w v vs) (h1: -9223372036854775808<=fuel) (h2:fuel<=9223372036854775807):
  Calls Tryz.prog 8 #[fv,v, .int .i64 fuel] w fun e w'=>∃r base rs KV IV lo,e= .returned (.tuple #[r, .int .i64 (Xa4 fs vs fuel)])/\w.heap.size<=base/\Rows2 base w' r (J5 fs vs fuel).length (Xn (J5 fs vs fuel)) rs KV IV lo/\Below w.heap.size w w':=by
 have HF:=Xa hf
 have HV:=Xa hv
 obtain ⟨_,a,T,rfl,_⟩:=hv
 obtain ⟨_,af,q,rfl,_⟩:=hf
 obtain ⟨C,J⟩:∃C,Xa4 fs vs fuel=C:=⟨_,rfl⟩
 obtain ⟨L,hL⟩:∃L,J5 fs vs fuel=L:=⟨_,rfl⟩
 have V:Hid (U9 fs vs fuel=false->C=1/\L= []):=fun h=>by rw[<-J,<-hL];exact Xpq h
 have B:Hid (U9 fs vs fuel=(okB vs&&okF fs&&decide (0<=fuel)&&decide (fuel<=2000))):=rfl
 have bj:Hid (U9 fs vs fuel=true->C=(Ki fs vs fuel).c/\((Ki fs vs fuel).c=0->L=(Ki fs vs fuel).l)/\((Ki fs vs fuel).c≠0->L= [])):=fun h=>by
  rw[<-J,<-hL]
  unfold Xa4 J5
  rw[if_pos h]
  exact ⟨rfl,fun e=>by rw[if_pos ⟨h,e⟩],fun e=>by rw[if_neg (fun k=>e k.2)]⟩
 have bk:L.length<=40:=by rw[<-hL];exact Xfn
 rw[J,hL]
 clear J hL
 have bu:=Xa (Vx fuel 0 2000)
 obtain ⟨i0,bv,bw,bx,bz⟩:=info_parts J8
 go_enter Tryz.func8,Tryz.ntmps8
 go_wp2_with fail
 refine (Xhi w.heap.size _ fs w HF.out (Nat.le_refl _)).mono ?_
 rintro e w1 ⟨rfl,X⟩
 have Y:=Xa X
 have z1:=X.size
 clear X
 cases okf:okF fs
 ·obtain ⟨eC,eL⟩:=V.out (by rw[B.out,okf];simp)
  subst eC eL
  go_wp2_with fail
  go_ret2
  exact ⟨_,w1.heap.size,_,_,_,_,rfl,z1,Rows2.start (World.ownsRow_nil _ _ _ _) (Nat.le_refl _) _,Y.out⟩
 ·go_wp2_with fail
  refine (Xax w.heap.size _ vs w1 (HV.out.below Y.out) z1).mono ?_
  rintro e w2 ⟨rfl,bl⟩
  have s:=Xa (Y.out.trans (bl.mono z1))
  have Z:=s.out.size
  clear bl
  cases ok1:okB vs
  ·obtain ⟨eC,eL⟩:=V.out (by rw[B.out,ok1];rfl)
   subst eC eL
   go_wp2_with fail
   go_ret2
   exact ⟨_,w2.heap.size,_,_,_,_,rfl,Z,Rows2.start (World.ownsRow_nil _ _ _ _) (Nat.le_refl _) _,s.out⟩
  ·go_wp2_with fail
   refine (bu.out w2).mono ?_
   rintro e d ⟨rfl,rfl⟩
   cases hin:inB fuel 0 2000
   ·have cd:¬(0<=fuel/\fuel<=2000):=fun k=>by
     unfold inB at hin
     simp at hin
     omega
    obtain ⟨eC,eL⟩:=V.out (by
     rw[B.out]
     by_cases f1:0<=fuel
     ·rw[decide_eq_false (show ¬fuel<=2000 by omega)];simp
     ·rw[decide_eq_false f1];simp)
    subst eC eL
    go_wp2_with fail
    go_ret2
    exact ⟨_,d.heap.size,_,_,_,_,rfl,Z,Rows2.start (World.ownsRow_nil _ _ _ _) (Nat.le_refl _) _,s.out⟩
   ·have P:0<=fuel/\fuel<=2000:=by
     unfold inB at hin
     simp at hin
     omega
    obtain ⟨hc,ba,t⟩:=bj.out (by rw[B.out,ok1,okf,decide_eq_true P.1,decide_eq_true P.2];rfl)
    obtain ⟨k,rfl⟩:∃k:Nat,fuel=(k:Int):=⟨fuel.toNat,by omega⟩
    have b0:1<=fs.length/\fs.length<=40:=by
     have:=okf
     unfold okF U0 at this
     simp only[Bool.and_eq_true,decide_eq_true_eq] at this
     exact this.1.1
    have D:Hid (∀W,Below d.heap.size d W->W.heap[d.heap.size]? =some (.cells #[.slice af fs.length q, .int .i64 (k:Int), .int .i64 0] 68 (0,0))->Calls Tryz.prog 35 #[.pointer (some ⟨d.heap.size,0,none⟩), .int .i64 ((fs.length:Int)-1), .slice a vs.length T] W (RunAns w.heap.size d.heap.size (100 *(2000+1)) (.slice af fs.length q) fs (Ki fs vs (k:Int)).c (Ki fs vs (k:Int)).l (Ki fs vs (k:Int)).fu W)):=fun W hb hblk=>by
     have hz:=s.out.trans (hb.mono Z)
     have b1:SE w.heap.size d.heap.size (.slice af fs.length q) fs k 0 W:=⟨hblk,HF.out.below hz,Z⟩
     have y:NR d.heap.size W (.slice a vs.length T) vs:=NR.old (HV.out.below hz) ok1 Z hz.size
     have:=Xz6 okf 2000 (by omega) (fs.length-1) (.slice a vs.length T) vs k W (by omega) b1 y (by omega)
     have e1:(((fs.length-1:Nat)):Int)=(fs.length:Int)-1:=by omega
     rw[e1] at this
     exact this
    obtain ⟨r,hr⟩:∃r,Ki fs vs (k:Int)=r:=⟨_,rfl⟩
    rw[hr] at D hc ba t
    obtain ⟨N,hN⟩:∃N,fs.length=N:=⟨_,rfl⟩
    obtain ⟨NV,bm⟩:∃NV,vs.length=NV:=⟨_,rfl⟩
    rw[hN] at D b0|-
    rw[bm] at D|-
    subst hc
    have b2:=Xa ba
    have b3:=Xa t
    have bb:Below d.heap.size d (d.alloc (.cells #[.slice af N q, .int .i64 (k:Int), .int .i64 0] 68)):=(Below.refl _ _).alloc (Nat.le_refl _) _
    have HC:=Xa (D.out _ bb (heap_alloc_new d _))
    have bn:=Xa bb
    clear hr hN bm ba t hin bb
    go_wp2_with fail
    refine HC.out.mono ?_
    rintro e f ⟨sv,xs,m,rfl,bc,hb,F,bd,bo⟩
    have be:Hid (Below w.heap.size w f):=(s.out.trans (bn.out.mono Z)).trans (hb.below Z (by have:=bn.out.size;omega))
    have z3:=be.out.size
    obtain ⟨_,_,q2,_,_⟩:=bc.cells
    have bf:=Xa F
    obtain ⟨a4,c4,rfl⟩:=F.slice
    by_cases h0:r.c=0
    ·have b4:=Xa (b2.out h0)
     obtain rfl:=bd h0
     rw[<-b4.out] at bf|-
     have H1:=Xa h0
     rw[h0] at q2
     obtain ⟨M,hM⟩:∃M,L.length=M:=⟨_,rfl⟩
     have HM:=Xa hM
     rw[hM] at bf bk|-
     obtain ⟨W4,bp⟩:∃W4,f.alloc (.cells #[] 25)=W4:=⟨_,rfl⟩
     have bq:Hid (Below f.heap.size f W4):=by rw[Hid,<-bp];exact (Below.refl _ _).alloc (Nat.le_refl _) _
     have b5:Hid (Rows2 f.heap.size W4 (.slice (some ⟨f.heap.size,0,none⟩) 0 0) 0 (Xn L) (fun _=>undef) (fun _ _=>undef) (fun _ _=>undef) (fun _=>f.heap.size)):=by rw[Hid,<-bp];exact Rows2.start (World.ownsRow_lit f #[] 0 (Nat.le_refl _) (by simp[maxLen]) rfl) (by simp) _
     clear bc hb F bd bo h0 hM
     go_wp2_with fail
     go_loopw [10,11] (fun o i wr=>∃(k:Nat) (rs:Nat->Value) (KV IV:Nat->Nat->Value) (lo:Nat->Nat),k<=M/\i= .int .i64 k/\Rows2 f.heap.size wr o k (Xn L) rs KV IV lo/\Below f.heap.size f wr) (fun o i _=>M-(intOf i).toNat)
     case atStart=>exact ⟨0,_,_,_,_,Nat.zero_le _,rfl,b5.out,bq.out⟩
     case round=>
      obtain ⟨k,rs,KV,IV,lo,hk,rfl,g,z⟩:=hrel
      have HR:=Xa g
      have b6:=Xa z
      have zs:=z.size
      obtain ⟨ao,co,eo⟩:=Xg g.row
      subst eo
      clear g
      by_cases hlt:k<M
      ·have cc:(k:Int)<(M:Int):=by omega
       obtain ⟨b,ax,cx,rfl,ce,bg,y⟩:=(bf.out.keepB z).cell (j:=k) (by rw[HM.out];exact hlt)
       have br:=Xa (Xj7 wr.heap.size _ (Xn L k) wr y.nodes y.ok (Nat.le_refl _))
       obtain ⟨LX,bh⟩:∃LX,(Xn L k).length=LX:=⟨_,rfl⟩
       have b7:=Xa bh
       rw[bh] at bg br
       clear z y bh
       go_wp2_with fail
       refine br.out.mono ?_
       rintro e w4 ⟨r4,K,I,rfl,bi,G⟩
       have b8:=Xa bi
       obtain ⟨ar,cr,er⟩:=Xg bi.row
       rw[b7.out] at er
       subst er
       have bs:=Xa G
       have z4:=G.size
       have R:=Xa (HR.out.below G).row
       clear bi G
       go_wp2_with (at_builtin;refine wpList_append_own_at _ rfl _ _ 28 rfl f.heap.size 25 i0 (.slice none 0 0) 1 24 Tryz.underlying28 bv bw bx bz rfl (by decide) _ _ _ rfl (R.out.alloc _) ⟨w4.heap.size,0,none⟩ 1 1 [.slice ar LX cr] rfl rfl ?c1 ?c2 ?c3 ?c4 ?c5 ?_)
       case c1=>exact cell_one_new _ _ _
       case c2=>intro u hu;simp at hu;subst hu;rfl
       case c3=>unfold maxLen;omega
       case c4=>omega
       case c5=>simp;omega
       intro v' w5 S p _ _
       have b9:=Xa (HR.out.snoc bs.out b8.out S p)
       have ca:Hid (Below f.heap.size f w5):=((b6.out.trans (bs.out.mono zs)).alloc (by omega) _).grown p (by simp;omega) (fun x hx=>(R.out.lt x hx).1)
       clear S p
       go_wp2_with fail
       go_roundw
       case rel=>exact ⟨k+1,_,_,_,_,by omega,by go_num,b9.out,ca.out⟩
       case measure=>simp[intOf];omega
      ·obtain rfl:k=M:=by omega
       go_wp2_with fail
       go_ret2
       exact ⟨.slice ao k co,f.heap.size,_,_,_,_,by rw[H1.out];rfl,z3,by rw[HM.out];exact HR.out,be.out.trans (z.mono z3)⟩
    ·obtain rfl:L= []:=b3.out h0
     obtain ⟨C,J⟩:∃C,r.c=C:=⟨_,rfl⟩
     have cb:=Xa J
     rw[J] at q2 h0
     have q0:(C !=0)=true:=by simpa using h0
     have q1:(C==0)=false:=by simpa using h0
     obtain ⟨M,hM⟩:∃M,m.length=M:=⟨_,rfl⟩
     rw[hM]
     clear bc hb F bd bo h0 J hM
     go_wp2_with fail
     go_quiet (fail)
     have bt:=Xa (below_drewN (Below.refl f.heap.size f) nq)
     go_wp2_with fail
     go_ret2
     exact ⟨.slice none 0 0,f.heap.size,_,_,_,_,by rw[cb.out];rfl,z3,Rows2.start (World.ownsRow_nil _ _ _ _) (by have:=bt.out.size;omega) _,be.out.trans (bt.out.mono z3)⟩
end Go.Proofs.YtdjddneidbddpaaGreatDoor
