import Derived.Test.YtdjddneidbddpaaGreatDoorMkH
import Derived.Test.YtdjddneidbddpaaGreatDoorEqSS
import Derived.Test.YtdjddneidbddpaaGreatDoorIParts
import Derived.Test.YtdjddneidbddpaaGreatDoorIEv
import Derived.Test.YtdjddneidbddpaaGreatDoorSEv
namespace Go.Proofs.YtdjddneidbddpaaGreatDoor
set_option linter.unusedSectionVars false
set_option maxRecDepth 100000
set_option maxHeartbeats 6400000
open Go.RowKit
set_option linter.unusedSimpArgs false
set_option linter.unusedVariables false
theorem From.rest {base lo:Nat} {a w w':World} (h:From base a w) (hs:w.heap.size<=w'.heap.size) (hr:∀x,lo<=x->x<w.heap.size->w'.heap[x]? =w.heap[x]?) (hl:lo<=base):From base a w':=
 ⟨Nat.le_trans h.1 hs,fun c h1 h2=>(hr c (by omega) (by have:=h.1;omega)).trans (h.2 c h1 h2)⟩
theorem Below.nextE {A:Nat} {a b c:World} (h:Below A a b) (h2:Below b.heap.size b c) (hA:A<=b.heap.size):Below A a c:=h.trans (h2.mono hA)
theorem Xy0 (fs:List FN) (vs:List VN) (fuel:Int) (h1: -9223372036854775808<=fuel) (h2:fuel<=9223372036854775807):∃(C:Int) (N:Nat) (R:Nat->List VN),N<=80/\(∀i,i<N->Few (R i)/\∀j,j<(R i).length->Fits (Xb (R i) j))/\
  (∀fv v w,FNodesAt w.heap.size w fv fs->NodesAt w.heap.size w v vs->Calls Tryz.prog 8 #[fv,v, .int .i64 fuel] w fun e w'=>∃r base rs KV IV lo,e= .returned (.tuple #[r, .int .i64 C])/\w.heap.size<=base/\Rows2 base w' r N R rs KV IV lo/\Below w.heap.size w w')/\
  (∀fv v w,FNodesAt w.heap.size w fv fs->NodesAt w.heap.size w v vs->Errs4 w->Calls Tryz.prog 7 #[fv,v, .int .i64 fuel] w fun e w'=>∃r base rs KV IV lo,e= .returned (.tuple #[r, .int .i64 C])/\w.heap.size<=base/\Rows2 base w' r N R rs KV IV lo/\Below w.heap.size w w'):=by
 refine ⟨Xa4 fs vs fuel,(J5 fs vs fuel).length,Xn (J5 fs vs fuel),Nat.le_trans Xfn (by omega),fun i hi=> ?_,fun fv v w hf hv=>Xok fv v fs vs fuel w hf hv h1 h2,fun fv v w hf hv hE=>Xpr fv v fs vs fuel w hf hv hE h1 h2⟩
 have c:Xn (J5 fs vs fuel) i∈J5 fs vs fuel:=by
  unfold Xn
  rw[List.getD_eq_getElem?_getD,List.getElem?_eq_getElem hi]
  exact List.getElem_mem hi
 have b:=X1w _ c
 exact ⟨⟨(Xm b).1.2,fun j hj=>⟨(K7 b j hj).2.2,(K7 b j hj).2.1⟩⟩,Uf b⟩
theorem Xp8 (fv v:Value) (fs:List FN) (vs:List VN) (fuel:Int) (w:World) (hf:RawFNodes w.heap.size w fv fs) (hv:RawNodes w.heap.size w v vs) (hE:Errs4 w) (h1: -9223372036854775808<=fuel) (h2:fuel<=9223372036854775807):
  Calls Tryz.prog 4 #[fv,v, .int .i64 fuel] w fun e w'=>e= .returned (.bool true)/\Below w.heap.size w w':=by
 have HF:=Xa hf
 have HV:=Xa hv
 have HE:=Xa hE
 obtain ⟨_,a1,go,rfl,_⟩:=hf
 obtain ⟨_,a2,gp,rfl,_⟩:=hv
 obtain ⟨C,N,R,hN,hR,cx,cy⟩:=Xy0 fs vs fuel h1 h2
 have HR:=Xa hR
 have cb:Hid (∀i,i<N->Few (R i)):=fun i hi=>(HR.out i hi).1
 have CS:=Xa cx
 have CI:=Xa cy
 obtain ⟨n1,bm⟩:∃n,fs.length=n:=⟨_,rfl⟩
 obtain ⟨n2,V⟩:∃n,vs.length=n:=⟨_,rfl⟩
 rw[bm] at HF
 rw[V] at HV
 rw[bm,V]
 have d:=Xa bm
 have f:=Xa V
 clear hR cx cy hE bm V
 go_enter Tryz.func4,Tryz.ntmps4
 go_wp2_with fail
 refine (Xva w.heap.size _ fs 1048576 _ HF.out (Nat.le_refl _) (by omega) (by omega)).mono ?_
 rintro e w1 ⟨⟨q,rfl,hq,hs⟩,bn⟩
 have fw:=Xa hs
 have z1:=bn.size
 clear hs
 by_cases hq0:q<0
 ·go_wp2_with fail
  go_ret
  exact ⟨rfl,bn⟩
 have ba:=Xa (fw.out (by omega))
 have bo:=Xa (HF.out.fit ba.out.1 ba.out.2.1)
 have cz:=Xa bn
 clear bn
 go_wp2_with fail
 refine (Xis w.heap.size _ vs q w1 (HV.out.below cz.out) z1 (by omega) (by omega)).mono ?_
 rintro e w2 ⟨⟨q2,rfl,g0,hs⟩,c2⟩
 have fx:=Xa hs
 have bp:=Xa (Below.nextE cz.out c2 z1)
 have z2:=bp.out.size
 clear hs c2
 by_cases hq3:q2<0
 ·go_wp2_with fail
  go_ret
  exact ⟨rfl,bp.out⟩
 have X:=Xa (fx.out (by omega))
 have Y:=Xa (HV.out.fit X.out.1 X.out.2.1)
 have bb:=Xa Y.out.fits
 have HL:=Xa Y.out.1
 have c3:Hid (Jc fs fs.length<=3145728):=by have:=ba.out.2.2;rw[Hid];omega
 go_wp2_with fail
 refine (Xav w.heap.size _ fs _ (bo.out.below bp.out) z2).mono ?_
 rintro e w3 ⟨rfl,c4,c5⟩
 have fy:=Xa c4
 have cc:=Xa (Below.nextE bp.out c5 z2)
 have z3:=cc.out.size
 clear c4 c5
 try rw[d.out]
 go_wp2_with fail
 refine (Vs w.heap.size _ vs _ (Y.out.below cc.out) z3).mono ?_
 rintro e w4 ⟨g1,g2,rfl,c6,bq⟩
 have fz:=Xa c6
 have f0:=Xa ((fy.out.below bq).wide bq.size)
 have c7:=Xa (Below.nextE cc.out bq z3)
 have z4:=c7.out.size
 clear c6 bq
 try rw[f.out]
 go_wp2_with fail
 refine (CS.out _ _ w4 (by have:=f0.out;rw[d.out] at this;exact this) (by have:=fz.out.nodes HL.out bb.out;rw[f.out] at this;exact this)).mono ?_
 rintro e w5 ⟨r0,f1,g3,g4,g5,g6,rfl,fr,z,c9⟩
 have cd:=Xa z
 obtain ⟨a0,c0,f2⟩:=Xg z.row
 subst f2
 have ce:=Xa (Below.nextE c7.out c9 z4)
 have z5:=ce.out.size
 clear z c9
 go_wp2_with fail
 refine (Xfi w.heap.size _ fs _ (bo.out.below ce.out) z5).mono ?_
 rintro e w6 ⟨rfl,⟨L6,Q6,bc,bd⟩,da,br⟩
 have be:=Xa bc
 have bf:=Xa bd
 have db:=Xa da
 have f3:=Xa br
 have dc:=Xa (Below.nextE ce.out br z5)
 have z6:=br.size
 clear bc bd da br
 try rw[d.out]
 go_wp2_with fail
 refine (Vs w.heap.size _ vs _ (Y.out.below dc.out) (by omega)).mono ?_
 rintro e w7 ⟨dd,de,rfl,df,bg⟩
 have bs:=Xa df
 have f4:=Xa (Below.nextE f3.out bg z6)
 have dg:=Xa bg
 have dh:=Xa (Below.nextE dc.out bg (by omega))
 have z7:=bg.size
 clear df bg
 try rw[f.out]
 go_wp2_with fail
 refine (CI.out _ _ w7 (by have:=(db.out.below dg.out).wide z7;rw[d.out] at this;exact this) (by have:=bs.out.nodes HL.out bb.out;rw[f.out] at this;exact this) (HE.out.keep dh.out)).mono ?_
 rintro e w8 ⟨r8,g,cf,cg,ch,ci,rfl,ft,b,Z⟩
 have cj:=Xa b
 have di:g<=w8.heap.size:=Nat.le_trans (b.low _ (Nat.le_refl _)) b.top
 obtain ⟨a8,c8,f5⟩:=Xg b.row
 subst f5
 have dj:=Xa (Below.nextE f4.out Z (by omega))
 have f6:=Xa (Below.nextE dg.out Z z7)
 have f7:=Xa Z
 have f8:=Xa (Below.nextE dh.out Z (by omega))
 have z8:=Z.size
 clear b Z
 go_wp2_with fail
 refine (Xaw w8.heap.size _ _ N R _ (cj.out.rows hN HR.out) ((cd.out.below dj.out).rows hN HR.out) (Nat.le_refl _)).mono ?_
 rintro e w9 ⟨rfl,J⟩
 have f9:=Xa (Below.nextE dj.out J (by omega))
 have ga:=Xa (Below.nextE f6.out J (by omega))
 have gb:=Xa (Below.nextE f7.out J z8)
 have dk:=Xa (Below.nextE f8.out J (by omega))
 have dl:=Xa ((From.refl g w8).below J)
 have z9:=J.size
 clear J
 go_wp2_with fail
 refine (Xav w.heap.size _ fs _ (bo.out.below dk.out) (by omega)).mono ?_
 rintro e dm ⟨rfl,bu,j⟩
 have dp:=Xa bu
 have dq:=Xa (Below.nextE f9.out j (by omega))
 have bv:=Xa (Below.nextE ga.out j (by omega))
 have dr:=Xa (Below.nextE gb.out j (by omega))
 have ds:=Xa (Below.nextE dk.out j (by omega))
 have ck:=Xa (dl.out.below j)
 have g7:=j.size
 clear bu j
 try rw[d.out]
 go_wp2_with fail
 refine (Xn6 dm.heap.size _ _ fs _ (by have:=(db.out.below bv.out).wide (B':=dm.heap.size) (by omega);rw[d.out] at this;exact this) (by have:=dp.out;rw[d.out] at this;exact this) (Nat.le_refl _)).mono ?_
 rintro e g8 ⟨rfl,l⟩
 have dt:=Xa (Below.nextE dq.out l (by omega))
 have du:=Xa (Below.nextE bv.out l (by omega))
 have dv:=Xa (Below.nextE dr.out l (by omega))
 have bw:=Xa (Below.nextE ds.out l (by omega))
 have cl:=Xa (ck.out.below l)
 have g9:=l.size
 clear l
 go_wp2_with fail
 refine (Vs w.heap.size _ vs _ (Y.out.below bw.out) (by omega)).mono ?_
 rintro e gc ⟨gq,gr,rfl,bx,o⟩
 have dw:=Xa bx
 have dx:=Xa (Below.nextE dt.out o (by omega))
 have dy:=Xa (Below.nextE du.out o (by omega))
 have bz:=Xa (Below.nextE dv.out o (by omega))
 have dz:=Xa (Below.nextE bw.out o (by omega))
 have cm:=Xa (cl.out.below o)
 have ja:=o.size
 clear bx o
 try rw[f.out]
 go_wp2_with fail
 refine (Xbo gc.heap.size _ _ vs _ (by have:=(bs.out.below bz.out).nodes HL.out bb.out;rw[f.out] at this;exact this) (by have:=dw.out.nodes HL.out bb.out;rw[f.out] at this;exact this) (Nat.le_refl _)).mono ?_
 rintro e bh ⟨rfl,p⟩
 have d0:=Xa (Below.nextE dx.out p (by omega))
 have b0:=Xa (Below.nextE dy.out p (by omega))
 have d1:=Xa (Below.nextE bz.out p (by omega))
 have d2:=Xa (Below.nextE dz.out p (by omega))
 have cn:=Xa (cm.out.below p)
 have jb:=p.size
 clear p
 have d3:Hid (Calls Tryz.prog 18 #[.slice (some ⟨w5.heap.size,0,none⟩) n1 n1, .int .i64 1] bh fun e w'=>e= .returned (.int .i64 (1+Jc fs fs.length:Nat))/\Below w5.heap.size bh w'/\∀x,w6.heap.size<=x->x<bh.heap.size->w'.heap[x]? =bh.heap[x]?):=by
  have:=Xji w5.heap.size 1 fs L6 Q6 bh (Y4 be.out b0.out be.out.lt) (bf.out.below b0.out) ba.out.1 ba.out.2.1 (by omega) (by have:=c3.out;omega)
  rw[d.out] at this
  rw[Hid,d.out]
  have ht:=bf.out.top
  rw[d.out] at ht
  exact this.mono fun e w' ⟨h1,h2,h3⟩=>⟨h1,h2,fun x hx=>h3 x (by omega)⟩
 obtain ⟨bt,b1⟩:∃M,1+Jc fs fs.length=M:=⟨_,rfl⟩
 rw[b1] at d3
 have gd:1<=bt/\bt<=3145729:=by have:=c3.out;omega
 clear b1
 go_wp2_with fail
 refine d3.out.mono ?_
 rintro e co ⟨rfl,L,s⟩
 have cp:=Xa s
 have d4:=Xa (d0.out.trans L)
 have d5:=Xa (d2.out.trans (L.mono z5))
 have d6:=L.size
 have cq:=Xa (cn.out.rest d6 s (by omega))
 have gf:Hid (∀i,i<vs.length->(Xb vs i).keys.length<=1048576/\(Xb vs i).kids.length<=1048576):=fun i hi=>⟨(X.out.2.1 i hi).kn,(X.out.2.1 i hi).ki⟩
 have gg:Hid (Marky w6.heap.size co w6.heap.size n2 (Jz vs) (J0 vs) dd de):=by
  have:=(bs.out.below d1.out).marky_keep (w':=co) X.out.1 gf.out d6 (fun x h1 h2=>cp.out x h1 h2)
  rw[f.out] at this
  exact this
 have V:n2<=1048576:=by have:=X.out.1;have:=f.out;omega
 clear L s
 go_wp2_with fail
 refine (Wl w6.heap.size w6.heap.size n2 n2 bt (some ⟨w6.heap.size,0,none⟩) _ _ dd de co (fun _=>⟨rfl,gg.out⟩) (by omega) V (by omega) (by omega)).mono ?_
 rintro e gh ⟨rfl,_,bi,P⟩
 have b2:=Xa (d4.out.trans (P.mono z6))
 have d7:=Xa (d5.out.trans (P.mono (by omega)))
 have bj:=Xa (cq.out.only bi (fun c hc=>by
  have:=(bs.out.marked (x:=c) (by rw[f.out];exact hc)).2
  omega))
 have jc:=P.size
 clear bi P
 generalize off (Jz vs) (J0 vs) bt n2=M15
 have gs:¬((M15:Int)<0):=by omega
 go_wp2_with fail
 refine (Xaw gh.heap.size _ _ N R _ ((cj.out.from bj.out).rows hN HR.out) ((cd.out.below b2.out).rows hN HR.out) (Nat.le_refl _)).mono ?_
 rintro e cr ⟨rfl,B⟩
 have d8:=Xa (Below.nextE b2.out B (by omega))
 have d9:=Xa (Below.nextE d7.out B (by omega))
 have bk:=Xa (cj.out.from (bj.out.below B))
 have jd:=B.size
 clear B
 go_wp2_with fail
 refine (Xiq g _ N R cf cg ch ci cr bk.out hN cb.out).mono ?_
 rintro e gi ⟨rfl,b3,S⟩
 have fa:=Xa (d8.out.trans (S.mono (by omega)))
 have fb:=Xa (d9.out.trans (S.mono (by omega)))
 have b4:=Xa b3
 have je:=S.size
 clear b3 S
 go_wp2_with fail
 refine (Xcc g _ N R cf cg ch ci gi cr bk.out b4.out hN cb.out).mono ?_
 rintro e jf ⟨rfl,D⟩
 have fc:=Xa (Below.nextE fa.out D (by omega))
 have b5:=Xa (Below.nextE fb.out D (by omega))
 have cs:=Xa D
 have gj:=D.size
 clear D
 have fd:Hid (∃M,J4 R N=M):=⟨_,rfl⟩
 obtain ⟨gk,bl⟩:=fd.out
 rw[bl]
 have fe:=Xa bl
 have jg:¬((gk:Int)<0):=by omega
 clear bl
 go_wp2_with fail
 refine (Xav w.heap.size _ fs _ (bo.out.below b5.out) (by omega)).mono ?_
 rintro e jh ⟨rfl,b6,F⟩
 have ff:=Xa b6
 have fg:=Xa (Below.nextE fc.out F (by omega))
 have b7:=Xa (Below.nextE b5.out F (by omega))
 have ct:=Xa (Below.nextE cs.out F gj)
 have ji:=F.size
 clear b6 F
 try rw[d.out]
 go_wp2_with fail
 refine (Vs w.heap.size _ vs _ (Y.out.below b7.out) (by omega)).mono ?_
 rintro e gl ⟨gu,gv,rfl,b8,t⟩
 have fh:=Xa b8
 have fi:=Xa ((ff.out.below t).wide t.size)
 have fj:=Xa (Below.nextE fg.out t (by omega))
 have b9:=Xa (Below.nextE b7.out t (by omega))
 have cu:=Xa (Below.nextE ct.out t (by omega))
 have jj:=t.size
 clear b8 t
 try rw[f.out]
 go_wp2_with fail
 refine (CI.out _ _ gl (by have:=fi.out;rw[d.out] at this;exact this) (by have:=fh.out.nodes HL.out bb.out;rw[f.out] at this;exact this) (HE.out.keep b9.out)).mono ?_
 rintro e gm ⟨jk,fu,gw,gx,gy,gz,rfl,fk,y,G⟩
 have fl:=Xa y
 obtain ⟨jl,jm,fm⟩:=Xg y.row
 subst fm
 have fn:=Xa (Below.nextE fj.out G (by omega))
 have fo:=Xa (Below.nextE b9.out G (by omega))
 have cv:=Xa (Below.nextE cu.out G (by omega))
 have jn:=G.size
 clear y G
 go_wp2_with fail
 refine (Xaw gm.heap.size _ _ N R _ (fl.out.rows hN HR.out) ((cd.out.below fn.out).rows hN HR.out) (Nat.le_refl _)).mono ?_
 rintro e gn ⟨rfl,T⟩
 have fp:=Xa (Below.nextE fo.out T (by omega))
 have cw:=Xa (Below.nextE cv.out T (by omega))
 have jo:=T.size
 clear T
 go_wp2_with fail
 refine (Xcc g _ N R cf cg ch ci gn cr bk.out (b4.out.below cw.out) hN cb.out).mono ?_
 rintro e jp ⟨rfl,ca⟩
 have fq:=Xa (Below.nextE fp.out ca (by omega))
 clear ca
 rw[fe.out]
 go_wp2_with fail
 go_ret
 exact ⟨rfl,fq.out⟩
end Go.Proofs.YtdjddneidbddpaaGreatDoor
