import Derived.Test.YtdjddneidbddpaaGreatDoorSeD20
import Derived.Test.YtdjddneidbddpaaGreatDoorSGot
import Derived.Test.YtdjddneidbddpaaGreatDoorSMin
import Derived.Test.YtdjddneidbddpaaGreatDoorEvY
import Derived.Test.YtdjddneidbddpaaGreatDoorByP
namespace Go.Proofs.YtdjddneidbddpaaGreatDoor
set_option linter.unusedSectionVars false
set_option maxHeartbeats 12800000
open Go.RowKit
set_option linter.unusedSimpArgs false
set_option linter.unusedVariables false
theorem J5 {fs:List FN} {x:FN} (h:NodeOk fs x):(x.kind≠3→x.place=0)∧(x.kind=3→-80≤x.place∧x.place≤80):=by
 have hf:=h.fit
 unfold Xz U8 at hf
 simp only[Bool.and_eq_true] at hf
 obtain ⟨⟨⟨⟨⟨z1,z2⟩,z3⟩,z4⟩,o⟩,f⟩:=hf
 refine ⟨fun e=> ?_,fun e=> ?_⟩
 ·simp[e] at z2;exact z2
 ·unfold Ka at o;rw[if_neg (by omega),if_pos e] at o;simpa using o
theorem Kt {E:Nat} {v:Value} {ns:List VN} {w:World} (hv:NR E w v ns) (hE:E<w.heap.size) {j:Nat} (hj:j<(Xe ns).length):Calls Tryz.prog 129 #[v, .int .i64 (Xm (Xe ns) j)] w (Gg E (PL ns j) w):=by
 obtain ⟨q,hq,hql⟩:=Zj hv.ok hj
 obtain ⟨p1,p2,p3,p4⟩:=Xp hv.ok
 obtain ⟨⟨a0,h0⟩,htr⟩:=p3 q (by omega)
 rw[hq]
 refine (Xio w.heap.size v ns q a0 h0 w hv.nodes (Nat.le_refl _) p1.2 (Ve hv.ok) (by omega) htr).mono ?_
 rintro e w' ⟨r,K,I,he,hn,hb⟩
 have hpl:run ns (-(a0:Int)) a0 (q+1-a0)=PL ns j:=by unfold PL;rw[hq,Int.toNat_natCast,Yw,htr];simp[trF]
 rw[hpl] at hn
 obtain ⟨a,c,e1⟩:=Xj hn.row
 exact ⟨r,he,⟨a,c,e1⟩,NR.made hn (Xgl hv.ok hj) hE,hb⟩
theorem Xp0 {x:VN} {key:ByteArray} {pl:Int} (h6:x.kind=6):Jt (Q8 x ⟨true,key,pl⟩)=if Y5 x.keys key=true then ((Z4 x.keys key:Nat):Int) else-1:=by
 unfold Q8 G8
 simp only[h6]
 cases h:Y5 x.keys key<;>simp[Jt,h]
theorem Xkt {x:VN} {key:ByteArray} {q:Int} (h5:x.kind=5) (h0:0≤q):Jt (Q8 x ⟨false,key,q⟩)=if q<(x.kids.length:Int) then q else-1:=by
 unfold Q8 G8
 by_cases h:q<(x.kids.length:Int)
 ·simp[h5,h,Jt];omega
 ·simp[h5,h,Jt]
set_option maxRecDepth 100000 in
theorem Xvr {B E fu:Nat} {fv v kc kn ki:Value} {fs:List FN} {x:FN} {ns:List VN} {w:World} (hx:NodeOk fs x) (k:x.kind=2) (hin:FNodeIn B w x kc kn ki) (hs:SE B E fv fs fu 0 w) (hv:NR E w v ns) (hr:(Xd ns).kind=1):
  Calls Tryz.prog 71 #[.pointer (some ⟨E,0,none⟩),v,Ya x kc kn ki] w (Q3 B E fv fs (Yf x ns).1 (Y0 (Yf x ns)) fu w):=by
 have HX:=Xa hx
 have HOK:=Xa hv.ok
 have HS:=Xa hs
 have HV:=Xa hv
 have HIN:=Xa hin
 obtain ⟨p1a,p1b⟩:=hv.sized
 have hkr:=Q4 hv.ok
 obtain ⟨_,b1,o1,c1,rfl,hb1,hcx⟩:∃(_:ns.length≤1759218604416) (b o c:Nat),v= .slice (some ⟨b,o,none⟩) ns.length c∧b<w.heap.size∧∃ka ki,NodeAt w.heap.size w b (o+(ns.length-1) *5) (Xd ns) ka ki:=by
  obtain ⟨hl,a,c,e,hx⟩:=hv.nodes
  obtain ⟨b,o,ea,hb,hcc⟩:=hx (by omega)
  exact ⟨hl,b,o,c,by rw[e,ea],hb,hcc _ (by omega)⟩
 obtain ⟨ka1,ki1,hn1⟩:=hcx
 have HNI:=Xa hn1.inn
 obtain ⟨_,_,aK1,cK1,rfl,_⟩:=id hn1.inn.keys
 obtain ⟨_,_,aI1,cI1,rfl,hki⟩:=id hn1.inn.kids
 have HKI:=Xa hki
 have d0:=hn1.c0
 have d1:=hn1.c1
 have d2:=hn1.c2
 have d3:=hn1.c3
 have d4:=hn1.c4
 obtain ⟨_,aC,cC,rfl,_⟩:=id hin.cst
 obtain ⟨_,_,aK,cK,rfl,_⟩:=id hin.names
 obtain ⟨_,_,aI,cI,rfl,_⟩:=id hin.kids
 have hE:=hs.lt
 obtain ⟨hpl0,hpl3⟩:=J5 hx
 have hk80:(Xd ns).kids.length≤80:=by have:=(Xp hv.ok).2.2.2 (ns.length-1) (by omega);unfold Xd;omega
 have HRK:Hid (Xe ns=(Xd ns).kids):=rfl
 have HKP:Hid (∀W,Below w.heap.size w W→∀j,j<(Xe ns).length→Calls Tryz.prog 129 #[.slice (some ⟨b1,o1,none⟩) ns.length c1, .int .i64 (Xm (Xe ns) j)] W (Gg E (PL ns j) W)):=fun W hb j hj=>Kt (hv.below hb) (Nat.lt_of_lt_of_le hE hb.size) hj
 have HSB:Hid (∀W,Below w.heap.size w W→SE B E fv fs fu 0 W):=fun W hb=>hs.below hb
 obtain ⟨rr,hrr⟩:∃rr,Yf x ns=rr:=⟨_,rfl⟩
 have HRR:=Xa hrr
 rw[hrr]
 have HQ2:Hid (x.kind=2→rr=Jb ns x.name):=fun k=>by rw[←hrr];unfold Yf;rw[if_pos k]
 have HQ3:Hid (x.kind=3→rr=atR ns x.place):=fun k=>by rw[←hrr];unfold Yf;rw[if_neg (by omega),if_pos k]
 obtain ⟨W1,hW1⟩:∃W1,w.alloc (.cells #[.int .i64 x.kind, .string x.name, .int .i64 x.place, .slice aC x.cst.length cC, .slice aK x.names.length cK, .slice aI x.kids.length cI] 84)=W1:=⟨_,rfl⟩
 obtain ⟨W2,hW2⟩:∃W2,W1.alloc (.cells #[.int .i64 (Xd ns).kind, .int .i64 (Xd ns).n, .string (Xd ns).s, .slice aK1 (Xd ns).keys.length cK1, .slice aI1 (Xd ns).kids.length cI1] 75)=W2:=⟨_,rfl⟩
 obtain ⟨W3,hW3⟩:∃W3,W2.alloc (.cells #[.bool (x.kind==2), .string x.name, .int .i64 x.place] 183)=W3:=⟨_,rfl⟩
 have hz1:W1.heap.size=w.heap.size+1:=by rw[←hW1];simp
 have hz2:W2.heap.size=w.heap.size+2:=by rw[←hW2];simp[hz1]
 have hz3:W3.heap.size=w.heap.size+3:=by rw[←hW3];simp[hz2]
 have hB1:Below w.heap.size w W1:=by rw[←hW1];exact (Below.refl _ _).alloc (Nat.le_refl _) _
 have hB2:Below w.heap.size w W2:=by rw[←hW2];exact hB1.alloc (by omega) _
 have hB3:Below w.heap.size w W3:=by rw[←hW3];exact hB2.alloc (by omega) _
 have b12:Below (w.heap.size+1) W1 W2:=by rw[←hW2];exact (Below.refl _ _).alloc (by omega) _
 have b23:Below (w.heap.size+2) W2 W3:=by rw[←hW3];exact (Below.refl _ _).alloc (by omega) _
 have hk1:W1.heap[w.heap.size]? =some (.cells #[.int .i64 x.kind, .string x.name, .int .i64 x.place, .slice aC x.cst.length cC, .slice aK x.names.length cK, .slice aI x.kids.length cI] 84 (0,0)):=by rw[←hW1];exact heap_alloc_new w _
 have hk2:W2.heap[w.heap.size+1]? =some (.cells #[.int .i64 (Xd ns).kind, .int .i64 (Xd ns).n, .string (Xd ns).s, .slice aK1 (Xd ns).keys.length cK1, .slice aI1 (Xd ns).kids.length cI1] 75 (0,0)):=by rw[←hW2,←hz1];exact heap_alloc_new W1 _
 have hk3:W3.heap[w.heap.size+2]? =some (.cells #[.bool (x.kind==2), .string x.name, .int .i64 x.place] 183 (0,0)):=by rw[←hW3,←hz2];exact heap_alloc_new W2 _
 have hk2':W3.heap[w.heap.size+1]? =some (.cells #[.int .i64 (Xd ns).kind, .int .i64 (Xd ns).n, .string (Xd ns).s, .slice aK1 (Xd ns).keys.length cK1, .slice aI1 (Xd ns).kids.length cI1] 75 (0,0)):=(b23.block _ (by omega)).trans hk2
 have f0:=Xg hk1 0
 have f1:=Xg hk1 1
 have f2:=Xg hk1 2
 have f0':=(Xc b12 (by omega:w.heap.size<w.heap.size+1)).trans f0
 have f1':=(Xc b12 (by omega:w.heap.size<w.heap.size+1)).trans f1
 have f2':=(Xc b12 (by omega:w.heap.size<w.heap.size+1)).trans f2
 have r0:=Xg hk2' 0
 have r1:=Xg hk2' 1
 have r2:=Xg hk2' 2
 have r3:=Xg hk2' 3
 have r4:=Xg hk2' 4
 have t0:=Xg hk3 0
 have t1:=Xg hk3 1
 have t2:=Xg hk3 2
 have t3:W3.frozen? ⟨w.heap.size+2,2,none⟩=false:=by simp[World.frozen?,hk3]
 simp at f0 f1 f2 f0' f1' f2' r0 r1 r2 r3 r4 t0 t1 t2
 have m0:=(Xc hB1 hb1).trans d0
 have m1:=(Xc hB1 hb1).trans d1
 have m2:=(Xc hB1 hb1).trans d2
 have m3:=(Xc hB1 hb1).trans d3
 have m4:=(Xc hB1 hb1).trans d4
 have HB3:=Xa hB3
 have HN3:=Xa (hn1.inn.below hB3)
 have HEQ:Hid (rr=(0,Jj)):=by rw[Hid];rw[HQ2.out k];unfold Jb;rw[if_pos hr]
 obtain ⟨NL,hNL⟩:∃NL,ns.length=NL:=⟨_,rfl⟩
 rw[hNL] at p1a p1b d0 d1 d2 d3 d4 m0 m1 m2 m3 m4 HKP⊢
 have z1:((NL:Int)-1).toNat=NL-1:=by omega
 obtain ⟨kr,hkr'⟩:∃kr,(Xd ns).kind=kr:=⟨_,rfl⟩
 obtain ⟨nr,hnr'⟩:∃nr,(Xd ns).n=nr:=⟨_,rfl⟩
 obtain ⟨sr,hsr'⟩:∃sr,(Xd ns).s=sr:=⟨_,rfl⟩
 obtain ⟨KS,hKS⟩:∃KS,(Xd ns).keys.length=KS:=⟨_,rfl⟩
 obtain ⟨KM,hKM⟩:∃KM,(Xd ns).kids.length=KM:=⟨_,rfl⟩
 obtain ⟨kk,hkk⟩:∃kk,x.kind=kk:=⟨_,rfl⟩
 obtain ⟨nm,hnm⟩:∃nm,x.name=nm:=⟨_,rfl⟩
 obtain ⟨pl,hpl⟩:∃pl,x.place=pl:=⟨_,rfl⟩
 rw[hkr'] at r0 m0 hW2
 rw[hnr'] at r1 m1 hW2
 rw[hsr'] at r2 m2 hW2
 rw[hKS] at r3 m3 hW2
 rw[hKM] at r4 m4 hW2 hk80
 rw[hkk] at f0 f0' t0 hW1 hW3
 rw[hnm] at f1 f1' t1 hW1 hW3
 rw[hpl] at f2 f2' t2 hW1 hW3
 unfold Ya
 rw[hkk,hnm,hpl]
 have e2:(kk==2)=true:=by rw[←hkk,k];rfl
 rw[e2] at t0 hW3
 obtain rfl:kr=1:=by rw[←hkr',hr]
 clear hx hin hs hv k hn1 hki hrr hB1 hB2 hB3 b12 b23 hk1 hk2 hk3 hk2' d0 d1 d2 d3 d4 hkr hpl0 hpl3 hNL hkr' hnr' hsr' hKS hKM hkk hnm hpl hr
 go_enter Tryz.func71,Tryz.ntmps71
 go_wp2_with fail
 refine (Xap E W3 (by omega)).mono ?_
 rintro e w4 ⟨u,rfl,⟨a4,c4,rfl⟩,hnr,hb4⟩
 have HB4:=Xa (HB3.out.trans (hb4.mono (by omega)))
 have HCO:=Xa (Kh (HSB.out _ HB4.out) hnr)
 clear hnr hb4
 go_wp2_with fail
 refine HCO.out.mono ?_
 rintro e w5 ⟨sv,xs,rfl,hs5,hb5,hl5⟩
 have HS5:=Xa hs5
 have HB5:=Xa ((ButE.of_below HB4.out).trans hb5)
 have HL5:=Xa (hl5.low (base':=w.heap.size) HB4.out.size hE)
 obtain ⟨a5,c5,rfl⟩:=hl5.slice
 clear hs5 hb5 hl5
 go_wp2_with fail
 go_ret
 exact ⟨_,_,rfl,by rw[HEQ.out];exact HS5.out,HB5.out,by rw[HEQ.out];exact HL5.out⟩
set_option maxRecDepth 100000 in
theorem Xvs {B E fu:Nat} {fv v kc kn ki:Value} {fs:List FN} {x:FN} {ns:List VN} {w:World} (hx:NodeOk fs x) (k:x.kind=3) (hin:FNodeIn B w x kc kn ki) (hs:SE B E fv fs fu 0 w) (hv:NR E w v ns) (hr:(Xd ns).kind=1):
  Calls Tryz.prog 71 #[.pointer (some ⟨E,0,none⟩),v,Ya x kc kn ki] w (Q3 B E fv fs (Yf x ns).1 (Y0 (Yf x ns)) fu w):=by
 have HX:=Xa hx
 have HOK:=Xa hv.ok
 have HS:=Xa hs
 have HV:=Xa hv
 have HIN:=Xa hin
 obtain ⟨p1a,p1b⟩:=hv.sized
 have hkr:=Q4 hv.ok
 obtain ⟨_,b1,o1,c1,rfl,hb1,hcx⟩:∃(_:ns.length≤1759218604416) (b o c:Nat),v= .slice (some ⟨b,o,none⟩) ns.length c∧b<w.heap.size∧∃ka ki,NodeAt w.heap.size w b (o+(ns.length-1) *5) (Xd ns) ka ki:=by
  obtain ⟨hl,a,c,e,hx⟩:=hv.nodes
  obtain ⟨b,o,ea,hb,hcc⟩:=hx (by omega)
  exact ⟨hl,b,o,c,by rw[e,ea],hb,hcc _ (by omega)⟩
 obtain ⟨ka1,ki1,hn1⟩:=hcx
 have HNI:=Xa hn1.inn
 obtain ⟨_,_,aK1,cK1,rfl,_⟩:=id hn1.inn.keys
 obtain ⟨_,_,aI1,cI1,rfl,hki⟩:=id hn1.inn.kids
 have HKI:=Xa hki
 have d0:=hn1.c0
 have d1:=hn1.c1
 have d2:=hn1.c2
 have d3:=hn1.c3
 have d4:=hn1.c4
 obtain ⟨_,aC,cC,rfl,_⟩:=id hin.cst
 obtain ⟨_,_,aK,cK,rfl,_⟩:=id hin.names
 obtain ⟨_,_,aI,cI,rfl,_⟩:=id hin.kids
 have hE:=hs.lt
 obtain ⟨hpl0,hpl3⟩:=J5 hx
 have hk80:(Xd ns).kids.length≤80:=by have:=(Xp hv.ok).2.2.2 (ns.length-1) (by omega);unfold Xd;omega
 have HRK:Hid (Xe ns=(Xd ns).kids):=rfl
 have HKP:Hid (∀W,Below w.heap.size w W→∀j,j<(Xe ns).length→Calls Tryz.prog 129 #[.slice (some ⟨b1,o1,none⟩) ns.length c1, .int .i64 (Xm (Xe ns) j)] W (Gg E (PL ns j) W)):=fun W hb j hj=>Kt (hv.below hb) (Nat.lt_of_lt_of_le hE hb.size) hj
 have HSB:Hid (∀W,Below w.heap.size w W→SE B E fv fs fu 0 W):=fun W hb=>hs.below hb
 obtain ⟨rr,hrr⟩:∃rr,Yf x ns=rr:=⟨_,rfl⟩
 have HRR:=Xa hrr
 rw[hrr]
 have HQ2:Hid (x.kind=2→rr=Jb ns x.name):=fun k=>by rw[←hrr];unfold Yf;rw[if_pos k]
 have HQ3:Hid (x.kind=3→rr=atR ns x.place):=fun k=>by rw[←hrr];unfold Yf;rw[if_neg (by omega),if_pos k]
 obtain ⟨W1,hW1⟩:∃W1,w.alloc (.cells #[.int .i64 x.kind, .string x.name, .int .i64 x.place, .slice aC x.cst.length cC, .slice aK x.names.length cK, .slice aI x.kids.length cI] 84)=W1:=⟨_,rfl⟩
 obtain ⟨W2,hW2⟩:∃W2,W1.alloc (.cells #[.int .i64 (Xd ns).kind, .int .i64 (Xd ns).n, .string (Xd ns).s, .slice aK1 (Xd ns).keys.length cK1, .slice aI1 (Xd ns).kids.length cI1] 75)=W2:=⟨_,rfl⟩
 obtain ⟨W3,hW3⟩:∃W3,W2.alloc (.cells #[.bool (x.kind==2), .string x.name, .int .i64 x.place] 183)=W3:=⟨_,rfl⟩
 have hz1:W1.heap.size=w.heap.size+1:=by rw[←hW1];simp
 have hz2:W2.heap.size=w.heap.size+2:=by rw[←hW2];simp[hz1]
 have hz3:W3.heap.size=w.heap.size+3:=by rw[←hW3];simp[hz2]
 have hB1:Below w.heap.size w W1:=by rw[←hW1];exact (Below.refl _ _).alloc (Nat.le_refl _) _
 have hB2:Below w.heap.size w W2:=by rw[←hW2];exact hB1.alloc (by omega) _
 have hB3:Below w.heap.size w W3:=by rw[←hW3];exact hB2.alloc (by omega) _
 have b12:Below (w.heap.size+1) W1 W2:=by rw[←hW2];exact (Below.refl _ _).alloc (by omega) _
 have b23:Below (w.heap.size+2) W2 W3:=by rw[←hW3];exact (Below.refl _ _).alloc (by omega) _
 have hk1:W1.heap[w.heap.size]? =some (.cells #[.int .i64 x.kind, .string x.name, .int .i64 x.place, .slice aC x.cst.length cC, .slice aK x.names.length cK, .slice aI x.kids.length cI] 84 (0,0)):=by rw[←hW1];exact heap_alloc_new w _
 have hk2:W2.heap[w.heap.size+1]? =some (.cells #[.int .i64 (Xd ns).kind, .int .i64 (Xd ns).n, .string (Xd ns).s, .slice aK1 (Xd ns).keys.length cK1, .slice aI1 (Xd ns).kids.length cI1] 75 (0,0)):=by rw[←hW2,←hz1];exact heap_alloc_new W1 _
 have hk3:W3.heap[w.heap.size+2]? =some (.cells #[.bool (x.kind==2), .string x.name, .int .i64 x.place] 183 (0,0)):=by rw[←hW3,←hz2];exact heap_alloc_new W2 _
 have hk2':W3.heap[w.heap.size+1]? =some (.cells #[.int .i64 (Xd ns).kind, .int .i64 (Xd ns).n, .string (Xd ns).s, .slice aK1 (Xd ns).keys.length cK1, .slice aI1 (Xd ns).kids.length cI1] 75 (0,0)):=(b23.block _ (by omega)).trans hk2
 have f0:=Xg hk1 0
 have f1:=Xg hk1 1
 have f2:=Xg hk1 2
 have f0':=(Xc b12 (by omega:w.heap.size<w.heap.size+1)).trans f0
 have f1':=(Xc b12 (by omega:w.heap.size<w.heap.size+1)).trans f1
 have f2':=(Xc b12 (by omega:w.heap.size<w.heap.size+1)).trans f2
 have r0:=Xg hk2' 0
 have r1:=Xg hk2' 1
 have r2:=Xg hk2' 2
 have r3:=Xg hk2' 3
 have r4:=Xg hk2' 4
 have t0:=Xg hk3 0
 have t1:=Xg hk3 1
 have t2:=Xg hk3 2
 have t3:W3.frozen? ⟨w.heap.size+2,2,none⟩=false:=by simp[World.frozen?,hk3]
 simp at f0 f1 f2 f0' f1' f2' r0 r1 r2 r3 r4 t0 t1 t2
 have m0:=(Xc hB1 hb1).trans d0
 have m1:=(Xc hB1 hb1).trans d1
 have m2:=(Xc hB1 hb1).trans d2
 have m3:=(Xc hB1 hb1).trans d3
 have m4:=(Xc hB1 hb1).trans d4
 have HB3:=Xa hB3
 have HN3:=Xa (hn1.inn.below hB3)
 have HEQ:Hid (rr=(0,Jj)):=by rw[Hid];rw[HQ3.out k];unfold atR;rw[if_pos hr]
 obtain ⟨NL,hNL⟩:∃NL,ns.length=NL:=⟨_,rfl⟩
 rw[hNL] at p1a p1b d0 d1 d2 d3 d4 m0 m1 m2 m3 m4 HKP⊢
 have z1:((NL:Int)-1).toNat=NL-1:=by omega
 obtain ⟨kr,hkr'⟩:∃kr,(Xd ns).kind=kr:=⟨_,rfl⟩
 obtain ⟨nr,hnr'⟩:∃nr,(Xd ns).n=nr:=⟨_,rfl⟩
 obtain ⟨sr,hsr'⟩:∃sr,(Xd ns).s=sr:=⟨_,rfl⟩
 obtain ⟨KS,hKS⟩:∃KS,(Xd ns).keys.length=KS:=⟨_,rfl⟩
 obtain ⟨KM,hKM⟩:∃KM,(Xd ns).kids.length=KM:=⟨_,rfl⟩
 obtain ⟨kk,hkk⟩:∃kk,x.kind=kk:=⟨_,rfl⟩
 obtain ⟨nm,hnm⟩:∃nm,x.name=nm:=⟨_,rfl⟩
 obtain ⟨pl,hpl⟩:∃pl,x.place=pl:=⟨_,rfl⟩
 rw[hkr'] at r0 m0 hW2
 rw[hnr'] at r1 m1 hW2
 rw[hsr'] at r2 m2 hW2
 rw[hKS] at r3 m3 hW2
 rw[hKM] at r4 m4 hW2 hk80
 rw[hkk] at f0 f0' t0 hW1 hW3
 rw[hnm] at f1 f1' t1 hW1 hW3
 rw[hpl] at f2 f2' t2 hW1 hW3
 unfold Ya
 rw[hkk,hnm,hpl]
 have e2:(kk==2)=false:=by rw[←hkk,k];rfl
 rw[e2] at t0 hW3
 obtain rfl:kr=1:=by rw[←hkr',hr]
 clear hx hin hs hv k hn1 hki hrr hB1 hB2 hB3 b12 b23 hk1 hk2 hk3 hk2' d0 d1 d2 d3 d4 hkr hpl0 hpl3 hNL hkr' hnr' hsr' hKS hKM hkk hnm hpl hr
 go_enter Tryz.func71,Tryz.ntmps71
 go_wp2_with fail
 refine (Xap E W3 (by omega)).mono ?_
 rintro e w4 ⟨u,rfl,⟨a4,c4,rfl⟩,hnr,hb4⟩
 have HB4:=Xa (HB3.out.trans (hb4.mono (by omega)))
 have HCO:=Xa (Kh (HSB.out _ HB4.out) hnr)
 clear hnr hb4
 go_wp2_with fail
 refine HCO.out.mono ?_
 rintro e w5 ⟨sv,xs,rfl,hs5,hb5,hl5⟩
 have HS5:=Xa hs5
 have HB5:=Xa ((ButE.of_below HB4.out).trans hb5)
 have HL5:=Xa (hl5.low (base':=w.heap.size) HB4.out.size hE)
 obtain ⟨a5,c5,rfl⟩:=hl5.slice
 clear hs5 hb5 hl5
 go_wp2_with fail
 go_ret
 exact ⟨_,_,rfl,by rw[HEQ.out];exact HS5.out,HB5.out,by rw[HEQ.out];exact HL5.out⟩
set_option maxRecDepth 100000 in
theorem X10 {B E fu:Nat} {fv v kc kn ki:Value} {fs:List FN} {x:FN} {ns:List VN} {w:World} (hx:NodeOk fs x) (k:x.kind=2) (hin:FNodeIn B w x kc kn ki) (hs:SE B E fv fs fu 0 w) (hv:NR E w v ns) (hr1:(Xd ns).kind≠1) (hr:(Xd ns).kind≠6):
  Calls Tryz.prog 71 #[.pointer (some ⟨E,0,none⟩),v,Ya x kc kn ki] w (Q3 B E fv fs (Yf x ns).1 (Y0 (Yf x ns)) fu w):=by
 have HX:=Xa hx
 have HOK:=Xa hv.ok
 have HS:=Xa hs
 have HV:=Xa hv
 have HIN:=Xa hin
 obtain ⟨p1a,p1b⟩:=hv.sized
 have hkr:=Q4 hv.ok
 obtain ⟨_,b1,o1,c1,rfl,hb1,hcx⟩:∃(_:ns.length≤1759218604416) (b o c:Nat),v= .slice (some ⟨b,o,none⟩) ns.length c∧b<w.heap.size∧∃ka ki,NodeAt w.heap.size w b (o+(ns.length-1) *5) (Xd ns) ka ki:=by
  obtain ⟨hl,a,c,e,hx⟩:=hv.nodes
  obtain ⟨b,o,ea,hb,hcc⟩:=hx (by omega)
  exact ⟨hl,b,o,c,by rw[e,ea],hb,hcc _ (by omega)⟩
 obtain ⟨ka1,ki1,hn1⟩:=hcx
 have HNI:=Xa hn1.inn
 obtain ⟨_,_,aK1,cK1,rfl,_⟩:=id hn1.inn.keys
 obtain ⟨_,_,aI1,cI1,rfl,hki⟩:=id hn1.inn.kids
 have HKI:=Xa hki
 have d0:=hn1.c0
 have d1:=hn1.c1
 have d2:=hn1.c2
 have d3:=hn1.c3
 have d4:=hn1.c4
 obtain ⟨_,aC,cC,rfl,_⟩:=id hin.cst
 obtain ⟨_,_,aK,cK,rfl,_⟩:=id hin.names
 obtain ⟨_,_,aI,cI,rfl,_⟩:=id hin.kids
 have hE:=hs.lt
 obtain ⟨hpl0,hpl3⟩:=J5 hx
 have hk80:(Xd ns).kids.length≤80:=by have:=(Xp hv.ok).2.2.2 (ns.length-1) (by omega);unfold Xd;omega
 have HRK:Hid (Xe ns=(Xd ns).kids):=rfl
 have HKP:Hid (∀W,Below w.heap.size w W→∀j,j<(Xe ns).length→Calls Tryz.prog 129 #[.slice (some ⟨b1,o1,none⟩) ns.length c1, .int .i64 (Xm (Xe ns) j)] W (Gg E (PL ns j) W)):=fun W hb j hj=>Kt (hv.below hb) (Nat.lt_of_lt_of_le hE hb.size) hj
 have HSB:Hid (∀W,Below w.heap.size w W→SE B E fv fs fu 0 W):=fun W hb=>hs.below hb
 obtain ⟨rr,hrr⟩:∃rr,Yf x ns=rr:=⟨_,rfl⟩
 have HRR:=Xa hrr
 rw[hrr]
 have HQ2:Hid (x.kind=2→rr=Jb ns x.name):=fun k=>by rw[←hrr];unfold Yf;rw[if_pos k]
 have HQ3:Hid (x.kind=3→rr=atR ns x.place):=fun k=>by rw[←hrr];unfold Yf;rw[if_neg (by omega),if_pos k]
 obtain ⟨W1,hW1⟩:∃W1,w.alloc (.cells #[.int .i64 x.kind, .string x.name, .int .i64 x.place, .slice aC x.cst.length cC, .slice aK x.names.length cK, .slice aI x.kids.length cI] 84)=W1:=⟨_,rfl⟩
 obtain ⟨W2,hW2⟩:∃W2,W1.alloc (.cells #[.int .i64 (Xd ns).kind, .int .i64 (Xd ns).n, .string (Xd ns).s, .slice aK1 (Xd ns).keys.length cK1, .slice aI1 (Xd ns).kids.length cI1] 75)=W2:=⟨_,rfl⟩
 obtain ⟨W3,hW3⟩:∃W3,W2.alloc (.cells #[.bool (x.kind==2), .string x.name, .int .i64 x.place] 183)=W3:=⟨_,rfl⟩
 have hz1:W1.heap.size=w.heap.size+1:=by rw[←hW1];simp
 have hz2:W2.heap.size=w.heap.size+2:=by rw[←hW2];simp[hz1]
 have hz3:W3.heap.size=w.heap.size+3:=by rw[←hW3];simp[hz2]
 have hB1:Below w.heap.size w W1:=by rw[←hW1];exact (Below.refl _ _).alloc (Nat.le_refl _) _
 have hB2:Below w.heap.size w W2:=by rw[←hW2];exact hB1.alloc (by omega) _
 have hB3:Below w.heap.size w W3:=by rw[←hW3];exact hB2.alloc (by omega) _
 have b12:Below (w.heap.size+1) W1 W2:=by rw[←hW2];exact (Below.refl _ _).alloc (by omega) _
 have b23:Below (w.heap.size+2) W2 W3:=by rw[←hW3];exact (Below.refl _ _).alloc (by omega) _
 have hk1:W1.heap[w.heap.size]? =some (.cells #[.int .i64 x.kind, .string x.name, .int .i64 x.place, .slice aC x.cst.length cC, .slice aK x.names.length cK, .slice aI x.kids.length cI] 84 (0,0)):=by rw[←hW1];exact heap_alloc_new w _
 have hk2:W2.heap[w.heap.size+1]? =some (.cells #[.int .i64 (Xd ns).kind, .int .i64 (Xd ns).n, .string (Xd ns).s, .slice aK1 (Xd ns).keys.length cK1, .slice aI1 (Xd ns).kids.length cI1] 75 (0,0)):=by rw[←hW2,←hz1];exact heap_alloc_new W1 _
 have hk3:W3.heap[w.heap.size+2]? =some (.cells #[.bool (x.kind==2), .string x.name, .int .i64 x.place] 183 (0,0)):=by rw[←hW3,←hz2];exact heap_alloc_new W2 _
 have hk2':W3.heap[w.heap.size+1]? =some (.cells #[.int .i64 (Xd ns).kind, .int .i64 (Xd ns).n, .string (Xd ns).s, .slice aK1 (Xd ns).keys.length cK1, .slice aI1 (Xd ns).kids.length cI1] 75 (0,0)):=(b23.block _ (by omega)).trans hk2
 have f0:=Xg hk1 0
 have f1:=Xg hk1 1
 have f2:=Xg hk1 2
 have f0':=(Xc b12 (by omega:w.heap.size<w.heap.size+1)).trans f0
 have f1':=(Xc b12 (by omega:w.heap.size<w.heap.size+1)).trans f1
 have f2':=(Xc b12 (by omega:w.heap.size<w.heap.size+1)).trans f2
 have r0:=Xg hk2' 0
 have r1:=Xg hk2' 1
 have r2:=Xg hk2' 2
 have r3:=Xg hk2' 3
 have r4:=Xg hk2' 4
 have t0:=Xg hk3 0
 have t1:=Xg hk3 1
 have t2:=Xg hk3 2
 have t3:W3.frozen? ⟨w.heap.size+2,2,none⟩=false:=by simp[World.frozen?,hk3]
 simp at f0 f1 f2 f0' f1' f2' r0 r1 r2 r3 r4 t0 t1 t2
 have m0:=(Xc hB1 hb1).trans d0
 have m1:=(Xc hB1 hb1).trans d1
 have m2:=(Xc hB1 hb1).trans d2
 have m3:=(Xc hB1 hb1).trans d3
 have m4:=(Xc hB1 hb1).trans d4
 have HB3:=Xa hB3
 have HN3:=Xa (hn1.inn.below hB3)
 have HEQ:Hid (rr=(2,[])):=by rw[Hid];rw[HQ2.out k];unfold Jb;rw[if_neg hr1,if_neg hr]
 obtain ⟨NL,hNL⟩:∃NL,ns.length=NL:=⟨_,rfl⟩
 rw[hNL] at p1a p1b d0 d1 d2 d3 d4 m0 m1 m2 m3 m4 HKP⊢
 have z1:((NL:Int)-1).toNat=NL-1:=by omega
 obtain ⟨kr,hkr'⟩:∃kr,(Xd ns).kind=kr:=⟨_,rfl⟩
 obtain ⟨nr,hnr'⟩:∃nr,(Xd ns).n=nr:=⟨_,rfl⟩
 obtain ⟨sr,hsr'⟩:∃sr,(Xd ns).s=sr:=⟨_,rfl⟩
 obtain ⟨KS,hKS⟩:∃KS,(Xd ns).keys.length=KS:=⟨_,rfl⟩
 obtain ⟨KM,hKM⟩:∃KM,(Xd ns).kids.length=KM:=⟨_,rfl⟩
 obtain ⟨kk,hkk⟩:∃kk,x.kind=kk:=⟨_,rfl⟩
 obtain ⟨nm,hnm⟩:∃nm,x.name=nm:=⟨_,rfl⟩
 obtain ⟨pl,hpl⟩:∃pl,x.place=pl:=⟨_,rfl⟩
 rw[hkr'] at r0 m0 hW2
 rw[hnr'] at r1 m1 hW2
 rw[hsr'] at r2 m2 hW2
 rw[hKS] at r3 m3 hW2
 rw[hKM] at r4 m4 hW2 hk80
 rw[hkk] at f0 f0' t0 hW1 hW3
 rw[hnm] at f1 f1' t1 hW1 hW3
 rw[hpl] at f2 f2' t2 hW1 hW3
 unfold Ya
 rw[hkk,hnm,hpl]
 have e2:(kk==2)=true:=by rw[←hkk,k];rfl
 rw[e2] at t0 hW3
 have q1:(kr==1)=false:=by rw[←hkr'];simpa using hr1
 have q2:(kr==6)=false:=by rw[←hkr'];simpa using hr
 have q3:(kr !=6)=true:=by rw[←hkr'];simpa using hr
 clear hx hin hs hv k hn1 hki hrr hB1 hB2 hB3 b12 b23 hk1 hk2 hk3 hk2' d0 d1 d2 d3 d4 hkr hpl0 hpl3 hNL hkr' hnr' hsr' hKS hKM hkk hnm hpl hr1 hr
 go_enter Tryz.func71,Tryz.ntmps71
 go_wp2_with fail
 refine (Xjx none 0 0 (HSB.out _ HB3.out) (by decide:(2:Int)≠0)).mono ?_
 rintro e w5 ⟨sv,xs,rfl,hs5,hb5,hl5⟩
 have HS5:=Xa hs5
 have HB5:=Xa ((ButE.of_below HB3.out).trans hb5)
 have HL5:=Xa (hl5.low (base':=w.heap.size) HB3.out.size hE)
 obtain ⟨a5,c5,rfl⟩:=hl5.slice
 clear hs5 hb5 hl5
 go_wp2_with fail
 go_ret
 exact ⟨_,_,rfl,by rw[HEQ.out];exact HS5.out,HB5.out,by rw[HEQ.out];exact HL5.out⟩
set_option maxRecDepth 100000 in
theorem X11 {B E fu:Nat} {fv v kc kn ki:Value} {fs:List FN} {x:FN} {ns:List VN} {w:World} (hx:NodeOk fs x) (k:x.kind=3) (hin:FNodeIn B w x kc kn ki) (hs:SE B E fv fs fu 0 w) (hv:NR E w v ns) (hr1:(Xd ns).kind≠1) (hr:(Xd ns).kind≠5):
  Calls Tryz.prog 71 #[.pointer (some ⟨E,0,none⟩),v,Ya x kc kn ki] w (Q3 B E fv fs (Yf x ns).1 (Y0 (Yf x ns)) fu w):=by
 have HX:=Xa hx
 have HOK:=Xa hv.ok
 have HS:=Xa hs
 have HV:=Xa hv
 have HIN:=Xa hin
 obtain ⟨p1a,p1b⟩:=hv.sized
 have hkr:=Q4 hv.ok
 obtain ⟨_,b1,o1,c1,rfl,hb1,hcx⟩:∃(_:ns.length≤1759218604416) (b o c:Nat),v= .slice (some ⟨b,o,none⟩) ns.length c∧b<w.heap.size∧∃ka ki,NodeAt w.heap.size w b (o+(ns.length-1) *5) (Xd ns) ka ki:=by
  obtain ⟨hl,a,c,e,hx⟩:=hv.nodes
  obtain ⟨b,o,ea,hb,hcc⟩:=hx (by omega)
  exact ⟨hl,b,o,c,by rw[e,ea],hb,hcc _ (by omega)⟩
 obtain ⟨ka1,ki1,hn1⟩:=hcx
 have HNI:=Xa hn1.inn
 obtain ⟨_,_,aK1,cK1,rfl,_⟩:=id hn1.inn.keys
 obtain ⟨_,_,aI1,cI1,rfl,hki⟩:=id hn1.inn.kids
 have HKI:=Xa hki
 have d0:=hn1.c0
 have d1:=hn1.c1
 have d2:=hn1.c2
 have d3:=hn1.c3
 have d4:=hn1.c4
 obtain ⟨_,aC,cC,rfl,_⟩:=id hin.cst
 obtain ⟨_,_,aK,cK,rfl,_⟩:=id hin.names
 obtain ⟨_,_,aI,cI,rfl,_⟩:=id hin.kids
 have hE:=hs.lt
 obtain ⟨hpl0,hpl3⟩:=J5 hx
 have hk80:(Xd ns).kids.length≤80:=by have:=(Xp hv.ok).2.2.2 (ns.length-1) (by omega);unfold Xd;omega
 have HRK:Hid (Xe ns=(Xd ns).kids):=rfl
 have HKP:Hid (∀W,Below w.heap.size w W→∀j,j<(Xe ns).length→Calls Tryz.prog 129 #[.slice (some ⟨b1,o1,none⟩) ns.length c1, .int .i64 (Xm (Xe ns) j)] W (Gg E (PL ns j) W)):=fun W hb j hj=>Kt (hv.below hb) (Nat.lt_of_lt_of_le hE hb.size) hj
 have HSB:Hid (∀W,Below w.heap.size w W→SE B E fv fs fu 0 W):=fun W hb=>hs.below hb
 obtain ⟨rr,hrr⟩:∃rr,Yf x ns=rr:=⟨_,rfl⟩
 have HRR:=Xa hrr
 rw[hrr]
 have HQ2:Hid (x.kind=2→rr=Jb ns x.name):=fun k=>by rw[←hrr];unfold Yf;rw[if_pos k]
 have HQ3:Hid (x.kind=3→rr=atR ns x.place):=fun k=>by rw[←hrr];unfold Yf;rw[if_neg (by omega),if_pos k]
 obtain ⟨W1,hW1⟩:∃W1,w.alloc (.cells #[.int .i64 x.kind, .string x.name, .int .i64 x.place, .slice aC x.cst.length cC, .slice aK x.names.length cK, .slice aI x.kids.length cI] 84)=W1:=⟨_,rfl⟩
 obtain ⟨W2,hW2⟩:∃W2,W1.alloc (.cells #[.int .i64 (Xd ns).kind, .int .i64 (Xd ns).n, .string (Xd ns).s, .slice aK1 (Xd ns).keys.length cK1, .slice aI1 (Xd ns).kids.length cI1] 75)=W2:=⟨_,rfl⟩
 obtain ⟨W3,hW3⟩:∃W3,W2.alloc (.cells #[.bool (x.kind==2), .string x.name, .int .i64 x.place] 183)=W3:=⟨_,rfl⟩
 have hz1:W1.heap.size=w.heap.size+1:=by rw[←hW1];simp
 have hz2:W2.heap.size=w.heap.size+2:=by rw[←hW2];simp[hz1]
 have hz3:W3.heap.size=w.heap.size+3:=by rw[←hW3];simp[hz2]
 have hB1:Below w.heap.size w W1:=by rw[←hW1];exact (Below.refl _ _).alloc (Nat.le_refl _) _
 have hB2:Below w.heap.size w W2:=by rw[←hW2];exact hB1.alloc (by omega) _
 have hB3:Below w.heap.size w W3:=by rw[←hW3];exact hB2.alloc (by omega) _
 have b12:Below (w.heap.size+1) W1 W2:=by rw[←hW2];exact (Below.refl _ _).alloc (by omega) _
 have b23:Below (w.heap.size+2) W2 W3:=by rw[←hW3];exact (Below.refl _ _).alloc (by omega) _
 have hk1:W1.heap[w.heap.size]? =some (.cells #[.int .i64 x.kind, .string x.name, .int .i64 x.place, .slice aC x.cst.length cC, .slice aK x.names.length cK, .slice aI x.kids.length cI] 84 (0,0)):=by rw[←hW1];exact heap_alloc_new w _
 have hk2:W2.heap[w.heap.size+1]? =some (.cells #[.int .i64 (Xd ns).kind, .int .i64 (Xd ns).n, .string (Xd ns).s, .slice aK1 (Xd ns).keys.length cK1, .slice aI1 (Xd ns).kids.length cI1] 75 (0,0)):=by rw[←hW2,←hz1];exact heap_alloc_new W1 _
 have hk3:W3.heap[w.heap.size+2]? =some (.cells #[.bool (x.kind==2), .string x.name, .int .i64 x.place] 183 (0,0)):=by rw[←hW3,←hz2];exact heap_alloc_new W2 _
 have hk2':W3.heap[w.heap.size+1]? =some (.cells #[.int .i64 (Xd ns).kind, .int .i64 (Xd ns).n, .string (Xd ns).s, .slice aK1 (Xd ns).keys.length cK1, .slice aI1 (Xd ns).kids.length cI1] 75 (0,0)):=(b23.block _ (by omega)).trans hk2
 have f0:=Xg hk1 0
 have f1:=Xg hk1 1
 have f2:=Xg hk1 2
 have f0':=(Xc b12 (by omega:w.heap.size<w.heap.size+1)).trans f0
 have f1':=(Xc b12 (by omega:w.heap.size<w.heap.size+1)).trans f1
 have f2':=(Xc b12 (by omega:w.heap.size<w.heap.size+1)).trans f2
 have r0:=Xg hk2' 0
 have r1:=Xg hk2' 1
 have r2:=Xg hk2' 2
 have r3:=Xg hk2' 3
 have r4:=Xg hk2' 4
 have t0:=Xg hk3 0
 have t1:=Xg hk3 1
 have t2:=Xg hk3 2
 have t3:W3.frozen? ⟨w.heap.size+2,2,none⟩=false:=by simp[World.frozen?,hk3]
 simp at f0 f1 f2 f0' f1' f2' r0 r1 r2 r3 r4 t0 t1 t2
 have m0:=(Xc hB1 hb1).trans d0
 have m1:=(Xc hB1 hb1).trans d1
 have m2:=(Xc hB1 hb1).trans d2
 have m3:=(Xc hB1 hb1).trans d3
 have m4:=(Xc hB1 hb1).trans d4
 have HB3:=Xa hB3
 have HN3:=Xa (hn1.inn.below hB3)
 have HEQ:Hid (rr=(2,[])):=by rw[Hid];rw[HQ3.out k];unfold atR;rw[if_neg hr1,if_neg hr]
 obtain ⟨NL,hNL⟩:∃NL,ns.length=NL:=⟨_,rfl⟩
 rw[hNL] at p1a p1b d0 d1 d2 d3 d4 m0 m1 m2 m3 m4 HKP⊢
 have z1:((NL:Int)-1).toNat=NL-1:=by omega
 obtain ⟨kr,hkr'⟩:∃kr,(Xd ns).kind=kr:=⟨_,rfl⟩
 obtain ⟨nr,hnr'⟩:∃nr,(Xd ns).n=nr:=⟨_,rfl⟩
 obtain ⟨sr,hsr'⟩:∃sr,(Xd ns).s=sr:=⟨_,rfl⟩
 obtain ⟨KS,hKS⟩:∃KS,(Xd ns).keys.length=KS:=⟨_,rfl⟩
 obtain ⟨KM,hKM⟩:∃KM,(Xd ns).kids.length=KM:=⟨_,rfl⟩
 obtain ⟨kk,hkk⟩:∃kk,x.kind=kk:=⟨_,rfl⟩
 obtain ⟨nm,hnm⟩:∃nm,x.name=nm:=⟨_,rfl⟩
 obtain ⟨pl,hpl⟩:∃pl,x.place=pl:=⟨_,rfl⟩
 rw[hkr'] at r0 m0 hW2
 rw[hnr'] at r1 m1 hW2
 rw[hsr'] at r2 m2 hW2
 rw[hKS] at r3 m3 hW2
 rw[hKM] at r4 m4 hW2 hk80
 rw[hkk] at f0 f0' t0 hW1 hW3
 rw[hnm] at f1 f1' t1 hW1 hW3
 rw[hpl] at f2 f2' t2 hW1 hW3
 unfold Ya
 rw[hkk,hnm,hpl]
 have e2:(kk==2)=false:=by rw[←hkk,k];rfl
 rw[e2] at t0 hW3
 have q1:(kr==1)=false:=by rw[←hkr'];simpa using hr1
 have q2:(kr==5)=false:=by rw[←hkr'];simpa using hr
 have q3:(kr !=5)=true:=by rw[←hkr'];simpa using hr
 clear hx hin hs hv k hn1 hki hrr hB1 hB2 hB3 b12 b23 hk1 hk2 hk3 hk2' d0 d1 d2 d3 d4 hkr hpl0 hpl3 hNL hkr' hnr' hsr' hKS hKM hkk hnm hpl hr1 hr
 go_enter Tryz.func71,Tryz.ntmps71
 go_wp2_with fail
 refine (Xjx none 0 0 (HSB.out _ HB3.out) (by decide:(2:Int)≠0)).mono ?_
 rintro e w5 ⟨sv,xs,rfl,hs5,hb5,hl5⟩
 have HS5:=Xa hs5
 have HB5:=Xa ((ButE.of_below HB3.out).trans hb5)
 have HL5:=Xa (hl5.low (base':=w.heap.size) HB3.out.size hE)
 obtain ⟨a5,c5,rfl⟩:=hl5.slice
 clear hs5 hb5 hl5
 go_wp2_with fail
 go_ret
 exact ⟨_,_,rfl,by rw[HEQ.out];exact HS5.out,HB5.out,by rw[HEQ.out];exact HL5.out⟩

set_option maxRecDepth 100000 in
theorem Xqq {B E fu:Nat} {fv v kc kn ki:Value} {fs:List FN} {x:FN} {ns:List VN} {w:World} (hx:NodeOk fs x) (k:x.kind=3) (hin:FNodeIn B w x kc kn ki) (hs:SE B E fv fs fu 0 w) (hv:NR E w v ns) (hr:(Xd ns).kind=5) (h1:x.place<0) (h2:0≤x.place+((Xe ns).length:Int)):
  Calls Tryz.prog 71 #[.pointer (some ⟨E,0,none⟩),v,Ya x kc kn ki] w (Q3 B E fv fs (Yf x ns).1 (Y0 (Yf x ns)) fu w):=by
 have HX:=Xa hx
 have HOK:=Xa hv.ok
 have HS:=Xa hs
 have HV:=Xa hv
 have HIN:=Xa hin
 obtain ⟨p1a,p1b⟩:=hv.sized
 have hkr:=Q4 hv.ok
 obtain ⟨_,b1,o1,c1,rfl,hb1,hcx⟩:∃(_:ns.length≤1759218604416) (b o c:Nat),v= .slice (some ⟨b,o,none⟩) ns.length c∧b<w.heap.size∧∃ka ki,NodeAt w.heap.size w b (o+(ns.length-1) *5) (Xd ns) ka ki:=by
  obtain ⟨hl,a,c,e,hx⟩:=hv.nodes
  obtain ⟨b,o,ea,hb,hcc⟩:=hx (by omega)
  exact ⟨hl,b,o,c,by rw[e,ea],hb,hcc _ (by omega)⟩
 obtain ⟨ka1,ki1,hn1⟩:=hcx
 have HNI:=Xa hn1.inn
 obtain ⟨_,_,aK1,cK1,rfl,_⟩:=id hn1.inn.keys
 obtain ⟨_,_,aI1,cI1,rfl,hki⟩:=id hn1.inn.kids
 have HKI:=Xa hki
 have d0:=hn1.c0
 have d1:=hn1.c1
 have d2:=hn1.c2
 have d3:=hn1.c3
 have d4:=hn1.c4
 obtain ⟨_,aC,cC,rfl,_⟩:=id hin.cst
 obtain ⟨_,_,aK,cK,rfl,_⟩:=id hin.names
 obtain ⟨_,_,aI,cI,rfl,_⟩:=id hin.kids
 have hE:=hs.lt
 obtain ⟨hpl0,hpl3⟩:=J5 hx
 have hk80:(Xd ns).kids.length≤80:=by have:=(Xp hv.ok).2.2.2 (ns.length-1) (by omega);unfold Xd;omega
 have HRK:Hid (Xe ns=(Xd ns).kids):=rfl
 have HKP:Hid (∀W,Below w.heap.size w W→∀j,j<(Xe ns).length→Calls Tryz.prog 129 #[.slice (some ⟨b1,o1,none⟩) ns.length c1, .int .i64 (Xm (Xe ns) j)] W (Gg E (PL ns j) W)):=fun W hb j hj=>Kt (hv.below hb) (Nat.lt_of_lt_of_le hE hb.size) hj
 have HSB:Hid (∀W,Below w.heap.size w W→SE B E fv fs fu 0 W):=fun W hb=>hs.below hb
 obtain ⟨rr,hrr⟩:∃rr,Yf x ns=rr:=⟨_,rfl⟩
 have HRR:=Xa hrr
 rw[hrr]
 have HQ2:Hid (x.kind=2→rr=Jb ns x.name):=fun k=>by rw[←hrr];unfold Yf;rw[if_pos k]
 have HQ3:Hid (x.kind=3→rr=atR ns x.place):=fun k=>by rw[←hrr];unfold Yf;rw[if_neg (by omega),if_pos k]
 obtain ⟨W1,hW1⟩:∃W1,w.alloc (.cells #[.int .i64 x.kind, .string x.name, .int .i64 x.place, .slice aC x.cst.length cC, .slice aK x.names.length cK, .slice aI x.kids.length cI] 84)=W1:=⟨_,rfl⟩
 obtain ⟨W2,hW2⟩:∃W2,W1.alloc (.cells #[.int .i64 (Xd ns).kind, .int .i64 (Xd ns).n, .string (Xd ns).s, .slice aK1 (Xd ns).keys.length cK1, .slice aI1 (Xd ns).kids.length cI1] 75)=W2:=⟨_,rfl⟩
 obtain ⟨W3,hW3⟩:∃W3,W2.alloc (.cells #[.bool (x.kind==2), .string x.name, .int .i64 x.place] 183)=W3:=⟨_,rfl⟩
 have hz1:W1.heap.size=w.heap.size+1:=by rw[←hW1];simp
 have hz2:W2.heap.size=w.heap.size+2:=by rw[←hW2];simp[hz1]
 have hz3:W3.heap.size=w.heap.size+3:=by rw[←hW3];simp[hz2]
 have hB1:Below w.heap.size w W1:=by rw[←hW1];exact (Below.refl _ _).alloc (Nat.le_refl _) _
 have hB2:Below w.heap.size w W2:=by rw[←hW2];exact hB1.alloc (by omega) _
 have hB3:Below w.heap.size w W3:=by rw[←hW3];exact hB2.alloc (by omega) _
 have b12:Below (w.heap.size+1) W1 W2:=by rw[←hW2];exact (Below.refl _ _).alloc (by omega) _
 have b23:Below (w.heap.size+2) W2 W3:=by rw[←hW3];exact (Below.refl _ _).alloc (by omega) _
 have hk1:W1.heap[w.heap.size]? =some (.cells #[.int .i64 x.kind, .string x.name, .int .i64 x.place, .slice aC x.cst.length cC, .slice aK x.names.length cK, .slice aI x.kids.length cI] 84 (0,0)):=by rw[←hW1];exact heap_alloc_new w _
 have hk2:W2.heap[w.heap.size+1]? =some (.cells #[.int .i64 (Xd ns).kind, .int .i64 (Xd ns).n, .string (Xd ns).s, .slice aK1 (Xd ns).keys.length cK1, .slice aI1 (Xd ns).kids.length cI1] 75 (0,0)):=by rw[←hW2,←hz1];exact heap_alloc_new W1 _
 have hk3:W3.heap[w.heap.size+2]? =some (.cells #[.bool (x.kind==2), .string x.name, .int .i64 x.place] 183 (0,0)):=by rw[←hW3,←hz2];exact heap_alloc_new W2 _
 have hk2':W3.heap[w.heap.size+1]? =some (.cells #[.int .i64 (Xd ns).kind, .int .i64 (Xd ns).n, .string (Xd ns).s, .slice aK1 (Xd ns).keys.length cK1, .slice aI1 (Xd ns).kids.length cI1] 75 (0,0)):=(b23.block _ (by omega)).trans hk2
 have f0:=Xg hk1 0
 have f1:=Xg hk1 1
 have f2:=Xg hk1 2
 have f0':=(Xc b12 (by omega:w.heap.size<w.heap.size+1)).trans f0
 have f1':=(Xc b12 (by omega:w.heap.size<w.heap.size+1)).trans f1
 have f2':=(Xc b12 (by omega:w.heap.size<w.heap.size+1)).trans f2
 have r0:=Xg hk2' 0
 have r1:=Xg hk2' 1
 have r2:=Xg hk2' 2
 have r3:=Xg hk2' 3
 have r4:=Xg hk2' 4
 have t0:=Xg hk3 0
 have t1:=Xg hk3 1
 have t2:=Xg hk3 2
 have t3:W3.frozen? ⟨w.heap.size+2,2,none⟩=false:=by simp[World.frozen?,hk3]
 simp at f0 f1 f2 f0' f1' f2' r0 r1 r2 r3 r4 t0 t1 t2
 have m0:=(Xc hB1 hb1).trans d0
 have m1:=(Xc hB1 hb1).trans d1
 have m2:=(Xc hB1 hb1).trans d2
 have m3:=(Xc hB1 hb1).trans d3
 have m4:=(Xc hB1 hb1).trans d4
 have HB3:=Xa hB3
 have HN3:=Xa (hn1.inn.below hB3)
 have hpp:Qe ns x.place=x.place+((Xe ns).length:Int):=by unfold Qe;rw[if_pos h1]
 obtain ⟨jj,hjj⟩:∃jj:Nat,x.place+((Xd ns).kids.length:Int)=(jj:Int):=⟨(x.place+((Xd ns).kids.length:Int)).toNat,by rw[HRK.out] at h2;omega⟩
 have hjk:jj<(Xd ns).kids.length:=by omega
 have HKD:Hid (∀W,Below w.heap.size w W→Calls Tryz.prog 128 #[.agg #[.int .i64 (Xd ns).kind, .int .i64 (Xd ns).n, .string (Xd ns).s, .slice aK1 (Xd ns).keys.length cK1, .slice aI1 (Xd ns).kids.length cI1], .agg #[.bool false, .string x.name, .int .i64 (x.place+((Xd ns).kids.length:Int))]] W fun e w'=>e= .returned (.int .i64 (x.place+((Xd ns).kids.length:Int)))∧Below W.heap.size W w'):=fun W hb=>by
  have h1:=Uh w.heap.size (Xd ns) _ _ ⟨false,x.name,(x.place+((Xd ns).kids.length:Int))⟩ W (HNI.out.below hb) hb.size (fun k6=>⟨Jh (Y7 HOK.out k6).2,by rw[(Y7 HOK.out k6).1];exact hk80⟩) (.inr (by simp;omega)) (by omega) (by simp<;>omega)
  rw[Xkt hr (by omega),if_pos (by omega)] at h1
  exact h1
 have hkl:(Xd ns).kids.length≠0:=by omega
 obtain ⟨bi,oi,eai,hbi,hci⟩:=HKI.out (by omega)
 subst eai
 have HEQ:Hid (rr=(0,PL ns jj)):=by rw[Hid];rw[HQ3.out k];unfold atR;rw[if_neg (by omega),if_pos hr,if_pos (by rw[hpp];exact ⟨h2,by omega⟩),hpp];rw[HRK.out,hjj,Int.toNat_natCast]
 obtain ⟨NL,hNL⟩:∃NL,ns.length=NL:=⟨_,rfl⟩
 rw[hNL] at p1a p1b d0 d1 d2 d3 d4 m0 m1 m2 m3 m4 HKP⊢
 have z1:((NL:Int)-1).toNat=NL-1:=by omega
 obtain ⟨kr,hkr'⟩:∃kr,(Xd ns).kind=kr:=⟨_,rfl⟩
 obtain ⟨nr,hnr'⟩:∃nr,(Xd ns).n=nr:=⟨_,rfl⟩
 obtain ⟨sr,hsr'⟩:∃sr,(Xd ns).s=sr:=⟨_,rfl⟩
 obtain ⟨KS,hKS⟩:∃KS,(Xd ns).keys.length=KS:=⟨_,rfl⟩
 obtain ⟨KM,hKM⟩:∃KM,(Xd ns).kids.length=KM:=⟨_,rfl⟩
 obtain ⟨kk,hkk⟩:∃kk,x.kind=kk:=⟨_,rfl⟩
 obtain ⟨nm,hnm⟩:∃nm,x.name=nm:=⟨_,rfl⟩
 obtain ⟨pl,hpl⟩:∃pl,x.place=pl:=⟨_,rfl⟩
 rw[hkr'] at r0 m0 hW2
 rw[hnr'] at r1 m1 hW2
 rw[hsr'] at r2 m2 hW2
 rw[hKS] at r3 m3 hW2
 rw[hKM] at r4 m4 hW2 hk80
 rw[hkk] at f0 f0' t0 hW1 hW3
 rw[hnm] at f1 f1' t1 hW1 hW3
 rw[hpl] at f2 f2' t2 hW1 hW3
 rw[hkr',hnr',hsr',hKS,hKM,hnm,hpl] at HKD
 unfold Ya
 rw[hkk,hnm,hpl]
 have e2:(kk==2)=false:=by rw[←hkk,k];rfl
 rw[e2] at t0 hW3
 obtain rfl:kr=5:=by rw[←hkr',hr]
 obtain ⟨q,hq⟩:∃q,pl+(KM:Int)=q:=⟨_,rfl⟩
 obtain ⟨W4,hW4⟩:∃W4,W3.setCell ⟨w.heap.size+2,2,none⟩ (.int .i64 q)=W4:=⟨_,rfl⟩
 have HB4W:Hid (Below w.heap.size w W4):=by rw[Hid,←hW4];exact HB3.out.setCell (by simp) _
 have hz4:W4.heap.size=w.heap.size+3:=by rw[←hW4];simp[hz3]
 have v0:W4.cell? ⟨w.heap.size+2,0,none⟩=some (.bool false):=by rw[←hW4,World.cell?_setCell_other (h:=by simp)];exact t0
 have v1:W4.cell? ⟨w.heap.size+2,1,none⟩=some (.string nm):=by rw[←hW4,World.cell?_setCell_other (h:=by simp)];exact t1
 have v2:W4.cell? ⟨w.heap.size+2,2,none⟩=some (.int .i64 q):=by rw[←hW4];exact World.cell?_setCell_same _ _ _ t2
 have x0:W4.cell? ⟨w.heap.size+1,0,none⟩=some (.int .i64 5):=by rw[←hW4,World.cell?_setCell_other (h:=by simp)];exact r0
 have x1:W4.cell? ⟨w.heap.size+1,1,none⟩=some (.int .i64 nr):=by rw[←hW4,World.cell?_setCell_other (h:=by simp)];exact r1
 have x2:W4.cell? ⟨w.heap.size+1,2,none⟩=some (.string sr):=by rw[←hW4,World.cell?_setCell_other (h:=by simp)];exact r2
 have x3:W4.cell? ⟨w.heap.size+1,3,none⟩=some (.slice aK1 KS cK1):=by rw[←hW4,World.cell?_setCell_other (h:=by simp)];exact r3
 have x4:=r4
 rw[←World.cell?_setCell_other (v:= .int .i64 q) (a:=⟨w.heap.size+2,2,none⟩) (h:=by simp),hW4] at x4
 have hpn:pl<0:=by rw[←hpl];exact h1
 have hpb: -80≤pl:=by have:=hpl3 k;omega
 rw[hq] at HKD
 have hqn:¬(q<0):=by rw[←hq,←hpl,←hKM];omega
 have hqp:0≤q:=by omega
 have hqt:q.toNat=jj:=by rw[←hq,←hpl,←hKM,hjj];simp
 rw[hKM] at hjk
 have hqk:q<(KM:Int):=by omega
 have HKM:=Xa hKM
 have hci':∀i,i<KM→w.cell? ⟨bi,oi+i,none⟩=some (.int .i64 (Xm (Xe ns) i)):=by rw[HRK.out,←hKM];exact hci
 clear hx hin hs hv k hn1 hki hrr hB1 hB2 hB3 b12 b23 hk1 hk2 hk3 hk2' d0 d1 d2 d3 d4 hkr hpl0 hpl3 hNL hkr' hnr' hsr' hKS hKM hkk hnm hpl hr hpp hjj hci hkl h1 h2
 go_enter Tryz.func71,Tryz.ntmps71
 go_wp2_with fail
 refine (HKD.out W4 HB4W.out).mono ?_
 rintro e w4 ⟨rfl,hb4⟩
 have HB4:=Xa (HB4W.out.trans (hb4.mono (by omega)))
 have z4:=HB4.out.size
 have r4':=(Xc hb4 (by omega)).trans x4
 clear hb4
 have hcq:w4.cell? ⟨bi,oi+jj,none⟩=some (.int .i64 (Xm (Xe ns) jj)):=(Xc HB4.out hbi).trans (hci' jj hjk)
 have HCP:=Xa (HKP.out w4 HB4.out jj (by rw[HRK.out,HKM.out];exact hjk))
 obtain ⟨Q,hQ⟩:∃Q,Xm (Xe ns) jj=Q:=⟨_,rfl⟩
 rw[hQ] at hcq HCP
 clear hQ hci'
 go_wp2_with fail
 refine HCP.out.mono ?_
 rintro e w5 ⟨u,rfl,⟨a4,c4,rfl⟩,hnr,hb4⟩
 have HB5:=Xa (HB4.out.trans (hb4.mono (by omega)))
 have HCO:=Xa (Kh (HSB.out _ HB5.out) hnr)
 obtain ⟨L4,hL4⟩:∃L4,(PL ns jj).length=L4:=⟨_,rfl⟩
 rw[hL4] at HCO⊢
 clear hnr hb4 hL4
 go_wp2_with fail
 refine HCO.out.mono ?_
 rintro e w6 ⟨sv,xs,rfl,hs5,hb5,hl5⟩
 have HS5:=Xa hs5
 have HB6:=Xa ((ButE.of_below HB5.out).trans hb5)
 have HL5:=Xa (hl5.low (base':=w.heap.size) HB5.out.size hE)
 obtain ⟨a5,c5,rfl⟩:=hl5.slice
 clear hs5 hb5 hl5
 go_wp2_with fail
 go_ret
 exact ⟨_,_,rfl,by rw[HEQ.out];exact HS5.out,HB6.out,by rw[HEQ.out];exact HL5.out⟩

set_option maxRecDepth 100000 in
theorem Xxb {B E d j n:Nat} {fv v:Value} {fs:List FN} {x:FN} {ns:List VN} {w:World} (hok:okF fs=true) (ho:Zs B E fv fs d) (hx:NodeOk fs x) (k:x.kind=8) (h1:x.kids.length=1) (hn:n<fs.length) (hxn:Xr fs n=x) (hse:SE B E fv fs (j+1) 0 w) (hv:NR E w v ns) (hj:j≤d) (hd:d≤100000):
  Calls Tryz.prog 35 #[.pointer (some ⟨E,0,none⟩), .int .i64 n,v] w (RunAns B E (100 *(d+2)) fv fs (evM (Xf fs d) x ns Xk (j,[])).1 (evM (Xf fs d) x ns Xk (j,[])).2.2 (evM (Xf fs d) x ns Xk (j,[])).2.1 w):=by
 obtain ⟨W1,W2,W3,b0,o0,cap,aC,cC,aK,cK,aI,cI,hp⟩:=Qo hse hn hxn
 obtain ⟨hfv,q0,q1,q2,z1,hW1,p0,s0,s1,s2,s3,s4,s5,hW2,hW3,g1,g2,g3,hse3,hbut,hbu3,hbox,hE,hB⟩:=hp
 have HS3:=Xa hse3
 have HBT:=Xa hbut
 have HB3:=Xa hbu3
 have HBX:=Xa hbox
 have HV3:Hid (NR E W3 v ns):=(hv.but hbut).below hbu3
 have HOK:=Xa hv.ok
 have HO:=Xa ho
 have HX:=Xa hx
 have HE:=Xa hE
 obtain ⟨av,cv,rfl⟩:=hv.slice
 obtain ⟨R,hR⟩:∃R,evM (Xf fs d) x ns Xk (j,[])=R:=⟨_,rfl⟩
 have HRR:=Xa hR
 rw[hR]
 have hnI:(n:Int)<(fs.length:Int):=by omega
 have hj0:¬((j:Int)+1=0):=by omega
 have hjb:(j:Int)≤1000000:=by omega
 obtain ⟨NF,hNF⟩:∃NF,fs.length=NF:=⟨_,rfl⟩
 rw[hNF] at q0 p0 hnI hn
 have y0:=(Xc hbu3 (by omega)).trans hbox.c0
 have y1:=(Xc hbu3 (by omega)).trans hbox.c1
 have y2:=(Xc hbu3 (by omega)).trans hbox.c2
 have y3:=(Xc hbu3 (by omega)).trans hbox.c3
 have y4:=(Xc hbu3 (by omega)).trans hbox.c4
 have y5:=(Xc hbu3 (by omega)).trans hbox.c5
 obtain ⟨KK,hKK⟩:∃KK,x.kind=KK:=⟨_,rfl⟩
 rw[hKK] at s0 hW2 y0
 have hkl:=h1
 obtain ⟨kb,ko,kcap,ek,hkb,k4⟩:=hbox.inn.kids.get (j:=0) (by omega)
 injection ek with ek1 ek2 ek3
 subst ek1 ek3
 obtain ⟨hq0,hq1⟩:=hx.kid 0 (by omega)
 obtain ⟨K0,hK0⟩:∃K0:Nat,Xi x 0=(K0:Int):=⟨(Xi x 0).toNat,by omega⟩
 have HK0:Hid (K0<fs.length∧(Xi x 0).toNat=K0):=by unfold Hid;omega
 have hc0:W3.cell? ⟨kb,ko,none⟩=some (.int .i64 (K0:Int)):=by rw[←hK0];exact (Xc hbu3 (by omega)).trans (by unfold Xi;simpa using k4)
 obtain rfl:KK=8:=by omega
 obtain ⟨r,hr⟩:∃r,Xf fs d K0 ns j=r:=⟨_,rfl⟩
 have hrl:r.l.length≤40:=by rw[←hr];exact (Yr hok d).few _ _ _ hv.ok
 have HRL:=Xa hrl
 have HNO:Hid (r.c≠0→R=(r.c,(r.fu,[]))):=fun e=>Xx1 (oc:=Xf fs d) (x:=x) (v:=ns) (fu:=j) (R:=R) (by omega) (by rw[HK0.out.2];exact hr) (by rw[←Xgp k];exact hR) e
 have HYES:Hid (r.c=0→Now R Xy (Yu (Zp r.l)).1 r.fu (Y0 (Yu (Zp r.l)))):=fun e=>Xx2 (oc:=Xf fs d) (x:=x) (v:=ns) (fu:=j) (R:=R) (by omega) (by rw[HK0.out.2];exact hr) (by rw[←Xgp k];exact hR) e
 have HC:=Xa (Qf HO.out HK0.out.1 HS3.out HV3.out hj (Below.refl _ _))
 rw[hr] at HC
 have hlp:0<x.kids.length:=by omega
 have hlp2:(0:Int)<(x.kids.length:Int):=by omega
 clear hse hv ho hx hxn hok hR hfv hse3 hbut hbu3 hbox hNF hKK hE hB k k4 hkl hq0 hq1 hK0 hr h1 hrl
 go_enter Tryz.func35,Tryz.ntmps35
 go_wp2_with fail
 refine HC.out.mono ?_
 rintro e w4 ⟨sv,xs,m,rfl,hs4,hb4,hl4,hm4,hM4⟩
 obtain ⟨_,_,cc2,_,ff2⟩:=hs4.cells
 have HS4:=Xa hs4
 have HB4:=Xa ((ButE.of_below HB3.out).trans hb4)
 have HL4:=Xa hl4
 have z4:=hb4.size
 obtain ⟨a4,c4,rfl⟩:=hl4.slice
 by_cases h0:r.c=0
 ·obtain rfl:=hm4 h0
  obtain ⟨r9,hr9⟩:∃r9,Yu (Zp r.l)=r9:=⟨_,rfl⟩
  have HR9:Hid (Yu (Yn 5 [] (Xl r.l) r.l.length)=r9):=hr9
  have HN9:Hid (Now R Xy r9.1 r.fu (Y0 r9)):=by have h1:=HYES.out h0;rw[hr9] at h1;exact h1
  rw[h0] at cc2 HS4
  obtain ⟨M,hM⟩:∃M,r.l.length=M:=⟨_,rfl⟩
  have HMQ:=Xa hM
  have HL4M:Hid (LR E W3.heap.size w4 (.slice a4 M c4) xs r.l):=by rw[Hid,←hM];exact HL4.out
  rw[hM]
  clear hs4 hb4 hl4 hm4 hM4 h0 hr9 hM
  go_wp2_with fail
  refine (Xaq (kind:=5) (kv:= .slice none 0 0) (keys:= []) (by decide) (by decide) HL4M.out (by have:=HRL.out;omega) (StrsAt.nil 0 _) (Nat.zero_le _) (by simp) (fun i hi=>absurd hi (by simp))).mono ?_
  rintro e w5 ⟨u,KV5,IV5,rfl,hn5,hb5,hl5,hf5⟩
  have HRT:=Xa (Uz (E:=E) hn5 (by have:=HE.out;omega) (by omega) hf5)
  have HRQ:Hid (Yu (Yn 5 [] (Xl r.l) (r.l).length)=r9):=HR9.out
  rw[HRQ.out] at HRT
  have HB5:=Xa (HB4.out.trans (.of_below hb5))
  have HS5:=Xa (HS4.out.below hb5)
  have z5:=hb5.size
  obtain ⟨a5,c5,e5⟩:=Xj hn5.row
  obtain ⟨L5,hL5⟩:∃L5,(Yn 5 [] (Xl r.l) (r.l).length).length=L5:=⟨_,rfl⟩
  rw[hL5] at e5
  subst e5
  clear hn5 hb5 hl5 hf5 hL5
  go_wp2_with fail
  refine HRT.out.mono ?_
  rintro e w6 ⟨u6,rfl,⟨a6,l6,c6,rfl⟩,hnr,hb6⟩
  have HB6:=Xa (HB5.out.trans (.of_below hb6))
  have HCO:=Xa (Xab (HS5.out.below hb6) ⟨a6,l6,c6,rfl⟩ hnr)
  have HL1:Hid ((Y0 r9).length≤100 *(d+2)):=by have:=Vm r9;unfold Hid;omega
  have HNW:=Xa HN9.out
  obtain ⟨rc,hrc⟩:∃rc,r9.1=rc:=⟨_,rfl⟩
  rw[hrc] at HCO HNW⊢
  clear hnr hb6 hrc
  go_wp2_with fail
  refine HCO.out.mono ?_
  rintro e w7 ha
  have HA:=Xa (Vl (M:=100 *(d+2)) ha HNW.out HBT.out HB6.out HE.out HL1.out)
  obtain ⟨sv7,xs7,rfl,-,-,hl7⟩:=ha
  obtain ⟨a7,c7,rfl⟩:=hl7.slice
  obtain ⟨L7,hL7⟩:∃L7,(Y0 r9).length=L7:=⟨_,rfl⟩
  rw[hL7] at HA⊢
  clear hl7 hL7
  go_wp2_with fail
  go_ret
  exact HA.out
 ·have HNW:Hid (Now R Xy r.c r.fu []):=Xpa h0 (HNO.out h0)
  have HA:=Xa (Q2 (M:=100 *(d+2)) (e:= .returned (.slice none 0 0)) (m:= []) rfl HNW.out HS4.out HBT.out HB4.out (LR.nil (base:=W3.heap.size) (by have:=HE.out;omega)) (by omega) HE.out (by simp))
  obtain ⟨C,hC⟩:∃C,r.c=C:=⟨_,rfl⟩
  rw[hC] at cc2 h0
  have q0:(C !=0)=true:=by simpa using h0
  have q1:(C==0)=false:=by simpa using h0
  obtain ⟨M,hM⟩:∃M,m.length=M:=⟨_,rfl⟩
  rw[hM]
  clear hs4 hb4 hl4 hm4 hM4 h0 hC hM
  go_wp2_with fail
  go_ret
  exact HA.out

set_option maxRecDepth 100000 in
theorem X37 {B E d fu : Nat} {fv v kc kn ki : Value} {fs : List FN} {x : FN} {ns : List VN} {w : World} (hok : okF fs = true) (ho : Zs B E fv fs d) (hx : NodeOk fs x) (k : x.kind = 15) (hin : FNodeIn B w x kc kn ki) (hs : SE B E fv fs fu 0 w) (hv : NR E w v ns) (hfu : fu ≤ d) (hd : d ≤ 100000) :
  Calls Tryz.prog 82 #[.pointer (some ⟨E,0,none⟩), .int .i64 15,Ya x kc kn ki,v] w (Xa0 B E (100 *(d+2)) fv fs (Xq (Xf fs d) (Xi x 0) ns (fun a=>Xq (Xf fs d) (Xi x 1) ns (fun b=>Xv (Xs 15 a b) Xk)) (fu,[])) w):=by
 have HOK:=Xa hv.ok
 have HO:=Xa ho
 have hBE:=hs.hBE
 have hE:=hs.lt
 have h2k:=hx.two (by omega)
 obtain ⟨_,aC,cC,rfl,_⟩:=id hin.cst
 obtain ⟨_,_,aK,cK,rfl,_⟩:=id hin.names
 obtain ⟨_,_,aI,cI,rfl,_⟩:=id hin.kids
 obtain ⟨kb,ko,kcap,ek,hkb,k4⟩:=hin.kids.get (j:=0) (by omega)
 injection ek with ek1 ek2 ek3
 subst ek1 ek3
 obtain ⟨hq0,hq1⟩:=hx.kid 0 (by omega)
 obtain ⟨K0,hK0⟩:∃K0:Nat,Xi x 0=(K0:Int):=⟨(Xi x 0).toNat,by omega⟩
 have HK0:Hid (K0<fs.length∧(Xi x 0).toNat=K0):=by unfold Hid;omega
 obtain ⟨kb1,ko1,kcap1,ek1,hkb1,k41⟩:=hin.kids.get (j:=1) (by omega)
 injection ek1 with eb1 eb2 eb3
 injection eb1 with eb1
 injection eb1 with eb1 eb4 eb5
 clear eb2 eb3 eb5
 subst eb1 eb4
 obtain ⟨hq1a,hq1b⟩:=hx.kid 1 (by omega)
 obtain ⟨K1,hK1⟩:∃K1:Nat,Xi x 1=(K1:Int):=⟨(Xi x 1).toNat,by omega⟩
 have HK1:Hid (K1<fs.length∧(Xi x 1).toNat=K1):=by unfold Hid;omega
 have l0:w.cell? ⟨kb,ko,none⟩=some (.int .i64 (K0:Int)):=by rw[←hK0];unfold Xi;simpa using k4
 have l1:w.cell? ⟨kb,ko+1,none⟩=some (.int .i64 (K1:Int)):=by rw[←hK1];exact k41
 obtain ⟨W2,hW2⟩:∃W2,w.alloc (.cells #[.int .i64 x.kind, .string x.name, .int .i64 x.place, .slice aC x.cst.length cC, .slice aK x.names.length cK, .slice (some ⟨kb,ko,none⟩) x.kids.length cI] 84)=W2:=⟨_,rfl⟩
 obtain ⟨W3,hW3⟩:∃W3,W2.alloc (.cells #[] 25)=W3:=⟨_,rfl⟩
 have g2:W2.heap.size=w.heap.size+1:=by rw[←hW2];simp
 have g3:W3.heap.size=w.heap.size+2:=by rw[←hW3];simp[g2]
 have hb2:Below w.heap.size w W2:=by rw[←hW2];exact (Below.refl _ _).alloc (Nat.le_refl _) _
 have hb23:Below W2.heap.size W2 W3:=by rw[←hW3];exact (Below.refl _ _).alloc (Nat.le_refl _) _
 have hblk:W2.heap[w.heap.size]? =some (.cells #[.int .i64 x.kind, .string x.name, .int .i64 x.place, .slice aC x.cst.length cC, .slice aK x.names.length cK, .slice (some ⟨kb,ko,none⟩) x.kids.length cI] 84 (0,0)):=by rw[←hW2];exact heap_alloc_new w _
 have b5:=Xg hblk 5
 have b5':W2.cell? ⟨w.heap.size,5,none⟩=some (.slice (some ⟨kb,ko,none⟩) x.kids.length cI):=b5
 have hc0:W2.cell? ⟨kb,ko,none⟩=some (.int .i64 (K0:Int)):=(Xc hb2 (by omega)).trans l0
 have hc1:W2.cell? ⟨kb,ko+1,none⟩=some (.int .i64 (K1:Int)):=(Xc hb2 (by omega)).trans l1
 have y5:W3.cell? ⟨w.heap.size,5,none⟩=some (.slice (some ⟨kb,ko,none⟩) x.kids.length cI):=(Xc hb23 (by omega)).trans b5'
 have hc03:W3.cell? ⟨kb,ko,none⟩=some (.int .i64 (K0:Int)):=(Xc hb23 (by omega)).trans hc0
 have HV2:Hid (NR E W2 v ns):=hv.below hb2
 have HS3:Hid (SE B E fv fs fu 0 W3):=(hs.below hb2).below hb23
 have HV3:Hid (NR E W3 v ns):=HV2.out.below hb23
 have HBT:Hid (ButE E w W2):= .of_below hb2
 have HB3:=Xa hb23
 have HE:=Xa hE
 obtain ⟨R,hR⟩:∃R,Xq (Xf fs d) (Xi x 0) ns (fun a=>Xq (Xf fs d) (Xi x 1) ns (fun b=>Xv (Xs 15 a b) Xk)) (fu,[])=R:=⟨_,rfl⟩
 have HRE:=Xa hR
 rw[hR]
 obtain ⟨r0,hr0⟩:∃r0,Xf fs d K0 ns fu=r0:=⟨_,rfl⟩
 have HR0:=Xa hr0
 have HLE0:Hid (r0.fu≤fu):=by rw[Hid,←hr0];exact (Yr hok d).le _ _ _ hv.ok
 have HLE:Hid (∀n ns fu,okB ns=true→(Xf fs d n ns fu).fu≤fu):=(Yr hok d).le
 have HC:=Xa (Qf HO.out HK0.out.1 HS3.out HV3.out hfu (Below.refl _ _))
 rw[hr0] at HC
 have HLO:Hid (LR E W2.heap.size W3 (.slice (some ⟨w.heap.size+1,0,none⟩) 0 0) [] []):=by rw[Hid,←hW3,←g2];exact ⟨World.ownsRow_lit W2 #[] 0 (Nat.le_refl _) (by simp[maxLen]) rfl,by omega,fun j hj=>absurd hj (by simp)⟩
 have hkbE:kb≠E:=by omega
 have hlp:1<x.kids.length:=by omega
 have hlp2:(1:Int)<(x.kids.length:Int):=by omega
 have hlp3:0<x.kids.length:=by omega
 have hlp4:(0:Int)<(x.kids.length:Int):=by omega
 obtain ⟨i0,hi0,hz0,hs0,hy0⟩:=info_parts Qu
 obtain ⟨av,cv,rfl⟩:=hv.slice
 unfold Ya
 obtain ⟨KX,hKX⟩:∃KX,x.kind=KX:=⟨_,rfl⟩
 rw[hKX] at hW2⊢
 obtain ⟨LN,hLN⟩:∃LN,ns.length=LN:=⟨_,rfl⟩
 rw[hLN] at HC HV2 HV3⊢
 clear ho hx k hin hs hv hok hK0 hK1 k4 k41 l0 l1 hq0 hq1 hq1a hq1b hb2 hb23 hblk b5 hR hr0 h2k hKX hLN
 go_enter Tryz.func82,Tryz.ntmps82
 go_wp2_with fail
 refine HC.out.mono ?_
 rintro e w4 ⟨sv,xs,m,rfl,hs4,hb4,hl4,hm4,hM4⟩
 have HNW:=Xa (Kp (v:=ns) (h:=(fun a=>Xq (Xf fs d) (Xi x 1) ns (fun b=>Xv (Xs 15 a b) Xk))) (by rw[HK0.out.2];exact HR0.out) hm4 HRE.out)
 have hfu4:r0.fu≤d:=by have:=HLE0.out;omega
 have HLP:Hid (Loop B E fv fs d W2 sv xs m r0.c r0.fu (.slice (some ⟨w.heap.size+1,0,none⟩) 0 0) [] [] w4):=
  ⟨hs4, (ButE.of_below HB3.out).trans hb4, HLO.out.keep hb4, hl4.low HB3.out.size (by have := HE.out; omega), by
   cases e3:sv.ownBlock with
   |none=>exact .inl rfl
   |some y=>exact .inr (by have:=(hl4.row.lt _ e3).1;simp only[Value.ownBlock];intro e4;injection e4 with e4;omega),by simp,hfu4⟩
 obtain ⟨a4,c4,rfl⟩:=hl4.slice
 obtain ⟨M,hM⟩:∃M,m.length=M:=⟨_,rfl⟩
 have HMQ:=Xa hM
 have hMb:M≤20000000:=by omega
 have HG2:=Xa g2
 have HG3:=Xa g3
 have HBX:Hid (W2.cell? ⟨w.heap.size,5,none⟩=some (.slice (some ⟨kb,ko,none⟩) x.kids.length cI)):=b5'
 have HC1:=Xa hc1
 rw[hM] at HLP⊢
 clear hs4 hb4 hl4 hm4 hM4 hM g2 g3 y5 hW2 hW3 hc0 hc1 hc03 b5'
 go_wp2_with fail
 go_loopw [9,11,12,13] (fun o i _ _ wr=>∃(k:Nat) (c:Int) (fu:Nat) (oxs:List Value) (out:List (List VN)),k≤M∧i= .int .i64 k∧Hid (Now R (fun st=>Yd (Xo (fun a=>Xq (Xf fs d) (Xi x 1) ns (fun b=>Xv (Xs 15 a b) Xk)) (m.drop k) st) Xy) c fu out)∧Loop B E fv fs d W2 (.slice a4 M c4) xs m c fu o oxs out wr) (fun _ i _ _ _=>M-(intOf i).toNat)
 case atStart=>exact ⟨0,r0.c,r0.fu,[],[],Nat.zero_le _,rfl,HNW.out,HLP.out⟩
 case round =>
  obtain ⟨i,c,fu,oxs,out,hk,rfl,hnow,hlp⟩:=hrel
  obtain ⟨W0,rfl⟩:∃W0,W0=wr:=⟨_,rfl⟩
  have HLP:=Xa hlp
  obtain ⟨ao,co,rfl⟩:=hlp.lo.slice
  obtain ⟨_,_,q2,_,_⟩:=hlp.se.cells
  have zs:=hlp.but.size
  have y5:=hlp.but.cellE (by have:=HE.out;omega) HBX.out
  have hc1':=hlp.but.cellE hkbE HC1.out
  by_cases hlt:i<M
  ·have hltI : (i : Int) < (M : Int) := by omega
   by_cases h0:c=0
   ·subst h0
    obtain ⟨hnx,ho40⟩:=hnow.next rfl (by rw[HMQ.out];exact hlt)
    have HNX:=Xa hnx
    have HO40:=Xa ho40
    obtain ⟨r1,hr1⟩:∃r1,Xf fs d K1 ns fu=r1:=⟨_,rfl⟩
    have HR1:=Xa hr1
    have HCR:Hid (Calls Tryz.prog 35 #[.pointer (some ⟨E,0,none⟩), .int .i64 K1, .slice av LN cv] W0 (RunAns B E (100 *(d+1)) fv fs r1.c r1.l r1.fu W0)):=by
     rw[←hr1]
     exact Qf HO.out HK1.out.1 hlp.se (HV2.out.but hlp.but) hlp.fud (Below.refl _ _)
    have HLF:Hid (r1.fu≤d):=by have h1:=HLE.out K1 ns fu HOK.out;rw[hr1] at h1;exact Nat.le_trans h1 hlp.fud
    obtain ⟨b,ax,cx,rfl,hbb,hcA,hnr⟩:=hlp.la.cell (j:=i) (by rw[HMQ.out];exact hlt)
    obtain ⟨OL,hO⟩:∃OL,out.length=OL:=⟨_,rfl⟩
    have HOL:=Xa hO
    rw[hO] at HLP⊢
    clear hnow hlp hnx ho40 hnr hr1 hO hcA
    go_wp2_with fail
    refine HCR.out.mono ?_
    rintro e w5 ⟨sv5,xs5,m5,rfl,hs5,hb5,hl5,hm5,hM5⟩
    have HNI:=Xa (Us (R:=R) (k:=(fun st=>Yd (Xo (fun a=>Xq (Xf fs d) (Xi x 1) ns (fun b=>Xv (Xs 15 a b) Xk)) (m.drop (i+1)) st) Xy)) (h:=(fun b=>Xv (Xs 15 (Xl m i) b) Xk)) (n:=Xi x 1) (by rw[HK1.out.2];exact HR1.out) hm5 HO40.out HNX.out)
    have HSD:=Xa (Side.new HLP.out hl5 (by have:=HE.out;have:=HG2.out;omega))
    have HLP5:=Xa (HLP.out.keep hb5 hs5 HLF.out)
    obtain ⟨a5,c5,rfl⟩:=hl5.slice
    obtain ⟨M5,hM5q⟩:∃M5,m5.length=M5:=⟨_,rfl⟩
    have HM5:=Xa hM5q
    have hM5b:M5≤20000000:=by omega
    rw[hM5q] at HSD⊢
    clear hs5 hb5 hl5 hm5 hM5 hM5q
    go_wp2_with fail
    go_loopw [9,13] (fun o i2 wr=>∃(k:Nat) (c:Int) (fu:Nat) (oxs:List Value) (out:List (List VN)),k≤M5∧i2= .int .i64 k∧Hid (Now R (fun st=>Yd (Xo (fun b=>Xv (Xs 15 (Xl m i) b) Xk) (m5.drop k) st) (fun st=>Yd (Xo (fun a=>Xq (Xf fs d) (Xi x 1) ns (fun b=>Xv (Xs 15 a b) Xk)) (m.drop (i+1)) st) Xy)) c fu out)∧Loop B E fv fs d W2 (.slice (some ⟨b,0,none⟩) M c4) xs m c fu o oxs out wr∧Side E W2 (.slice a5 M5 c5) xs5 m5 o wr) (fun _ i2 _=>M5-(intOf i2).toNat)
    case atStart=>exact ⟨0,r1.c,r1.fu,oxs,out,Nat.zero_le _,rfl,HNI.out,HLP5.out,HSD.out⟩
    case round =>
     obtain ⟨k,c2,fu2,oxs2,out2,hk2,rfl,hnow2,hlp2',hsd2⟩:=hrel
     have HLP2:=Xa hlp2'
     have HSD2:=Xa hsd2
     obtain ⟨ao2,co2,rfl⟩:=hlp2'.lo.slice
     obtain ⟨_,_,q22,_,_⟩:=hlp2'.se.cells
     have zs2:=hlp2'.but.size
     by_cases hlt2:k<M5
     ·have hltI2:(k:Int)<(M5:Int):=by omega
      by_cases h02:c2=0
      ·subst h02
       obtain ⟨hnx2,ho402⟩:=hnow2.next rfl (by rw[HM5.out];exact hlt2)
       obtain ⟨b',ax2,cx2,ebb,hbb2,hcA2,hnrA⟩:=hlp2'.la.cell (j:=i) (by rw[HMQ.out];exact hlt)
       injection ebb with ebb
       injection ebb with ebb
       subst ebb
       obtain ⟨bB,bx,cy,rfl,hbbB,hcB,hnrB⟩:=hsd2.row.cell (j:=k) (by rw[HM5.out];exact hlt2)
       have HNA:=Xa hnrA
       have HNB:=Xa hnrB
       have HLF2:=Xa hlp2'.fud
       obtain ⟨r9,hr9⟩:∃r9,Xs 15 (Xl m i) (Xl m5 k)=r9:=⟨_,rfl⟩
       have HR9:=Xa hr9
       have HNR9:Hid (Now R (fun st=>Yd (Xo (fun b=>Xv (Xs 15 (Xl m i) b) Xk) (m5.drop (k+1)) st) (fun st=>Yd (Xo (fun a=>Xq (Xf fs d) (Xi x 1) ns (fun b=>Xv (Xs 15 a b) Xk)) (m.drop (i+1)) st) Xy)) (Y6 r9.1 (out2.length+(Y0 r9).length)) fu2 (out2++Y0 r9)):=Uq ho402 (by rw[hnx2,←hr9])
       have HCP:Hid (∀W,Below wr.heap.size wr W→Calls Tryz.prog 130 #[.slice ax2 (Xl m i).length cx2, .slice bx (Xl m5 k).length cy] W fun e w'=>e= .returned (.int .i64 (Yt (Xl m i) (Xl m5 k)))∧Below wr.heap.size wr w'):=fun W hb=>(Wu (hnrA.below hb) (hnrB.below hb)).mono fun e w' h=>⟨h.1,hb.trans (h.2.mono hb.size)⟩
       obtain ⟨od,hod⟩:∃od,Yt (Xl m i) (Xl m5 k)=od:=⟨_,rfl⟩
       have HOD:=Xa hod
       rw[hod] at HCP
       obtain ⟨LX,hLX⟩:∃LX,(Xl m i).length=LX:=⟨_,rfl⟩
       obtain ⟨LY,hLY⟩:∃LY,(Xl m5 k).length=LY:=⟨_,rfl⟩
       obtain ⟨OL2,hO2⟩:∃OL2,out2.length=OL2:=⟨_,rfl⟩
       have HOL2:=Xa hO2
       have hOL40:OL2≤40:=by omega
       rw[hLX] at hcA2 HCP HNA
       rw[hLY] at hcB HCP HNB
       rw[hO2] at HLP2 HSD2 HNR9⊢
       clear hnow2 hlp2' hsd2 hnx2 ho402 hnrA hnrB hr9 hLX hLY hO2 hod
       go_wp2_with fail
       go_region_law (refine Qh (by rfl) 130 _ _ _ _ (by rfl) (.slice ax2 LX cx2) (.slice bx LY cy) (by rfl) (by rfl) (Uo _ _) (HCP.out _ (by first|exact Below.refl _ _|exact (Below.refl _ _).drew)) ?_;rintro e w6 ⟨rfl,hb6⟩;have hcA6:=(Xc hb6 (X8 hcA2)).trans hcA2;have hcB6:=(Xc hb6 (X8 hcB)).trans hcB;refine ⟨_,rfl, ?_⟩)
       all_goals
        have HLP6:=Xa (HLP2.out.keep (.of_below hb6) (HLP2.out.se.below hb6) HLF2.out)
        have HSD6:=Xa (HSD2.out.keep (.of_below hb6))
        have HNA6:=Xa (HNA.out.below hb6)
        have HNB6:=Xa (HNB.out.below hb6)
        have z6:=hb6.size
        clear hb6
        have HPL:Hid (∀W,Below w6.heap.size w6 W→Calls Tryz.prog 131 #[.slice ax2 LX cx2, .slice bx LY cy] W (Made1 E r9 w6)):=fun W hb=>by
         rw[←HR9.out]
         exact (Xwf (HNA6.out.below hb) (HNB6.out.below hb) (by have:=HE.out;have:=HG2.out;have:=hb.size;omega)).mono fun e w' h=>h.ahead hb
        obtain ⟨rc,hrc⟩:∃rc,r9.1=rc:=⟨_,rfl⟩
        have HRC:=Xa hrc
        clear hrc
        go_wp2_with fail
        go_region_law (refine Qh (by rfl) 131 _ _ _ _ (by rfl) (.slice ax2 LX cx2) (.slice bx LY cy) (by rfl) (by rfl) (Xvl _ _) (HPL.out _ (by first|exact Below.refl _ _|exact (Below.refl _ _).drew)) ?_;rintro e w7 ⟨u7,rfl,⟨a7,l7,c7,rfl⟩,hnr7,hb7⟩;rw[HRC.out];refine ⟨_,rfl, ?_⟩)
        all_goals
         have HLP7:=Xa (HLP6.out.keep (.of_below hb7) (HLP6.out.se.below hb7) HLF2.out)
         have HSD7:=Xa (HSD6.out.keep (.of_below hb7))
         have HCO:=Xa (Xab HLP7.out.se ⟨a7,l7,c7,rfl⟩ hnr7)
         have HL1:=Xa (Vm r9)
         rw[HRC.out] at HCO HNR9
         clear hnr7 hb7
         go_wp2_with fail
         refine HCO.out.mono ?_
         rintro e w8 ⟨sv8,xs8,rfl,hs8,hb8,hl8⟩
         have hlp8:=HLP7.out.keep hb8 hs8 HLF2.out
         have hsd8:=HSD7.out.keep hb8
         have hrow8:=hlp8.lo.row
         rw[HOL2.out] at hrow8
         have hlen8:=hl8.len
         have hone8:=hl8.ones
         have hin8:=hl8.inn
         obtain ⟨a8,c8,rfl⟩:=hl8.slice
         have hsrc8:=hl8.src
         have hz8:=hlp8.but.size
         obtain ⟨m8,hm8⟩:∃m8,Y0 r9=m8:=⟨_,rfl⟩
         have hm81:m8.length≤1:=by rw[←hm8];exact HL1.out
         rw[hm8] at HNR9 hlen8 hin8 hsrc8⊢
         clear hm8
         go_wp2_with (at_builtin;refine Ye rfl _ _ 28 rfl W2.heap.size 25 i0 (.slice none 0 0) 1 24 Tryz.underlying28 hi0 hz0 hs0 hy0 rfl (by decide) _ OL2 oxs2 rfl hrow8 a8 m8.length c8 xs8 rfl (by rw[hlen8,Nat.mul_one]) hsrc8 hone8 (by unfold maxLen;omega) (by omega) (by omega) ?_)
         intro v9 w9 hown9 hg9 hat9
         have HSD9:=Xa (hsd8.app hlp8.lo hg9 hat9)
         rw[←HOL2.out] at hown9
         have HLP9:=Xa (hlp8.app hlen8 hin8 hown9 hg9 hat9 (by rw[HOL2.out];omega))
         obtain ⟨a9,c9,e9⟩:=Xj hown9
         rw[HOL2.out] at e9
         obtain ⟨OL9,hO9⟩:∃OL9,OL2+m8.length=OL9:=⟨_,rfl⟩
         rw[hO9] at e9 HNR9
         subst e9
         clear hown9 hg9 hat9 hlp8 hsd8 hlen8 hin8 hone8 hrow8 hsrc8 hs8 hb8 hl8 hO9
         go_wp2_with fail
         refine (Zc a9 OL9 c9 HLP9.out.se).mono ?_
         rintro e w10 ⟨rfl,hs10,hb10⟩
         have HLP10:=Xa (HLP9.out.keep hb10 hs10 HLF2.out)
         have HSD10:=Xa (HSD9.out.keep hb10)
         clear hs10 hb10
         go_wp2_with fail
         go_roundw
         case rel=>exact ⟨k+1,_,_,_,_,by omega,by go_num,HNR9.out,HLP10.out,HSD10.out⟩
         case measure=>simp[intOf];omega
      ·have q0:(c2==0)=false:=by simpa using h02
       have HNO:=Xa (hnow2.dead h02 (fun st=>Yd (Xo (fun a=>Xq (Xf fs d) (Xi x 1) ns (fun b=>Xv (Xs 15 a b) Xk)) (m.drop (i+1)) st) Xy) out2)
       clear h02
       clear hnow2 hlp2' hsd2
       go_wp2_with fail
       go_roundw
       case rel=>exact ⟨i+1,_,_,_,_,by omega,by go_num,HNO.out,HLP2.out⟩
       case measure=>simp[intOf];omega
     ·obtain rfl:k=M5:=by omega
      have HNO:=Xa (hnow2.over (by rw[HM5.out];exact Nat.le_refl _))
      clear hnow2 hlp2' hsd2
      go_wp2_with fail
      go_roundw
      case rel=>exact ⟨i+1,_,_,_,_,by omega,by go_num,HNO.out,HLP2.out⟩
      case measure=>simp[intOf];omega
   ·have q0:(c==0)=false:=by simpa using h0
    have HNP:Hid (Now R Xy c fu out):=hnow.dead h0 _ _
    have HFW:Hid (out.length≤100 *(d+2)):=by have:=HLP.out.few;unfold Hid;omega
    obtain ⟨OL,hO⟩:∃OL,out.length=OL:=⟨_,rfl⟩
    have HOL:=Xa hO
    rw[hO] at HLP⊢
    clear h0
    clear hnow hlp hO
    go_wp2_with fail
    go_ret
    exact ⟨.slice ao OL co,oxs,out,c,fu,rfl,HLP.out.se,HBT.out.trans HLP.out.but,HLP.out.lo.low (by have:=HG2.out;omega) HE.out,HNP.out,HFW.out⟩
  ·obtain rfl:i=M:=by omega
   have HNP:Hid (Now R Xy c fu out):=hnow.over (by rw[HMQ.out];exact Nat.le_refl _)
   have HFW:Hid (out.length≤100 *(d+2)):=by have:=HLP.out.few;unfold Hid;omega
   obtain ⟨OL,hO⟩:∃OL,out.length=OL:=⟨_,rfl⟩
   have HOL:=Xa hO
   rw[hO] at HLP⊢
   clear hnow hlp hO
   go_wp2_with fail
   go_ret
   exact ⟨.slice ao OL co,oxs,out,c,fu,rfl,HLP.out.se,HBT.out.trans HLP.out.but,HLP.out.lo.low (by have:=HG2.out;omega) HE.out,HNP.out,HFW.out⟩

set_option maxRecDepth 100000 in
theorem X4t {B E d fu : Nat} {fv v kc kn ki : Value} {fs : List FN} {x : FN} {ns : List VN} {w : World} (hok : okF fs = true) (ho : Zs B E fv fs d) (hx : NodeOk fs x) (k : x.kind = 16) (hin : FNodeIn B w x kc kn ki) (hs : SE B E fv fs fu 0 w) (hv : NR E w v ns) (hfu : fu ≤ d) (hd : d ≤ 100000) :
  Calls Tryz.prog 82 #[.pointer (some ⟨E,0,none⟩), .int .i64 16,Ya x kc kn ki,v] w (Xa0 B E (100 *(d+2)) fv fs (Xq (Xf fs d) (Xi x 0) ns (fun a=>Xq (Xf fs d) (Xi x 1) ns (fun b=>Xv (Xs 16 a b) Xk)) (fu,[])) w):=by
 have HOK:=Xa hv.ok
 have HO:=Xa ho
 have hBE:=hs.hBE
 have hE:=hs.lt
 have h2k:=hx.two (by omega)
 obtain ⟨_,aC,cC,rfl,_⟩:=id hin.cst
 obtain ⟨_,_,aK,cK,rfl,_⟩:=id hin.names
 obtain ⟨_,_,aI,cI,rfl,_⟩:=id hin.kids
 obtain ⟨kb,ko,kcap,ek,hkb,k4⟩:=hin.kids.get (j:=0) (by omega)
 injection ek with ek1 ek2 ek3
 subst ek1 ek3
 obtain ⟨hq0,hq1⟩:=hx.kid 0 (by omega)
 obtain ⟨K0,hK0⟩:∃K0:Nat,Xi x 0=(K0:Int):=⟨(Xi x 0).toNat,by omega⟩
 have HK0:Hid (K0<fs.length∧(Xi x 0).toNat=K0):=by unfold Hid;omega
 obtain ⟨kb1,ko1,kcap1,ek1,hkb1,k41⟩:=hin.kids.get (j:=1) (by omega)
 injection ek1 with eb1 eb2 eb3
 injection eb1 with eb1
 injection eb1 with eb1 eb4 eb5
 clear eb2 eb3 eb5
 subst eb1 eb4
 obtain ⟨hq1a,hq1b⟩:=hx.kid 1 (by omega)
 obtain ⟨K1,hK1⟩:∃K1:Nat,Xi x 1=(K1:Int):=⟨(Xi x 1).toNat,by omega⟩
 have HK1:Hid (K1<fs.length∧(Xi x 1).toNat=K1):=by unfold Hid;omega
 have l0:w.cell? ⟨kb,ko,none⟩=some (.int .i64 (K0:Int)):=by rw[←hK0];unfold Xi;simpa using k4
 have l1:w.cell? ⟨kb,ko+1,none⟩=some (.int .i64 (K1:Int)):=by rw[←hK1];exact k41
 obtain ⟨W2,hW2⟩:∃W2,w.alloc (.cells #[.int .i64 x.kind, .string x.name, .int .i64 x.place, .slice aC x.cst.length cC, .slice aK x.names.length cK, .slice (some ⟨kb,ko,none⟩) x.kids.length cI] 84)=W2:=⟨_,rfl⟩
 obtain ⟨W3,hW3⟩:∃W3,W2.alloc (.cells #[] 25)=W3:=⟨_,rfl⟩
 have g2:W2.heap.size=w.heap.size+1:=by rw[←hW2];simp
 have g3:W3.heap.size=w.heap.size+2:=by rw[←hW3];simp[g2]
 have hb2:Below w.heap.size w W2:=by rw[←hW2];exact (Below.refl _ _).alloc (Nat.le_refl _) _
 have hb23:Below W2.heap.size W2 W3:=by rw[←hW3];exact (Below.refl _ _).alloc (Nat.le_refl _) _
 have hblk:W2.heap[w.heap.size]? =some (.cells #[.int .i64 x.kind, .string x.name, .int .i64 x.place, .slice aC x.cst.length cC, .slice aK x.names.length cK, .slice (some ⟨kb,ko,none⟩) x.kids.length cI] 84 (0,0)):=by rw[←hW2];exact heap_alloc_new w _
 have b5:=Xg hblk 5
 have b5':W2.cell? ⟨w.heap.size,5,none⟩=some (.slice (some ⟨kb,ko,none⟩) x.kids.length cI):=b5
 have hc0:W2.cell? ⟨kb,ko,none⟩=some (.int .i64 (K0:Int)):=(Xc hb2 (by omega)).trans l0
 have hc1:W2.cell? ⟨kb,ko+1,none⟩=some (.int .i64 (K1:Int)):=(Xc hb2 (by omega)).trans l1
 have y5:W3.cell? ⟨w.heap.size,5,none⟩=some (.slice (some ⟨kb,ko,none⟩) x.kids.length cI):=(Xc hb23 (by omega)).trans b5'
 have hc03:W3.cell? ⟨kb,ko,none⟩=some (.int .i64 (K0:Int)):=(Xc hb23 (by omega)).trans hc0
 have HV2:Hid (NR E W2 v ns):=hv.below hb2
 have HS3:Hid (SE B E fv fs fu 0 W3):=(hs.below hb2).below hb23
 have HV3:Hid (NR E W3 v ns):=HV2.out.below hb23
 have HBT:Hid (ButE E w W2):= .of_below hb2
 have HB3:=Xa hb23
 have HE:=Xa hE
 obtain ⟨R,hR⟩:∃R,Xq (Xf fs d) (Xi x 0) ns (fun a=>Xq (Xf fs d) (Xi x 1) ns (fun b=>Xv (Xs 16 a b) Xk)) (fu,[])=R:=⟨_,rfl⟩
 have HRE:=Xa hR
 rw[hR]
 obtain ⟨r0,hr0⟩:∃r0,Xf fs d K0 ns fu=r0:=⟨_,rfl⟩
 have HR0:=Xa hr0
 have HLE0:Hid (r0.fu≤fu):=by rw[Hid,←hr0];exact (Yr hok d).le _ _ _ hv.ok
 have HLE:Hid (∀n ns fu,okB ns=true→(Xf fs d n ns fu).fu≤fu):=(Yr hok d).le
 have HC:=Xa (Qf HO.out HK0.out.1 HS3.out HV3.out hfu (Below.refl _ _))
 rw[hr0] at HC
 have HLO:Hid (LR E W2.heap.size W3 (.slice (some ⟨w.heap.size+1,0,none⟩) 0 0) [] []):=by rw[Hid,←hW3,←g2];exact ⟨World.ownsRow_lit W2 #[] 0 (Nat.le_refl _) (by simp[maxLen]) rfl,by omega,fun j hj=>absurd hj (by simp)⟩
 have hkbE:kb≠E:=by omega
 have hlp:1<x.kids.length:=by omega
 have hlp2:(1:Int)<(x.kids.length:Int):=by omega
 have hlp3:0<x.kids.length:=by omega
 have hlp4:(0:Int)<(x.kids.length:Int):=by omega
 obtain ⟨i0,hi0,hz0,hs0,hy0⟩:=info_parts Qu
 obtain ⟨av,cv,rfl⟩:=hv.slice
 unfold Ya
 obtain ⟨KX,hKX⟩:∃KX,x.kind=KX:=⟨_,rfl⟩
 rw[hKX] at hW2⊢
 obtain ⟨LN,hLN⟩:∃LN,ns.length=LN:=⟨_,rfl⟩
 rw[hLN] at HC HV2 HV3⊢
 clear ho hx k hin hs hv hok hK0 hK1 k4 k41 l0 l1 hq0 hq1 hq1a hq1b hb2 hb23 hblk b5 hR hr0 h2k hKX hLN
 go_enter Tryz.func82,Tryz.ntmps82
 go_wp2_with fail
 refine HC.out.mono ?_
 rintro e w4 ⟨sv,xs,m,rfl,hs4,hb4,hl4,hm4,hM4⟩
 have HNW:=Xa (Kp (v:=ns) (h:=(fun a=>Xq (Xf fs d) (Xi x 1) ns (fun b=>Xv (Xs 16 a b) Xk))) (by rw[HK0.out.2];exact HR0.out) hm4 HRE.out)
 have hfu4:r0.fu≤d:=by have:=HLE0.out;omega
 have HLP:Hid (Loop B E fv fs d W2 sv xs m r0.c r0.fu (.slice (some ⟨w.heap.size+1,0,none⟩) 0 0) [] [] w4):=
  ⟨hs4, (ButE.of_below HB3.out).trans hb4, HLO.out.keep hb4, hl4.low HB3.out.size (by have := HE.out; omega), by
   cases e3:sv.ownBlock with
   |none=>exact .inl rfl
   |some y=>exact .inr (by have:=(hl4.row.lt _ e3).1;simp only[Value.ownBlock];intro e4;injection e4 with e4;omega),by simp,hfu4⟩
 obtain ⟨a4,c4,rfl⟩:=hl4.slice
 obtain ⟨M,hM⟩:∃M,m.length=M:=⟨_,rfl⟩
 have HMQ:=Xa hM
 have hMb:M≤20000000:=by omega
 have HG2:=Xa g2
 have HG3:=Xa g3
 have HBX:Hid (W2.cell? ⟨w.heap.size,5,none⟩=some (.slice (some ⟨kb,ko,none⟩) x.kids.length cI)):=b5'
 have HC1:=Xa hc1
 rw[hM] at HLP⊢
 clear hs4 hb4 hl4 hm4 hM4 hM g2 g3 y5 hW2 hW3 hc0 hc1 hc03 b5'
 go_wp2_with fail
 go_loopw [9,11,12,13] (fun o i _ _ wr=>∃(k:Nat) (c:Int) (fu:Nat) (oxs:List Value) (out:List (List VN)),k≤M∧i= .int .i64 k∧Hid (Now R (fun st=>Yd (Xo (fun a=>Xq (Xf fs d) (Xi x 1) ns (fun b=>Xv (Xs 16 a b) Xk)) (m.drop k) st) Xy) c fu out)∧Loop B E fv fs d W2 (.slice a4 M c4) xs m c fu o oxs out wr) (fun _ i _ _ _=>M-(intOf i).toNat)
 case atStart=>exact ⟨0,r0.c,r0.fu,[],[],Nat.zero_le _,rfl,HNW.out,HLP.out⟩
 case round =>
  obtain ⟨i,c,fu,oxs,out,hk,rfl,hnow,hlp⟩:=hrel
  obtain ⟨W0,rfl⟩:∃W0,W0=wr:=⟨_,rfl⟩
  have HLP:=Xa hlp
  obtain ⟨ao,co,rfl⟩:=hlp.lo.slice
  obtain ⟨_,_,q2,_,_⟩:=hlp.se.cells
  have zs:=hlp.but.size
  have y5:=hlp.but.cellE (by have:=HE.out;omega) HBX.out
  have hc1':=hlp.but.cellE hkbE HC1.out
  by_cases hlt:i<M
  ·have hltI : (i : Int) < (M : Int) := by omega
   by_cases h0:c=0
   ·subst h0
    obtain ⟨hnx,ho40⟩:=hnow.next rfl (by rw[HMQ.out];exact hlt)
    have HNX:=Xa hnx
    have HO40:=Xa ho40
    obtain ⟨r1,hr1⟩:∃r1,Xf fs d K1 ns fu=r1:=⟨_,rfl⟩
    have HR1:=Xa hr1
    have HCR:Hid (Calls Tryz.prog 35 #[.pointer (some ⟨E,0,none⟩), .int .i64 K1, .slice av LN cv] W0 (RunAns B E (100 *(d+1)) fv fs r1.c r1.l r1.fu W0)):=by
     rw[←hr1]
     exact Qf HO.out HK1.out.1 hlp.se (HV2.out.but hlp.but) hlp.fud (Below.refl _ _)
    have HLF:Hid (r1.fu≤d):=by have h1:=HLE.out K1 ns fu HOK.out;rw[hr1] at h1;exact Nat.le_trans h1 hlp.fud
    obtain ⟨b,ax,cx,rfl,hbb,hcA,hnr⟩:=hlp.la.cell (j:=i) (by rw[HMQ.out];exact hlt)
    obtain ⟨OL,hO⟩:∃OL,out.length=OL:=⟨_,rfl⟩
    have HOL:=Xa hO
    rw[hO] at HLP⊢
    clear hnow hlp hnx ho40 hnr hr1 hO hcA
    go_wp2_with fail
    refine HCR.out.mono ?_
    rintro e w5 ⟨sv5,xs5,m5,rfl,hs5,hb5,hl5,hm5,hM5⟩
    have HNI:=Xa (Us (R:=R) (k:=(fun st=>Yd (Xo (fun a=>Xq (Xf fs d) (Xi x 1) ns (fun b=>Xv (Xs 16 a b) Xk)) (m.drop (i+1)) st) Xy)) (h:=(fun b=>Xv (Xs 16 (Xl m i) b) Xk)) (n:=Xi x 1) (by rw[HK1.out.2];exact HR1.out) hm5 HO40.out HNX.out)
    have HSD:=Xa (Side.new HLP.out hl5 (by have:=HE.out;have:=HG2.out;omega))
    have HLP5:=Xa (HLP.out.keep hb5 hs5 HLF.out)
    obtain ⟨a5,c5,rfl⟩:=hl5.slice
    obtain ⟨M5,hM5q⟩:∃M5,m5.length=M5:=⟨_,rfl⟩
    have HM5:=Xa hM5q
    have hM5b:M5≤20000000:=by omega
    rw[hM5q] at HSD⊢
    clear hs5 hb5 hl5 hm5 hM5 hM5q
    go_wp2_with fail
    go_loopw [9,13] (fun o i2 wr=>∃(k:Nat) (c:Int) (fu:Nat) (oxs:List Value) (out:List (List VN)),k≤M5∧i2= .int .i64 k∧Hid (Now R (fun st=>Yd (Xo (fun b=>Xv (Xs 16 (Xl m i) b) Xk) (m5.drop k) st) (fun st=>Yd (Xo (fun a=>Xq (Xf fs d) (Xi x 1) ns (fun b=>Xv (Xs 16 a b) Xk)) (m.drop (i+1)) st) Xy)) c fu out)∧Loop B E fv fs d W2 (.slice (some ⟨b,0,none⟩) M c4) xs m c fu o oxs out wr∧Side E W2 (.slice a5 M5 c5) xs5 m5 o wr) (fun _ i2 _=>M5-(intOf i2).toNat)
    case atStart=>exact ⟨0,r1.c,r1.fu,oxs,out,Nat.zero_le _,rfl,HNI.out,HLP5.out,HSD.out⟩
    case round =>
     obtain ⟨k,c2,fu2,oxs2,out2,hk2,rfl,hnow2,hlp2',hsd2⟩:=hrel
     have HLP2:=Xa hlp2'
     have HSD2:=Xa hsd2
     obtain ⟨ao2,co2,rfl⟩:=hlp2'.lo.slice
     obtain ⟨_,_,q22,_,_⟩:=hlp2'.se.cells
     have zs2:=hlp2'.but.size
     by_cases hlt2:k<M5
     ·have hltI2:(k:Int)<(M5:Int):=by omega
      by_cases h02:c2=0
      ·subst h02
       obtain ⟨hnx2,ho402⟩:=hnow2.next rfl (by rw[HM5.out];exact hlt2)
       obtain ⟨b',ax2,cx2,ebb,hbb2,hcA2,hnrA⟩:=hlp2'.la.cell (j:=i) (by rw[HMQ.out];exact hlt)
       injection ebb with ebb
       injection ebb with ebb
       subst ebb
       obtain ⟨bB,bx,cy,rfl,hbbB,hcB,hnrB⟩:=hsd2.row.cell (j:=k) (by rw[HM5.out];exact hlt2)
       have HNA:=Xa hnrA
       have HNB:=Xa hnrB
       have HLF2:=Xa hlp2'.fud
       obtain ⟨r9,hr9⟩:∃r9,Xs 16 (Xl m i) (Xl m5 k)=r9:=⟨_,rfl⟩
       have HR9:=Xa hr9
       have HNR9:Hid (Now R (fun st=>Yd (Xo (fun b=>Xv (Xs 16 (Xl m i) b) Xk) (m5.drop (k+1)) st) (fun st=>Yd (Xo (fun a=>Xq (Xf fs d) (Xi x 1) ns (fun b=>Xv (Xs 16 a b) Xk)) (m.drop (i+1)) st) Xy)) (Y6 r9.1 (out2.length+(Y0 r9).length)) fu2 (out2++Y0 r9)):=Uq ho402 (by rw[hnx2,←hr9])
       have HCP:Hid (∀W,Below wr.heap.size wr W→Calls Tryz.prog 130 #[.slice ax2 (Xl m i).length cx2, .slice bx (Xl m5 k).length cy] W fun e w'=>e= .returned (.int .i64 (Yt (Xl m i) (Xl m5 k)))∧Below wr.heap.size wr w'):=fun W hb=>(Wu (hnrA.below hb) (hnrB.below hb)).mono fun e w' h=>⟨h.1,hb.trans (h.2.mono hb.size)⟩
       obtain ⟨od,hod⟩:∃od,Yt (Xl m i) (Xl m5 k)=od:=⟨_,rfl⟩
       have HOD:=Xa hod
       rw[hod] at HCP
       obtain ⟨LX,hLX⟩:∃LX,(Xl m i).length=LX:=⟨_,rfl⟩
       obtain ⟨LY,hLY⟩:∃LY,(Xl m5 k).length=LY:=⟨_,rfl⟩
       obtain ⟨OL2,hO2⟩:∃OL2,out2.length=OL2:=⟨_,rfl⟩
       have HOL2:=Xa hO2
       have hOL40:OL2≤40:=by omega
       rw[hLX] at hcA2 HCP HNA
       rw[hLY] at hcB HCP HNB
       rw[hO2] at HLP2 HSD2 HNR9⊢
       clear hnow2 hlp2' hsd2 hnx2 ho402 hnrA hnrB hr9 hLX hLY hO2 hod
       go_wp2_with fail
       go_region_law (refine Qh (by rfl) 130 _ _ _ _ (by rfl) (.slice ax2 LX cx2) (.slice bx LY cy) (by rfl) (by rfl) (Uo _ _) (HCP.out _ (by first|exact Below.refl _ _|exact (Below.refl _ _).drew)) ?_;rintro e w6 ⟨rfl,hb6⟩;have hcA6:=(Xc hb6 (X8 hcA2)).trans hcA2;have hcB6:=(Xc hb6 (X8 hcB)).trans hcB;refine ⟨_,rfl, ?_⟩)
       all_goals
        have HLP6:=Xa (HLP2.out.keep (.of_below hb6) (HLP2.out.se.below hb6) HLF2.out)
        have HSD6:=Xa (HSD2.out.keep (.of_below hb6))
        have HNA6:=Xa (HNA.out.below hb6)
        have HNB6:=Xa (HNB.out.below hb6)
        have z6:=hb6.size
        clear hb6
        have HPL:Hid (∀W,Below w6.heap.size w6 W→Calls Tryz.prog 132 #[.slice ax2 LX cx2, .slice bx LY cy] W (Made1 E r9 w6)):=fun W hb=>by
         rw[←HR9.out]
         exact (Xt0 (HNA6.out.below hb) (HNB6.out.below hb) (by have:=HE.out;have:=HG2.out;have:=hb.size;omega)).mono fun e w' h=>h.ahead hb
        obtain ⟨rc,hrc⟩:∃rc,r9.1=rc:=⟨_,rfl⟩
        have HRC:=Xa hrc
        clear hrc
        go_wp2_with fail
        go_region_law (refine Qh (by rfl) 132 _ _ _ _ (by rfl) (.slice ax2 LX cx2) (.slice bx LY cy) (by rfl) (by rfl) (Xr7 _ _) (HPL.out _ (by first|exact Below.refl _ _|exact (Below.refl _ _).drew)) ?_;rintro e w7 ⟨u7,rfl,⟨a7,l7,c7,rfl⟩,hnr7,hb7⟩;rw[HRC.out];refine ⟨_,rfl, ?_⟩)
        all_goals
         have HLP7:=Xa (HLP6.out.keep (.of_below hb7) (HLP6.out.se.below hb7) HLF2.out)
         have HSD7:=Xa (HSD6.out.keep (.of_below hb7))
         have HCO:=Xa (Xab HLP7.out.se ⟨a7,l7,c7,rfl⟩ hnr7)
         have HL1:=Xa (Vm r9)
         rw[HRC.out] at HCO HNR9
         clear hnr7 hb7
         go_wp2_with fail
         refine HCO.out.mono ?_
         rintro e w8 ⟨sv8,xs8,rfl,hs8,hb8,hl8⟩
         have hlp8:=HLP7.out.keep hb8 hs8 HLF2.out
         have hsd8:=HSD7.out.keep hb8
         have hrow8:=hlp8.lo.row
         rw[HOL2.out] at hrow8
         have hlen8:=hl8.len
         have hone8:=hl8.ones
         have hin8:=hl8.inn
         obtain ⟨a8,c8,rfl⟩:=hl8.slice
         have hsrc8:=hl8.src
         have hz8:=hlp8.but.size
         obtain ⟨m8,hm8⟩:∃m8,Y0 r9=m8:=⟨_,rfl⟩
         have hm81:m8.length≤1:=by rw[←hm8];exact HL1.out
         rw[hm8] at HNR9 hlen8 hin8 hsrc8⊢
         clear hm8
         go_wp2_with (at_builtin;refine Ye rfl _ _ 28 rfl W2.heap.size 25 i0 (.slice none 0 0) 1 24 Tryz.underlying28 hi0 hz0 hs0 hy0 rfl (by decide) _ OL2 oxs2 rfl hrow8 a8 m8.length c8 xs8 rfl (by rw[hlen8,Nat.mul_one]) hsrc8 hone8 (by unfold maxLen;omega) (by omega) (by omega) ?_)
         intro v9 w9 hown9 hg9 hat9
         have HSD9:=Xa (hsd8.app hlp8.lo hg9 hat9)
         rw[←HOL2.out] at hown9
         have HLP9:=Xa (hlp8.app hlen8 hin8 hown9 hg9 hat9 (by rw[HOL2.out];omega))
         obtain ⟨a9,c9,e9⟩:=Xj hown9
         rw[HOL2.out] at e9
         obtain ⟨OL9,hO9⟩:∃OL9,OL2+m8.length=OL9:=⟨_,rfl⟩
         rw[hO9] at e9 HNR9
         subst e9
         clear hown9 hg9 hat9 hlp8 hsd8 hlen8 hin8 hone8 hrow8 hsrc8 hs8 hb8 hl8 hO9
         go_wp2_with fail
         refine (Zc a9 OL9 c9 HLP9.out.se).mono ?_
         rintro e w10 ⟨rfl,hs10,hb10⟩
         have HLP10:=Xa (HLP9.out.keep hb10 hs10 HLF2.out)
         have HSD10:=Xa (HSD9.out.keep hb10)
         clear hs10 hb10
         go_wp2_with fail
         go_roundw
         case rel=>exact ⟨k+1,_,_,_,_,by omega,by go_num,HNR9.out,HLP10.out,HSD10.out⟩
         case measure=>simp[intOf];omega
      ·have q0:(c2==0)=false:=by simpa using h02
       have HNO:=Xa (hnow2.dead h02 (fun st=>Yd (Xo (fun a=>Xq (Xf fs d) (Xi x 1) ns (fun b=>Xv (Xs 16 a b) Xk)) (m.drop (i+1)) st) Xy) out2)
       clear h02
       clear hnow2 hlp2' hsd2
       go_wp2_with fail
       go_roundw
       case rel=>exact ⟨i+1,_,_,_,_,by omega,by go_num,HNO.out,HLP2.out⟩
       case measure=>simp[intOf];omega
     ·obtain rfl:k=M5:=by omega
      have HNO:=Xa (hnow2.over (by rw[HM5.out];exact Nat.le_refl _))
      clear hnow2 hlp2' hsd2
      go_wp2_with fail
      go_roundw
      case rel=>exact ⟨i+1,_,_,_,_,by omega,by go_num,HNO.out,HLP2.out⟩
      case measure=>simp[intOf];omega
   ·have q0:(c==0)=false:=by simpa using h0
    have HNP:Hid (Now R Xy c fu out):=hnow.dead h0 _ _
    have HFW:Hid (out.length≤100 *(d+2)):=by have:=HLP.out.few;unfold Hid;omega
    obtain ⟨OL,hO⟩:∃OL,out.length=OL:=⟨_,rfl⟩
    have HOL:=Xa hO
    rw[hO] at HLP⊢
    clear h0
    clear hnow hlp hO
    go_wp2_with fail
    go_ret
    exact ⟨.slice ao OL co,oxs,out,c,fu,rfl,HLP.out.se,HBT.out.trans HLP.out.but,HLP.out.lo.low (by have:=HG2.out;omega) HE.out,HNP.out,HFW.out⟩
  ·obtain rfl:i=M:=by omega
   have HNP:Hid (Now R Xy c fu out):=hnow.over (by rw[HMQ.out];exact Nat.le_refl _)
   have HFW:Hid (out.length≤100 *(d+2)):=by have:=HLP.out.few;unfold Hid;omega
   obtain ⟨OL,hO⟩:∃OL,out.length=OL:=⟨_,rfl⟩
   have HOL:=Xa hO
   rw[hO] at HLP⊢
   clear hnow hlp hO
   go_wp2_with fail
   go_ret
   exact ⟨.slice ao OL co,oxs,out,c,fu,rfl,HLP.out.se,HBT.out.trans HLP.out.but,HLP.out.lo.low (by have:=HG2.out;omega) HE.out,HNP.out,HFW.out⟩

theorem X3g {B E d fu:Nat} {fv v kc kn ki:Value} {fs:List FN} {x:FN} {ns:List VN} {w:World} (hok:okF fs=true) (ho:Zs B E fv fs d) (hx:NodeOk fs x) (k1:15≤x.kind) (k2:x.kind≤20) (hin:FNodeIn B w x kc kn ki) (hs:SE B E fv fs fu 0 w) (hv:NR E w v ns) (hfu:fu≤d) (hd:d≤100000):
  Calls Tryz.prog 82 #[.pointer (some ⟨E,0,none⟩), .int .i64 x.kind,Ya x kc kn ki,v] w (Xa0 B E (100 *(d+2)) fv fs (Xq (Xf fs d) (Xi x 0) ns (fun a=>Xq (Xf fs d) (Xi x 1) ns (fun b=>Xv (Xs x.kind a b) Xk)) (fu,[])) w):=by
 have hk:x.kind=15∨x.kind=16∨x.kind=17∨x.kind=18∨x.kind=19∨x.kind=20:=by omega
 rcases hk with k|k|k|k|k|k
 ·have h1:=X37 hok ho hx k hin hs hv hfu hd
  rw[k]
  exact h1
 ·have h1:=X4t hok ho hx k hin hs hv hfu hd
  rw[k]
  exact h1
 ·have h1:=X5b hok ho hx k hin hs hv hfu hd
  rw[k]
  exact h1
 ·have h1:=X4m hok ho hx k hin hs hv hfu hd
  rw[k]
  exact h1
 ·have h1:=X49 hok ho hx k hin hs hv hfu hd
  rw[k]
  exact h1
 ·have h1:=X4s hok ho hx k hin hs hv hfu hd
  rw[k]
  exact h1
set_option maxRecDepth 100000 in
theorem X3h {B E d j n:Nat} {fv v:Value} {fs:List FN} {x:FN} {ns:List VN} {w:World} (hok:okF fs=true) (ho:Zs B E fv fs d) (hx:NodeOk fs x) (k1:15≤x.kind) (k2:x.kind≤20) (hn:n<fs.length) (hxn:Xr fs n=x) (hse:SE B E fv fs (j+1) 0 w) (hv:NR E w v ns) (hj:j≤d) (hd:d≤100000):
  Calls Tryz.prog 35 #[.pointer (some ⟨E,0,none⟩), .int .i64 n,v] w (RunAns B E (100 *(d+2)) fv fs (evM (Xf fs d) x ns Xk (j,[])).1 (evM (Xf fs d) x ns Xk (j,[])).2.2 (evM (Xf fs d) x ns Xk (j,[])).2.1 w):=by
 obtain ⟨W1,W2,W3,b0,o0,cap,aC,cC,aK,cK,aI,cI,hp⟩:=Qo hse hn hxn
 obtain ⟨hfv,q0,q1,q2,z1,hW1,p0,s0,s1,s2,s3,s4,s5,hW2,hW3,g1,g2,g3,hse3,hbut,hbu3,hbox,hE,hB⟩:=hp
 have HS3:=Xa hse3
 have HBT:=Xa hbut
 have HB3:=Xa hbu3
 have HBX:=Xa hbox
 have HV3:Hid (NR E W3 v ns):=(hv.but hbut).below hbu3
 have HOK:=Xa hv.ok
 have HO:=Xa ho
 have HX:=Xa hx
 have HE:=Xa hE
 obtain ⟨av,cv,rfl⟩:=hv.slice
 obtain ⟨R,hR⟩:∃R,evM (Xf fs d) x ns Xk (j,[])=R:=⟨_,rfl⟩
 have HRR:=Xa hR
 rw[hR]
 have hnI:(n:Int)<(fs.length:Int):=by omega
 have hj0:¬((j:Int)+1=0):=by omega
 have hjb:(j:Int)≤1000000:=by omega
 obtain ⟨NF,hNF⟩:∃NF,fs.length=NF:=⟨_,rfl⟩
 rw[hNF] at q0 p0 hnI hn
 have y0:=(Xc hbu3 (by omega)).trans hbox.c0
 have y1:=(Xc hbu3 (by omega)).trans hbox.c1
 have y2:=(Xc hbu3 (by omega)).trans hbox.c2
 have y3:=(Xc hbu3 (by omega)).trans hbox.c3
 have y4:=(Xc hbu3 (by omega)).trans hbox.c4
 have y5:=(Xc hbu3 (by omega)).trans hbox.c5
 obtain ⟨KK,hKK⟩:∃KK,x.kind=KK:=⟨_,rfl⟩
 rw[hKK] at s0 hW2 y0
 have HC:Hid (Calls Tryz.prog 82 #[.pointer (some ⟨E,0,none⟩), .int .i64 x.kind, .agg #[.int .i64 x.kind, .string x.name, .int .i64 x.place, .slice aC x.cst.length cC, .slice aK x.names.length cK, .slice aI x.kids.length cI], .slice av ns.length cv] W3 (Xa0 B E (100 *(d+2)) fv fs R W3)):=by
  have h1:=X3g hok ho hx k1 k2 (hbox.inn.below (hbu3.mono (by omega))) hse3 HV3.out hj hd
  rw[←Xxv k1 k2,hR] at h1
  exact h1
 rw[hKK] at HC
 have hk6:KK=15∨KK=16∨KK=17∨KK=18∨KK=19∨KK=20:=by omega
 clear hse hv ho hx hxn hok hR hfv hse3 hbut hbu3 hbox hNF hKK hE hB k1 k2
 rcases hk6 with rfl|rfl|rfl|rfl|rfl|rfl
 all_goals
  go_enter Tryz.func35,Tryz.ntmps35
  go_wp2_with fail
  refine HC.out.mono ?_
  rintro e w4 ⟨sv,xs,m,c,fu,rfl,hs4,hb4,hl4,hn4,hm4⟩
  have HNP:=Xa hn4
  have HMC:=Xa hn4.many
  have HS4:=Xa hs4
  have HB4:=Xa ((ButE.of_below HB3.out).trans hb4)
  have HL4:=Xa hl4
  have HFW:=Xa hm4
  obtain ⟨a4,c4,rfl⟩:=hl4.slice
  obtain ⟨M,hM⟩:∃M,m.length=M:=⟨_,rfl⟩
  rw[hM] at HMC HL4⊢
  clear hs4 hb4 hl4 hn4 hm4 hM
  go_wp2_with fail
  refine (Zc a4 M c4 HS4.out).mono ?_
  rintro e w5 ⟨rfl,hs5,hb5⟩
  rw[HMC.out] at hs5
  have HA:=Xa (Q2 (M:=100 *(d+2)) (e:= .returned (.slice a4 M c4)) rfl HNP.out hs5 HBT.out (HB4.out.trans hb5) (HL4.out.keep hb5) (by omega) HE.out HFW.out)
  clear hs5 hb5
  go_wp2_with fail
  go_ret
  exact HA.out
end Go.Proofs.YtdjddneidbddpaaGreatDoor
