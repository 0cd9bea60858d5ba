import Derived.Test.YtdjddneidbddpaaGreatDoorEvZ
import Derived.Test.YtdjddneidbddpaaGreatDoorSPlsL
import Derived.Test.YtdjddneidbddpaaGreatDoorIPlsT
import Derived.Test.YtdjddneidbddpaaGreatDoorByP
import Derived.Test.YtdjddneidbddpaaGreatDoorSeQ
import Derived.Test.YtdjddneidbddpaaGreatDoorPsZ
import Derived.Test.YtdjddneidbddpaaGreatDoorSeF
namespace Go.Proofs.YtdjddneidbddpaaGreatDoor
set_option linter.unusedSectionVars false
set_option maxRecDepth 100000
set_option maxHeartbeats 6400000
open Go.RowKit
set_option linter.unusedSimpArgs false
set_option linter.unusedVariables false
theorem Xit {f:Nat} {t:VT} {x:Value} {ns:List VN} {w:World} (ht:TreeAt w.heap.size w f t x) (hl:Yb f t 0=ns) (hn:ns.length<=100000) (hf:∀i,i<ns.length->Fits (Xb ns i)) (hE:Errs2 w):Calls Tryz.prog 142 #[x] w (Jd (Yo ns) w):=by
 cases ok:okB ns
 ·have e:Yo ns=(3,[]):=by unfold Yo;rw[ok];rfl
  rw[e]
  refine (Jy f t x ns w ht hl hn hf hE ok).mono ?_
  rintro e c ⟨d,g,rfl,j,b⟩
  exact ⟨.inr ⟨(show (3:Int)≠0 by decide),_,rfl,d,g,rfl,j⟩,b⟩
 ·have e:Yo ns=(0,ns):=by unfold Yo;rw[ok];rfl
  rw[e]
  refine (Jf f t x ns w ht hl hn hf hE ok).mono ?_
  rintro e c ⟨rfl,b⟩
  exact ⟨.inl ⟨rfl,x,rfl,(Rep.of ht hl ok).below b⟩,b⟩
theorem Xo6 {w:World} {it:Value} {l:List (List VN)} (h:ItemsRep w it l):∀j,j<l.length->okB (Xn l j)=true:=by
 intro j d
 obtain ⟨b,c,t,x,_,_,f⟩:=Xb1 h d
 exact f.1
theorem Xiu {w:World} {it:Value} {l:List (List VN)} (h:ItemsRep w it l):Q8 w.heap.size w it (Vp (Xn l) l.length).length (fun j u=>TreeAt w.heap.size w 80 (Yf (Vp (Xn l) l.length) j) u):=by
 obtain ⟨g,a,c,rfl,o⟩:=h
 rw[Xfk]
 refine ⟨g,a,c,rfl,fun hp=> ?_⟩
 obtain ⟨b,rfl,f⟩:=o hp
 refine ⟨b,rfl, ?_,fun j hj=> ?_⟩
 ·obtain ⟨t,x,d,_⟩:=f 0 hp
  exact X7 d
 ·obtain ⟨t,x,d,p⟩:=f j hj
  refine ⟨t,x,d, ?_⟩
  show TreeAt w.heap.size w 80 (Yf (Vp (Xn l) l.length) j) (.iface t x)
  rw[Xo9 (Xn l) hj]
  exact p.2
theorem Xld {w:World} {it:Value} {l:List (List VN)} (h:ItemsRep w it l):TreeAt w.heap.size w 81 (.mk 5 0 ByteArray.empty [] (Vp (Xn l) l.length)) (.iface 158 (.agg #[it])):=
 .inr (.inr (.inr (.inr (.inl ⟨rfl,rfl,rfl,rfl,it,rfl,Xiu h⟩))))
theorem X1j {w:World} {it ks:Value} {l:List (List VN)} {names:List ByteArray} (h:ItemsRep w it l) (hs:StrsAt w.heap.size w ks names):TreeAt w.heap.size w 81 (.mk 6 0 ByteArray.empty names (Vp (Xn l) l.length)) (.iface 118 (.agg #[ks,it])):=
 .inr (.inr (.inr (.inr (.inr ⟨rfl,rfl,rfl,ks,it,rfl,hs,Xiu h⟩))))
theorem Xhj {w:World} {it:Value} {l:List (List VN)} (h:ItemsRep w it l) (hl:l.length<=200) (hE:Errs2 w):Calls Tryz.prog 142 #[.iface 158 (.agg #[it])] w (Jd (Yo (Zo l)) w):=by
 have b:=Xo6 h
 have c:=Gc (L:=Xn l) (m:=l.length) hl b (fun i hi=>Uf (b i hi)) (kind:=5) (by omega) (by omega) (keys:= []) (by simp) (fun i hi=>absurd hi (by simp))
 exact Xit (Xld h) (Xhm 5 [] (Xn l) l.length b) (Nat.le_trans c.1 (by omega)) (fun i hi=>(c.2 i hi).1) hE
theorem X3g {w:World} {it ks:Value} {l:List (List VN)} {names:List ByteArray} (h:ItemsRep w it l) (hs:StrsAt w.heap.size w ks names) (hl:l.length<=200) (hn:names.length<=200) (hE:Errs2 w):Calls Tryz.prog 142 #[.iface 118 (.agg #[ks,it])] w (Jd (Yo (Xcs names l)) w):=by
 have b:=Xo6 h
 have c:=Gc (L:=Xn l) (m:=l.length) hl b (fun i hi=>Uf (b i hi)) (kind:=6) (by omega) (by omega) (keys:=names) hn hs.2.1
 exact Xit (X1j h hs) (Xhm 6 names (Xn l) l.length b) (Nat.le_trans c.1 (by omega)) (fun i hi=>(c.2 i hi).1) hE
theorem Xle {Z:Nat} {w:World} {sv:Value} {xs:List Value} {l:List (List VN)} (h:OutRow Z w sv xs) (hl:xs.length=l.length) (h0:l.length<=100000) (hr:∀j,j<l.length->Rep w (Xn l j) (xs.getD j undef)):ItemsRep w sv l:=by
 refine ⟨h0, ?_⟩
 rcases h with ⟨rfl,rfl⟩|⟨g,cap,rfl,hg,hh,hnc,_⟩
 ·have e:l.length=0:=by simpa using hl.symm
  exact ⟨none,0,by rw[e],fun hp=>absurd hp (by omega)⟩
 ·refine ⟨some ⟨g,0,none⟩,cap,by rw[hl],fun hp=>⟨g,rfl,fun j hj=> ?_⟩⟩
  have hr:=hr j hj
  obtain ⟨t,y,e⟩:=hr.iface
  refine ⟨t,y, ?_,by rw[<-e];exact hr⟩
  rw[Xw hh,List.getElem?_toArray,List.getElem?_append_left (by omega)]
  rw[List.getD_eq_getElem?_getD,List.getElem?_eq_getElem (show j<xs.length by omega)] at e
  rw[List.getElem?_eq_getElem (show j<xs.length by omega)]
  exact congrArg some e
theorem OutRow.below {Z:Nat} {w w':World} {sv:Value} {xs:List Value} (h:OutRow Z w sv xs) (hb:Below w.heap.size w w'):OutRow Z w' sv xs:=by
 rcases h with h|⟨g,cap,e,h1,h2,h3⟩
 ·exact .inl h
 ·exact .inr ⟨g,cap,e,h1,(hb.block g (Zn h2)).trans h2,h3⟩
theorem AppFr.below {Z:Nat} {w w':World} (h:AppFr Z w w'):Below Z w w':=⟨h.os,h.tape,h.output,h.size,h.block⟩
def Xhk (i:Nat):Value:= .iface 114 (.agg #[.int .i64 (i:Int)])
def Xdx (s:ByteArray):Value:= .iface 116 (.agg #[.string s])
theorem X3h (w:World) {i:Nat} (h:i<=1000000):Rep w (Xr 3 (i:Int) ByteArray.empty) (Xhk i):=
 Rep.of (f:=1) (t:= .mk 3 (i:Int) ByteArray.empty [] []) (.inr (.inr (.inl ⟨rfl,rfl,rfl,rfl,rfl⟩))) (Xbz _ _ _) (Xih (by omega) (by omega))
theorem Xsp {s:ByteArray} (h:Z4 s=true):okB (Xr 4 0 s)=true:=Xcy (by unfold Xz Yr Zi;simp[h])
theorem X1k (w:World) {s:ByteArray} (h:Z4 s=true):Rep w (Xr 4 0 s) (Xdx s):=
 Rep.of (f:=1) (t:= .mk 4 0 s [] []) (.inr (.inr (.inr (.inl ⟨rfl,rfl,rfl,rfl,rfl⟩)))) (Xbz _ _ _) (Xsp h)
theorem Xhl {ns:List VN} (ok:okB ns=true) (k:(Xd ns).kind=5\/(Xd ns).kind=6):(Vv ns).length=(Xe ns).length:=by
 unfold Vv
 rcases k with k|k
 ·rw[if_neg (by omega)];simp
 ·rw[if_pos k,List.length_map];exact (Y0 ok k).1
theorem Xo7 {ns:List VN} (k:(Xd ns).kind=5) {j:Nat} (h:j<(Xe ns).length):Xn (Vv ns) j=Xr 3 (j:Int) ByteArray.empty:=by
 unfold Xn Vv
 rw[if_neg (by omega),List.getD_eq_getElem?_getD,List.getElem?_map,List.getElem?_range h]
 rfl
theorem Xlf {ns:List VN} (k:(Xd ns).kind=6) {j:Nat} (h:j<(Xd ns).keys.length):Xn (Vv ns) j=Xr 4 0 (Xf (Xd ns).keys j):=by
 unfold Xn Vv Xf
 rw[if_pos k,List.getD_eq_getElem?_getD,List.getElem?_map,List.getElem?_eq_getElem h,List.getD_eq_getElem?_getD,List.getElem?_eq_getElem h]
 rfl
theorem Xuw (ns:List VN) (x:Value) (w:World) (h:Rep w ns x) (hE:Errs2 w):Calls Tryz.prog 157 #[x] w (Jd (K9 ns) w):=by
 have S:=Xfu
 have T:=Xfv
 have bc:=Xgy
 have V:=Xfw
 have X:=Xfx
 have bd:=Xgz
 have be:=Xry
 have bf:=Xg0
 have bh:=Xjb
 have bg:=Xg1
 have bi:=Xjc
 obtain ⟨R,hR⟩:∃R,K9 ns=R:=⟨_,rfl⟩
 have HE:=Xa hE
 have no:∀w1,Below w.heap.size w w1->∀e,R=(2,[])->∀v,J6 w1 2 v->e= .returned (.tuple #[.nilIface,v])->Jd R w e w1:=fun w1 hb e hr v hv he=>by
  subst hr
  exact ⟨.inr ⟨(show (2:Int)≠0 by decide),v,he,hv⟩,hb⟩
 have NO:=Xa no
 rw[hR]
 have bs:(Xe ns).length<=80:=by
  have p:=Xm h.1
  have:=p.2.2.2 (ns.length-1) (by omega);unfold Xe;omega
 rcases h.cases with ⟨k,rfl⟩|⟨k,rfl⟩|⟨k,rfl⟩|⟨k,rfl⟩|⟨k,it,rfl,hi⟩|⟨k,ks,it,rfl,hs,hi⟩
 case inr.inr.inr.inr.inl=>
  have HQ:Hid (R=Yo (Zo (Vv ns))):=by rw[Hid,<-hR];unfold K9;rw[if_pos (.inl k)]
  obtain ⟨_,ai,ci,rfl,_⟩:=hi
  have b:=Xa (Xhl h.1 (.inl k))
  have s:Hid (∀j,j<(Xe ns).length->Xn (Vv ns) j=Xr 3 (j:Int) ByteArray.empty):=fun j hj=>Xo7 k hj
  obtain ⟨M,hM⟩:∃M,(Yn ns).length=M:=⟨_,rfl⟩
  have Y:(Xe ns).length=M:=by rw[<-hM,Qm]
  rw[hM]
  rw[Y] at b s bs
  go_enter Tryz.func157,Tryz.ntmps157
  go_wp2_with fail
  go_loopw [4,6,19] (fun v _ i wr=>∃(j:Nat) (xs:List Value),j<=M/\i= .int .i64 j/\OutRow w.heap.size wr v xs/\xs=(List.range j).map Xhk/\Below w.heap.size w wr) (fun _ _ i _=>M-(intOf i).toNat)
  case atStart=>exact ⟨0,[],Nat.zero_le _,rfl, .inl ⟨rfl,rfl⟩,rfl,(Below.refl _ _).alloc (Nat.le_refl _) _⟩
  case round=>
   obtain ⟨j,xs,hj,rfl,c,g,d⟩:=hrel
   have HR:=Xa c
   have F:=Xa g
   have HB:=Xa d
   obtain ⟨av,cv,ev⟩:=c.slice
   have l:xs.length=j:=by rw[g];simp
   rw[l] at ev
   subst ev
   have hz:=d.size
   have G:=Xa l
   clear c g d l
   by_cases hlt:j<M
   ·have bt:(j:Int)<(M:Int):=by omega
    obtain ⟨J,L⟩:∃J,wr.alloc (.cells #[.iface 114 (.agg #[.int .i64 (j:Int)])] 52)=J:=⟨_,rfl⟩
    have o:Hid (Below wr.heap.size wr J):=by rw[Hid,<-L];exact (Below.refl _ _).alloc (Nat.le_refl _) _
    have k3:Hid (J.cell? ((⟨wr.heap.size,0,none⟩:Addr).add 0)=some (.iface 114 (.agg #[.int .i64 (j:Int)]))):=by rw[Hid,<-L];simp[Addr.add]
    have bj:=Xa (HR.out.below o.out)
    have HZ:Hid (w.heap.size<=J.heap.size):=Nat.le_trans hz o.out.size
    have bk:Hid (xs++ [Xhk j]=(List.range (j+1)).map Xhk):=by rw[Hid,List.range_succ,List.map_append,<-F.out];rfl
    go_wp2_with (at_builtin;refine Xdu (Z:=w.heap.size) (xs:=xs) rfl _ _ rfl rfl bj.out ⟨wr.heap.size,0,none⟩ 1 (.iface 114 (.agg #[.int .i64 (j:Int)])) rfl k3.out (Xe5 _ _) (by have:=G.out;omega) HZ.out ?_)
    intro bv w2 ba bb
    have bl:=Xa ba
    have f:Hid (Below w.heap.size w w2):=(HB.out.trans (o.out.mono hz)).trans bb.below
    clear ba bb
    go_wp2_with fail
    go_roundw
    case rel=>exact ⟨j+1,xs++ [Xhk j],by omega,by go_num,bl.out,bk.out,f.out⟩
    case measure=>simp[intOf];omega
   ·obtain rfl:j=M:=by omega
    have bm:Hid (ItemsRep wr (.slice av j cv) (Vv ns)):=by
     refine Xle HR.out (by rw[G.out,b.out]) (by rw[b.out];omega) (fun i hi=> ?_)
     rw[b.out] at hi
     rw[s.out i hi,F.out]
     have e:((List.range j).map Xhk).getD i undef=Xhk i:=by rw[List.getD_eq_getElem?_getD,List.getElem?_map,List.getElem?_range hi];rfl
     rw[e]
     exact X3h _ (by omega)
    have bn:=Xa (HE.out.below HB.out)
    go_wp2_with fail
    refine (Xhj bm.out (by rw[b.out];omega) bn.out).mono ?_
    rw[<-HQ.out]
    rintro e w2 ⟨ha,bo⟩
    have f:Hid (Below w.heap.size w w2):=HB.out.trans (bo.mono hz)
    rcases ha with ⟨z,y,rfl,hr⟩|⟨z,y,rfl,te,xe,rfl,hr⟩
    ·have H1:=Xa z
     have q:=Xa hr
     obtain ⟨t,yy,rfl⟩:=hr.iface
     go_wp2_with fail
     go_ret2
     exact ⟨.inl ⟨H1.out,_,rfl,q.out⟩,f.out⟩
    ·obtain ⟨C,hC⟩:∃C,R.1=C:=⟨_,rfl⟩
     have HC:=Xa hC
     rw[hC] at z hr|-
     have H1:=Xa z
     have q:=Xa hr
     go_wp2_with fail
     go_ret2
     exact ⟨.inr ⟨by rw[HC.out];exact H1.out,_,rfl,by rw[HC.out];exact ⟨te,xe,rfl,q.out⟩⟩,f.out⟩
 case inr.inr.inr.inr.inr=>
  have HQ:Hid (R=Yo (Zo (Vv ns))):=by rw[Hid,<-hR];unfold K9;rw[if_pos (.inr k)]
  obtain ⟨_,ai,ci,rfl,_⟩:=hi
  have P:=Y0 h.1 k
  have b:=Xa (Xhl h.1 (.inr k))
  have s:Hid (∀j,j<(Xe ns).length->Xn (Vv ns) j=Xr 4 0 (Xf (Xd ns).keys j)):=fun j hj=>Xlf k (by rw[P.1];exact hj)
  have bp:Hid (∀j,j<(Xe ns).length->Z4 (Xf (Xd ns).keys j)=true):=fun j hj=>by
   have z:=P.2
   unfold Qs at z
   rw[List.all_eq_true] at z
   have h2:=z j (List.mem_range.2 (by rw[P.1];exact hj))
   unfold Qd at h2
   rw[Bool.and_eq_true] at h2
   exact h2.1
  have bw:=Xa hs
  obtain ⟨D,bq⟩:∃D,(Xd ns).keys=D:=⟨_,rfl⟩
  have br:D.length=(Xe ns).length:=by rw[<-bq];exact P.1
  obtain ⟨_,_,a',c',rfl,B⟩:=hs
  rw[bq] at s bp B bw|-
  rw[br] at B|-
  have bu:=Xa B
  obtain ⟨M,hM⟩:∃M,(Yn ns).length=M:=⟨_,rfl⟩
  have Y:(Xe ns).length=M:=by rw[<-hM,Qm]
  rw[hM]
  rw[Y] at b s bp bu bs br|-
  clear h k hR hM Y P br bq B
  go_enter Tryz.func157,Tryz.ntmps157
  go_wp2_with fail
  go_loopw [4,9,35] (fun v _ i wr=>∃(j:Nat) (xs:List Value),j<=M/\i= .int .i64 j/\OutRow w.heap.size wr v xs/\xs=(List.range j).map (fun i=>Xdx (Xf D i))/\Below w.heap.size w wr) (fun _ _ i _=>M-(intOf i).toNat)
  case atStart=>exact ⟨0,[],Nat.zero_le _,rfl, .inl ⟨rfl,rfl⟩,rfl,(Below.refl _ _).alloc (Nat.le_refl _) _⟩
  case round=>
   obtain ⟨j,xs,hj,rfl,c,g,d⟩:=hrel
   have HR:=Xa c
   have F:=Xa g
   have HB:=Xa d
   obtain ⟨av,cv,ev⟩:=c.slice
   have l:xs.length=j:=by rw[g];simp
   rw[l] at ev
   subst ev
   have hz:=d.size
   have G:=Xa l
   clear c g d l
   by_cases hlt:j<M
   ·have bt:(j:Int)<(M:Int):=by omega
    obtain ⟨sb,so,rfl,bx,B⟩:=bu.out (by omega)
    have b1:=(Xc HB.out bx).trans (B j hlt)
    obtain ⟨J,L⟩:∃J,wr.alloc (.cells #[.iface 116 (.agg #[.string (Xf D j)])] 52)=J:=⟨_,rfl⟩
    have o:Hid (Below wr.heap.size wr J):=by rw[Hid,<-L];exact (Below.refl _ _).alloc (Nat.le_refl _) _
    have k3:Hid (J.cell? ((⟨wr.heap.size,0,none⟩:Addr).add 0)=some (.iface 116 (.agg #[.string (Xf D j)]))):=by rw[Hid,<-L];simp[Addr.add]
    have bj:=Xa (HR.out.below o.out)
    have HZ:Hid (w.heap.size<=J.heap.size):=Nat.le_trans hz o.out.size
    have bk:Hid (xs++ [Xdx (Xf D j)]=(List.range (j+1)).map (fun i=>Xdx (Xf D i))):=by rw[Hid,List.range_succ,List.map_append,<-F.out];rfl
    go_wp2_with (at_builtin;refine Xdu (Z:=w.heap.size) (xs:=xs) rfl _ _ rfl rfl bj.out ⟨wr.heap.size,0,none⟩ 1 (.iface 116 (.agg #[.string (Xf D j)])) rfl k3.out (Xe5 _ _) (by have:=G.out;omega) HZ.out ?_)
    intro bv w2 ba bb
    have bl:=Xa ba
    have f:Hid (Below w.heap.size w w2):=(HB.out.trans (o.out.mono hz)).trans bb.below
    go_wp2_with fail
    go_roundw
    case rel=>exact ⟨j+1,xs++ [Xdx (Xf D j)],by omega,by go_num,bl.out,bk.out,f.out⟩
    case measure=>simp[intOf];omega
   ·obtain rfl:j=M:=by omega
    have bm:Hid (ItemsRep wr (.slice av j cv) (Vv ns)):=by
     refine Xle HR.out (by rw[G.out,b.out]) (by rw[b.out];omega) (fun i hi=> ?_)
     rw[b.out] at hi
     rw[s.out i hi,F.out]
     have e:((List.range j).map (fun i=>Xdx (Xf D i))).getD i undef=Xdx (Xf D i):=by rw[List.getD_eq_getElem?_getD,List.getElem?_map,List.getElem?_range hi];rfl
     rw[e]
     exact X1k _ (bp.out i hi)
    have bn:=Xa (HE.out.below HB.out)
    go_wp2_with fail
    refine (Xhj bm.out (by rw[b.out];omega) bn.out).mono ?_
    rw[<-HQ.out]
    rintro e w2 ⟨ha,bo⟩
    have f:Hid (Below w.heap.size w w2):=HB.out.trans (bo.mono hz)
    rcases ha with ⟨z,y,rfl,hr⟩|⟨z,y,rfl,te,xe,rfl,hr⟩
    ·have H1:=Xa z
     have q:=Xa hr
     obtain ⟨t,yy,rfl⟩:=hr.iface
     go_wp2_with fail
     go_ret2
     exact ⟨.inl ⟨H1.out,_,rfl,q.out⟩,f.out⟩
    ·obtain ⟨C,hC⟩:∃C,R.1=C:=⟨_,rfl⟩
     have HC:=Xa hC
     rw[hC] at z hr|-
     have H1:=Xa z
     have q:=Xa hr
     go_wp2_with fail
     go_ret2
     exact ⟨.inr ⟨by rw[HC.out];exact H1.out,_,rfl,by rw[HC.out];exact ⟨te,xe,rfl,q.out⟩⟩,f.out⟩
 all_goals
  have HQ:Hid (R=(2,[])):=by rw[Hid,<-hR];unfold K9;rw[if_neg (by omega)]
  go_enter Tryz.func157,Tryz.ntmps157
  go_wp2_with fail
  refine (Zx _ HE.out.errs).mono ?_
  rintro e w1 ⟨⟨v,rfl,te,xe,rfl,bz⟩,rfl⟩
  have b0:=Xa bz
  go_wp2_with fail
  go_ret2
  exact NO.out _ (Below.refl _ _) _ HQ.out _ ⟨te,xe,rfl,b0.out⟩ rfl


theorem Xgo (u:Value):∀w,(callFunc 190 #[u]).run Tryz.prog w= .ok (.enter 190 #[u]) w:=fun w=>by kernel_rfl
theorem Xnp (x:Value) (w:World):(Instr.typeAssert (.iface 158 x) 52 116 true).run Tryz.prog w= .ok (.tuple #[.agg #[.string ByteArray.empty], .bool false]) w:=by kernel_rfl
theorem Xqy (us vs:List VN) (h1:okB us=true) (h2:okB vs=true) (lo B lo' B':Nat) (hlo:lo<=B) (hlo':lo'<=B') {f f':Nat} (hf:us.length=f+1) (hf':vs.length=f'+1) (b:Nat) (it it':Value) (V V':Nat->Value) (w:World)
  (hv:ValsAt w it (Xe us).length V) (hv':ValsAt w it' (Xe vs).length V') (hV:∀j,j<(Xe us).length->ValG lo B w us f (Xj (Xe us) j).toNat (V j)) (hV':∀j,j<(Xe vs).length->ValG lo' B' w vs f' (Xj (Xe vs) j).toNat (V' j)) (hB:B<=w.heap.size) (hB':B'<=w.heap.size)
  (c0:w.cell? ⟨b,0,none⟩=some it) (c1:w.cell? ⟨b,1,none⟩=some it') (hb:b<w.heap.size):
  Calls Tryz.prog 190 #[.slice (some ⟨b,0,none⟩) 2 2] w fun e w'=>∃r,e= .returned r/\(∃a c,r= .slice a ((Xe us).length+(Xe vs).length) c)/\TreeAt w'.heap.size w' (us.length+vs.length+1) (.mk 5 0 ByteArray.empty [] (Gp us vs (us.length+vs.length))) (.iface 158 (.agg #[r]))/\Below w.heap.size w w':=by
 have F:=(Zv h1).2
 have G:=(Zv h2).2
 obtain ⟨p,s,_,t⟩:=Xm h1
 obtain ⟨y,z,_,C⟩:=Xm h2
 refine (Xvb b it it' (Xe us).length (Xe vs).length V V' w hv hv' (by omega) (by omega) c0 c1 hb).mono ?_
 rintro e w' ⟨r,rfl,d,g⟩
 rw[Xh5] at d
 obtain ⟨a,c,D⟩:=Xg d
 refine ⟨r,rfl,⟨a,c,D⟩,Or.inr (Or.inr (Or.inr (Or.inr (Or.inl ⟨rfl,rfl,rfl,rfl,r,rfl,Xkr (Xg8 us vs _) (by omega) d (fun j hj=> ?_)⟩)))),g⟩
 by_cases hlt:j<(Xe us).length
 ·simp only[if_pos hlt]
  rw[Xm2 us vs _ hlt]
  obtain ⟨q,l,o⟩:=Zh h1 hlt
  exact TreeAt.keep (fun k hk=>g.block k (by omega)) (Nat.le_trans hB g.size) (ValG.tree hlo s t p.2 (by rw[l];simp;omega) (ValG.more (show f<=us.length+vs.length by omega) (hV j hlt)))
 ·simp only[if_neg hlt]
  rw[Xm3 us vs _ hlt (by omega)]
  obtain ⟨q,l,o⟩:=Zh h2 (show j-(Xe us).length<(Xe vs).length by omega)
  exact TreeAt.keep (fun k hk=>g.block k (by omega)) (Nat.le_trans hB' g.size) (ValG.tree hlo' z C y.2 (by rw[l];simp;omega) (ValG.more (show f'<=us.length+vs.length by omega) (hV' _ (by omega))))
theorem Xwg (us vs:List VN) (h1:okB us=true) (h2:okB vs=true) (lo B lo' B':Nat) (hlo:lo<=B) (hlo':lo'<=B') (x y:Value) (w:World) (hx:ValG lo B w us us.length (us.length-1) x) (hy:ValG lo' B' w vs vs.length (vs.length-1) y) (hB:B<=w.heap.size) (hB':B'<=w.heap.size) (hE:Errs2 w) (hfu:∀i,i<us.length->Fits (Xb us i)) (hfv:∀i,i<vs.length->Fits (Xb vs i)) (hk5:(Xd us).kind=5) (hk5':(Xd vs).kind=5):
  Calls Tryz.prog 174 #[x,y] w fun e w'=>Q2 (Qg us vs) (Zt us vs) e w'/\Below w.heap.size w w':=by
 obtain ⟨tx,vx,Fx,rfl,kx⟩:=Qc hx
 obtain ⟨ty,vy,Fy,rfl,ky⟩:=Qc hy
 have HM:=Xa (G9 h1 h2 (by omega) (by omega) (by omega))
 rw[Xp6 hk5] at HM
 have P:=Xa kx
 have R:=Xa ky
 have HE:=Xa hE
 have m1:=kx.meth
 have e1:=kx.enter
 have m2:=ky.meth
 have e2:=ky.enter
 have bt:((Xb us (us.length-1)).kind !=(Xb vs (vs.length-1)).kind)=false:=by
  have:(Xb us (us.length-1)).kind=(Xb vs (vs.length-1)).kind:=hk5.trans hk5'.symm
  simpa using this
 have bu:((Xb us (us.length-1)).kind==1)=false:=by simpa using (show ¬(Xb us (us.length-1)).kind=1 from (by have:(Xb us (us.length-1)).kind=5:=hk5;omega))
 have bv:((Xb vs (vs.length-1)).kind==1)=false:=by simpa using (show ¬(Xb vs (vs.length-1)).kind=1 from (by have:(Xb vs (vs.length-1)).kind=5:=hk5';omega))
 have bw:=Vk
 have bx:=Xbr
 have bz:=Xnp
 obtain ⟨p1,_,_,_⟩:=Xm h1
 obtain ⟨p2,_,_,_⟩:=Xm h2
 obtain ⟨f,hf⟩:∃f,us.length=f+1:=⟨us.length-1,by omega⟩
 obtain ⟨f',S⟩:∃f',vs.length=f'+1:=⟨vs.length-1,by omega⟩
 obtain ⟨rfl,it,rfl,hi⟩:=Xfy hf hk5 hx
 obtain ⟨rfl,bb,rfl,bc⟩:=Xfy S hk5' hy
 obtain ⟨V,hv,hV⟩:=V6 hi hB
 obtain ⟨V',bd,be⟩:=V6 bc hB'
 have z:=Xa (Xzm h1 h2 (F:=us.length+vs.length) (by omega) (by omega))
 have C:=Xa (Xks h1 h2 hfu hfv)
 have X:Hid (∀W b,Below w.heap.size w W->W.cell? ⟨b,0,none⟩=some it->W.cell? ⟨b,1,none⟩=some bb->b<W.heap.size->Calls Tryz.prog 190 #[.slice (some ⟨b,0,none⟩) 2 2] W fun e w'=>∃r,e= .returned r/\(∃a c,r= .slice a ((Xe us).length+(Xe vs).length) c)/\TreeAt w'.heap.size w' (us.length+vs.length+1) (.mk 5 0 ByteArray.empty [] (Gp us vs (us.length+vs.length))) (.iface 158 (.agg #[r]))/\Below W.heap.size W w'):=
  fun W b hb c0 c1 hbl=>Xqy us vs h1 h2 lo B lo' B' hlo hlo' hf S b it bb V V' W (hv.below hb) (bd.below hb) (fun j hj=>ValG.keep (Z9 (hb.mono hB)) (Nat.le_refl _) hlo (hV j hj)) (fun j hj=>ValG.keep (Z9 (hb.mono hB')) (Nat.le_refl _) hlo' (be j hj)) (Nat.le_trans hB hb.size) (Nat.le_trans hB' hb.size) c0 c1 hbl
 obtain ⟨a,o,rfl,_⟩:=hi
 obtain ⟨J,l,rfl,_⟩:=bc
 obtain ⟨T,hT⟩:∃T,(VT.mk 5 0 ByteArray.empty [] (Gp us vs (us.length+vs.length)))=T:=⟨_,rfl⟩
 obtain ⟨F,hF⟩:∃F,us.length+vs.length+1=F:=⟨_,rfl⟩
 obtain ⟨M,hM⟩:∃M,(Xe us).length=M:=⟨_,rfl⟩
 obtain ⟨t,Y⟩:∃t,(Xe vs).length=t:=⟨_,rfl⟩
 rw[hT,hF,hM,Y] at X
 rw[hT,hF] at z
 rw[hM] at P m1 e1|-
 rw[Y] at R m2 e2|-
 obtain ⟨NS,bf⟩:∃NS,Gv us vs=NS:=⟨_,rfl⟩
 rw[bf] at HM z C
 clear kx ky hx hy hv bd hV be p1 p2 hf S hM Y hE hT hF bf hfu hfv
 go_enter Tryz.func174,Tryz.ntmps174
 go_wp2_with fail
 refine (P.out.says _).mono ?_
 rintro e w1 ⟨rfl,bg⟩
 have bh:=Xa bg
 clear bg
 go_wp2_with fail
 refine (R.out.says _).mono ?_
 rintro e wa ⟨rfl,bi⟩
 have bj:=Xa (bh.out.trans (bi.mono bh.out.size))
 clear bi
 go_wp2_with fail
 refine (P.out.says _).mono ?_
 rintro e wb ⟨rfl,bk⟩
 have bl:=Xa (bj.out.trans (bk.mono bj.out.size))
 clear bk
 go_wp2_with fail
 refine (R.out.says _).mono ?_
 rintro e w2 ⟨rfl,bm⟩
 have bn:=Xa (bl.out.trans (bm.mono bl.out.size))
 clear bm
 go_wp2_with fail
 obtain ⟨W,hW⟩:∃W,w2.alloc (.cells #[.slice a M o] 158)=W:=⟨_,rfl⟩
 have c0:W.cell? ⟨w2.heap.size,0,none⟩=some (.slice a M o):=by rw[<-hW];simp
 have bp:w2.heap.size<W.heap.size:=by rw[<-hW];simp
 have d:Hid (Below w.heap.size w W.drew):=by rw[Hid,<-hW];exact (bn.out.alloc bn.out.size _).drew
 have bo:W.drew.cell? ⟨w2.heap.size,0,none⟩=some (.slice a M o):=c0
 have L:w2.heap.size<W.drew.heap.size:=by simpa using bp
 rw[hW]
 clear hW
 cases ok:okB NS
 ·go_region_law
   (first
    |(refine Xcj (by rfl) _ _ (by rfl) 158 (.agg #[.slice J t l]) (by rfl) 249 (Xc3 _) (Xc4 _) (Ka J t l _) ?_;rintro e Z ⟨rfl,g⟩;have bq:=(Xc g L).trans bo;refine ⟨_,rfl, ?_⟩)
    |(refine Zu (by rfl) 190 _ _ (by rfl) (.slice (some ⟨Z.heap.size,0,none⟩) 2 2) (by rfl) (Xgo _) (X.out (Z.alloc (.cells #[.slice a M o, .slice J t l] 58)) Z.heap.size ((d.out.trans (g.mono d.out.size)).alloc (d.out.trans (g.mono d.out.size)).size _) (by simp) (by simp) (by simp)) ?_;rintro e w4 ⟨r,rfl,⟨ar,cr,rfl⟩,s,p⟩;refine ⟨_,rfl, ?_⟩)
    |(refine Zu (by rfl) 142 _ _ (by rfl) (.iface 158 (.agg #[.slice ar (M+t) cr])) (by rfl) (Qo _) (Jy F T _ NS w4 s z.out (Nat.le_trans C.out.1 (by omega)) (fun i hi=>(C.out.2 i hi).1) (HE.out.below (((d.out.trans (g.mono d.out.size)).alloc (d.out.trans (g.mono d.out.size)).size _).trans (p.mono ((d.out.trans (g.mono d.out.size)).alloc (d.out.trans (g.mono d.out.size)).size _).size))) ok) ?_;rintro e w5 ⟨te,xe,rfl,br,q⟩;refine ⟨_,rfl, ?_⟩))
  all_goals
   have D:=Xa ((d.out.trans (g.mono d.out.size)).alloc (d.out.trans (g.mono d.out.size)).size (.cells #[.slice a M o, .slice J t l] 58))
   have G:=Xa (D.out.trans (p.mono D.out.size))
   have ba:=Xa (G.out.trans (q.mono G.out.size))
   clear g p q s
   go_wp2_with fail
   go_ret2
   exact ⟨Or.inr ⟨by rw[HM.out.2,ok];rfl,_,rfl,by rw[HM.out.1,ok];exact ⟨te,xe,rfl,br⟩⟩,ba.out⟩
 ·go_region_law
   (first
    |(refine Xcj (by rfl) _ _ (by rfl) 158 (.agg #[.slice J t l]) (by rfl) 249 (Xc3 _) (Xc4 _) (Ka J t l _) ?_;rintro e Z ⟨rfl,g⟩;have bq:=(Xc g L).trans bo;refine ⟨_,rfl, ?_⟩)
    |(refine Zu (by rfl) 190 _ _ (by rfl) (.slice (some ⟨Z.heap.size,0,none⟩) 2 2) (by rfl) (Xgo _) (X.out (Z.alloc (.cells #[.slice a M o, .slice J t l] 58)) Z.heap.size ((d.out.trans (g.mono d.out.size)).alloc (d.out.trans (g.mono d.out.size)).size _) (by simp) (by simp) (by simp)) ?_;rintro e w4 ⟨r,rfl,⟨ar,cr,rfl⟩,s,p⟩;refine ⟨_,rfl, ?_⟩)
    |(refine Zu (by rfl) 142 _ _ (by rfl) (.iface 158 (.agg #[.slice ar (M+t) cr])) (by rfl) (Qo _) (Jf F T _ NS w4 s z.out (Nat.le_trans C.out.1 (by omega)) (fun i hi=>(C.out.2 i hi).1) (HE.out.below (((d.out.trans (g.mono d.out.size)).alloc (d.out.trans (g.mono d.out.size)).size _).trans (p.mono ((d.out.trans (g.mono d.out.size)).alloc (d.out.trans (g.mono d.out.size)).size _).size))) ok) ?_;rintro e w5 ⟨rfl,q⟩;refine ⟨_,rfl, ?_⟩))
  all_goals
   have D:=Xa ((d.out.trans (g.mono d.out.size)).alloc (d.out.trans (g.mono d.out.size)).size (.cells #[.slice a M o, .slice J t l] 58))
   have G:=Xa (D.out.trans (p.mono D.out.size))
   have ba:=Xa (G.out.trans (q.mono G.out.size))
   have bs:=Xa (TreeAt.keep (fun k hk=>q.block k hk) q.size s)
   clear g p q s
   go_wp2_with fail
   go_ret2
   exact ⟨Or.inl ⟨by rw[HM.out.1,ok];rfl,F,T,_,_,rfl,bs.out,by rw[HM.out.2,ok];exact z.out⟩,ba.out⟩


theorem Xsq (u v:Value):∀w,(callFunc 191 #[u,v]).run Tryz.prog w= .ok (.enter 191 #[u,v]) w:=fun w=>by kernel_rfl
theorem Xym {lo B:Nat} {w:World} {us:List VN} {f:Nat} {t:TypeId} {v:Value} (hlo:lo<=B) (hf:us.length=f+1) (hk:(Xd us).kind=6) (h:ValG lo B w us us.length (us.length-1) (.iface t v)):
  t=118/\∃ks it,v= .agg #[ks,it]/\StrsAt B w ks (Xd us).keys/\ItemsG lo B w it (Xe us).length (fun j u=>ValG lo B w us f (Xj (Xe us) j).toNat u):=by
 rw[hf,show f+1-1=f by omega] at h
 have c:Xb us f=Xd us:=by unfold Xd;rw[hf];rfl
 have b:Xe us=(Xd us).kids:=rfl
 unfold ValG at h
 rw[c] at h
 rcases h with ⟨k,e⟩|⟨k,e⟩|⟨k,e⟩|⟨k,e⟩|⟨k,it,e,hi⟩|⟨k,ks,it,e,hs,hi⟩
 case inr.inr.inr.inr.inr=>cases e;exact ⟨rfl,ks,it,rfl,hs,by rw[b];exact hi⟩
 all_goals exact absurd k (by omega)
theorem Xyn (us vs:List VN) (h1:okB us=true) (h2:okB vs=true) (hk1:(Xd us).kind=6) (hk2:(Xd vs).kind=6) (hfu:∀i,i<us.length->Fits (Xb us i)) (hfv:∀i,i<vs.length->Fits (Xb vs i)) (lo B lo' B':Nat) (hlo:lo<=B) (hlo':lo'<=B') {f f':Nat} (hf:us.length=f+1) (hf':vs.length=f'+1) (ks it ks' it':Value) (V V':Nat->Value) (w:World)
  (hks:StrsAt B w ks (Xd us).keys) (hks':StrsAt B' w ks' (Xd vs).keys) (hv:ValsAt w it (Xe us).length V) (hv':ValsAt w it' (Xe vs).length V') (hV:∀j,j<(Xe us).length->ValG lo B w us f (Xj (Xe us) j).toNat (V j)) (hV':∀j,j<(Xe vs).length->ValG lo' B' w vs f' (Xj (Xe vs) j).toNat (V' j)) (hB:B<=w.heap.size) (hB':B'<=w.heap.size):
  Calls Tryz.prog 191 #[.agg #[ks,it], .agg #[ks',it']] w fun e w'=>∃k2 i2 T,e= .returned (.agg #[k2,i2])/\(∃a c,k2= .slice a (Yx us vs) c)/\(∃a c,i2= .slice a (Yx us vs) c)/\TreeAt w'.heap.size w' (us.length+vs.length+1) T (.iface 118 (.agg #[k2,i2]))/\Yb (us.length+vs.length+1) T 0=Z6 us vs/\((Z6 us vs).length<=16001/\∀i,i<(Z6 us vs).length->Xdd (Xb (Z6 us vs) i))/\Below w.heap.size w w':=by
 have k1:=(Zv h1).2
 have k2:=(Zv h2).2
 obtain ⟨M,a2⟩:=Y0 h1 hk1
 obtain ⟨D,P⟩:=Y0 h2 hk2
 obtain ⟨R,S,_,X⟩:=Xm h1
 obtain ⟨Y,Z,_,q4⟩:=Xm h2
 have G:=Xd2 (us:=us) h2 hk2
 have J:=Xdg h1 h2 hk1 hk2
 have b:=Xha hks.2.1 hks'.2.1
 rw[<-Xsa] at b
 refine (Xjs w.heap.size ks it ks' it' (Xd us).keys (Xd vs).keys V V' w (hks.wide hB) (by rw[M];exact hv) (hks'.wide hB') (by rw[D];exact hv') (Nat.le_refl _) (Q7 P) (by omega) (by omega)).mono ?_
 rintro e w' ⟨g,x,y,rfl,d,s,t,l⟩
 rw[<-Xsa] at d s t
 have o:=Xzr h1 h2 hk1 hk2 (F:=us.length+vs.length) (by omega) (by omega) d
 have p:=Xv1 h1 h2 hk1 hk2 hfu hfv d b
 rw[G] at d s t
 obtain ⟨ax,cx,ex⟩:=Xg s
 obtain ⟨ay,cy,ey⟩:=Xg t
 refine ⟨x,y,_,rfl,⟨ax,cx,ex⟩,⟨ay,cy,ey⟩,Xvz (T:=Xdf us vs (us.length+vs.length)) (by omega) G b (fun j hj=> ?_) d s t l,o,p,l⟩
 unfold Yx at hj
 unfold Xdf wkV
 rw[D]
 by_cases hlt:j<(Xe vs).length
 ·rw[if_pos hlt,if_pos hlt]
  obtain ⟨q,z,C⟩:=Zh h2 hlt
  exact TreeAt.keep (fun _ _=>rfl) hB' (ValG.tree hlo' Z q4 Y.2 (by rw[z];simp;omega) (ValG.more (show f'<=us.length+vs.length by omega) (hV' j hlt)))
 ·rw[if_neg hlt,if_neg hlt]
  have L:=Xa9 h1 hk1 (show j-(Xe vs).length<(Y5 us vs (Xd us).keys.length).length by omega)
  obtain ⟨q,z,C⟩:=Zh h1 L
  exact TreeAt.keep (fun _ _=>rfl) hB (ValG.tree hlo S X R.2 (by rw[z];simp;omega) (ValG.more (show f<=us.length+vs.length by omega) (hV _ L)))
theorem X1u (us vs:List VN) (h1:okB us=true) (h2:okB vs=true) (lo B lo' B':Nat) (hlo:lo<=B) (hlo':lo'<=B') (x y:Value) (w:World) (hx:ValG lo B w us us.length (us.length-1) x) (hy:ValG lo' B' w vs vs.length (vs.length-1) y) (hB:B<=w.heap.size) (hB':B'<=w.heap.size) (hE:Errs2 w) (hfu:∀i,i<us.length->Fits (Xb us i)) (hfv:∀i,i<vs.length->Fits (Xb vs i)) (hk6:(Xd us).kind=6) (hk6':(Xd vs).kind=6):
  Calls Tryz.prog 174 #[x,y] w fun e w'=>Q2 (Qg us vs) (Zt us vs) e w'/\Below w.heap.size w w':=by
 obtain ⟨tx,vx,Fx,rfl,kx⟩:=Qc hx
 obtain ⟨ty,vy,Fy,rfl,ky⟩:=Qc hy
 have HM:=Xa (G9 h1 h2 (by omega) (by omega) (by omega))
 rw[Xp7 hk6] at HM
 have P:=Xa kx
 have R:=Xa ky
 have HE:=Xa hE
 have m1:=kx.meth
 have e1:=kx.enter
 have m2:=ky.meth
 have e2:=ky.enter
 have bs:((Xb us (us.length-1)).kind !=(Xb vs (vs.length-1)).kind)=false:=by
  have:(Xb us (us.length-1)).kind=(Xb vs (vs.length-1)).kind:=hk6.trans hk6'.symm
  simpa using this
 have bt:((Xb us (us.length-1)).kind==1)=false:=by simpa using (show ¬(Xb us (us.length-1)).kind=1 from (by have:(Xb us (us.length-1)).kind=6:=hk6;omega))
 have bu:((Xb vs (vs.length-1)).kind==1)=false:=by simpa using (show ¬(Xb vs (vs.length-1)).kind=1 from (by have:(Xb vs (vs.length-1)).kind=6:=hk6';omega))
 have bv:=Un
 have bw:=Xgr
 have bx:=Ww
 have bz:=Xdb
 have b0:=Xyy
 obtain ⟨p1,_,_,_⟩:=Xm h1
 obtain ⟨p2,_,_,_⟩:=Xm h2
 obtain ⟨f,hf⟩:∃f,us.length=f+1:=⟨us.length-1,by omega⟩
 obtain ⟨f',S⟩:∃f',vs.length=f'+1:=⟨vs.length-1,by omega⟩
 obtain ⟨rfl,ks,it,rfl,ba,hi⟩:=Xym hlo hf hk6 hx
 obtain ⟨rfl,bb,bc,rfl,D,bd⟩:=Xym hlo' S hk6' hy
 obtain ⟨V,hv,hV⟩:=V6 hi hB
 obtain ⟨V',be,bf⟩:=V6 bd hB'
 have t:Hid (∀W,Below w.heap.size w W->Calls Tryz.prog 191 #[.agg #[ks,it], .agg #[bb,bc]] W fun e w'=>∃k2 i2 T,e= .returned (.agg #[k2,i2])/\(∃a c,k2= .slice a (Yx us vs) c)/\(∃a c,i2= .slice a (Yx us vs) c)/\TreeAt w'.heap.size w' (us.length+vs.length+1) T (.iface 118 (.agg #[k2,i2]))/\Yb (us.length+vs.length+1) T 0=Z6 us vs/\((Z6 us vs).length<=16001/\∀i,i<(Z6 us vs).length->Xdd (Xb (Z6 us vs) i))/\Below W.heap.size W w'):=
  fun W hb=>Xyn us vs h1 h2 hk6 hk6' hfu hfv lo B lo' B' hlo hlo' hf S ks it bb bc V V' W (ba.below (hb.mono hB)) (D.below (hb.mono hB')) (hv.below hb) (be.below hb) (fun j hj=>ValG.keep (Z9 (hb.mono hB)) (Nat.le_refl _) hlo (hV j hj)) (fun j hj=>ValG.keep (Z9 (hb.mono hB')) (Nat.le_refl _) hlo' (bf j hj)) (Nat.le_trans hB hb.size) (Nat.le_trans hB' hb.size)
 obtain ⟨a,z,rfl,_⟩:=hi
 obtain ⟨a',G,rfl,_⟩:=bd
 obtain ⟨_,_,b,C,rfl,_⟩:=ba
 obtain ⟨_,_,b',L,rfl,_⟩:=D
 obtain ⟨F,hF⟩:∃F,us.length+vs.length+1=F:=⟨_,rfl⟩
 obtain ⟨J,hJ⟩:∃J,Yx us vs=J:=⟨_,rfl⟩
 obtain ⟨M,hM⟩:∃M,(Xe us).length=M:=⟨_,rfl⟩
 obtain ⟨M',X⟩:∃M',(Xe vs).length=M':=⟨_,rfl⟩
 obtain ⟨Q,hQ⟩:∃Q,(Xd us).keys.length=Q:=⟨_,rfl⟩
 obtain ⟨Q',Y⟩:∃Q',(Xd vs).keys.length=Q':=⟨_,rfl⟩
 rw[hF,hM,X,hQ,Y,hJ] at t
 rw[hM,hQ] at P m1 e1|-
 rw[X,Y] at R m2 e2|-
 obtain ⟨NS,bg⟩:∃NS,Z6 us vs=NS:=⟨_,rfl⟩
 rw[bg] at HM t
 clear kx ky hx hy hv be hV bf p1 p2 hf S hM X hQ Y hE hF hJ bg hfu hfv
 go_enter Tryz.func174,Tryz.ntmps174
 go_wp2_with fail
 refine (P.out.says _).mono ?_
 rintro e w1 ⟨rfl,bh⟩
 have bi:=Xa bh
 clear bh
 go_wp2_with fail
 refine (R.out.says _).mono ?_
 rintro e wa ⟨rfl,bj⟩
 have bk:=Xa (bi.out.trans (bj.mono bi.out.size))
 clear bj
 go_wp2_with fail
 refine (P.out.says _).mono ?_
 rintro e wb ⟨rfl,bl⟩
 have bm:=Xa (bk.out.trans (bl.mono bk.out.size))
 clear bl
 go_wp2_with fail
 refine (R.out.says _).mono ?_
 rintro e w2 ⟨rfl,bn⟩
 have bo:=Xa (bm.out.trans (bn.mono bm.out.size))
 clear bn
 go_wp2_with fail
 obtain ⟨W,hW⟩:∃W,w2.alloc (.cells #[.slice b Q C, .slice a M z] 118)=W:=⟨_,rfl⟩
 have c0:W.cell? ⟨w2.heap.size,0,none⟩=some (.slice b Q C):=by rw[<-hW];simp
 have c1:W.cell? ⟨w2.heap.size,1,none⟩=some (.slice a M z):=by rw[<-hW];simp
 have g:Hid (Below w.heap.size w W.drew):=by rw[Hid,<-hW];exact (bo.out.alloc bo.out.size _).drew
 rw[hW]
 clear hW
 cases ok:okB NS
 ·go_region_law
   (first
    |(refine Kf (by rfl) 191 _ _ _ _ (by rfl) (.agg #[.slice b Q C, .slice a M z]) (.agg #[.slice b' Q' L, .slice a' M' G]) (by rfl) (by rfl) (Xsq _ _) (t.out W.drew g.out) ?_;rintro e w4 ⟨k2,i2,T,rfl,⟨a5,c5,rfl⟩,⟨a6,c6,rfl⟩,q,l,d,o⟩;refine ⟨_,rfl, ?_⟩)
    |(refine Zu (by rfl) 142 _ _ (by rfl) (.iface 118 (.agg #[.slice a5 J c5, .slice a6 J c6])) (by rfl) (Qo _) (Jy F T _ NS w4 q l (Nat.le_trans d.1 (by omega)) (fun i hi=>(d.2 i hi).1) (HE.out.below (g.out.trans (o.mono g.out.size))) ok) ?_;rintro e w5 ⟨te,xe,rfl,bp,p⟩;refine ⟨_,rfl, ?_⟩))
  all_goals
   have s:=Xa (g.out.trans (o.mono g.out.size))
   have Z:=Xa (s.out.trans (p.mono s.out.size))
   clear o p q l d
   go_wp2_with fail
   go_ret2
   exact ⟨Or.inr ⟨by rw[HM.out.2,ok];rfl,_,rfl,by rw[HM.out.1,ok];exact ⟨te,xe,rfl,bp⟩⟩,Z.out⟩
 ·go_region_law
   (first
    |(refine Kf (by rfl) 191 _ _ _ _ (by rfl) (.agg #[.slice b Q C, .slice a M z]) (.agg #[.slice b' Q' L, .slice a' M' G]) (by rfl) (by rfl) (Xsq _ _) (t.out W.drew g.out) ?_;rintro e w4 ⟨k2,i2,T,rfl,⟨a5,c5,rfl⟩,⟨a6,c6,rfl⟩,q,l,d,o⟩;refine ⟨_,rfl, ?_⟩)
    |(refine Zu (by rfl) 142 _ _ (by rfl) (.iface 118 (.agg #[.slice a5 J c5, .slice a6 J c6])) (by rfl) (Qo _) (Jf F T _ NS w4 q l (Nat.le_trans d.1 (by omega)) (fun i hi=>(d.2 i hi).1) (HE.out.below (g.out.trans (o.mono g.out.size))) ok) ?_;rintro e w5 ⟨rfl,p⟩;refine ⟨_,rfl, ?_⟩))
  all_goals
   have s:=Xa (g.out.trans (o.mono g.out.size))
   have Z:=Xa (s.out.trans (p.mono s.out.size))
   have bq:=Xa (TreeAt.keep (fun k hk=>p.block k hk) p.size q)
   have br:=Xa l
   clear o p q l d
   go_wp2_with fail
   go_ret2
   exact ⟨Or.inl ⟨by rw[HM.out.1,ok];rfl,F,T,_,_,rfl,bq.out,by rw[HM.out.2,ok];exact br.out⟩,Z.out⟩


def Gg (E k:Nat) (o:Obj):Bool:=decide (k=E)||(decide (E<k)&&(match o with| .cells _ t _=>decide (t=25)|_=>false))
def Gh (E:Nat) (w:World):World:={w with heap:=w.heap.mapIdx fun k o=>if Gg E k o=true then .cells #[] 0 (0,0) else o}
theorem Xe7 (E:Nat) (w:World):(Gh E w).heap.size=w.heap.size:=by simp[Gh]
theorem Xf7 {E:Nat} {w:World} {k:Nat} {o:Obj} (h:w.heap[k]? =some o):(Gh E w).heap[k]? =some (if Gg E k o=true then .cells #[] 0 (0,0) else o):=by
 simp[Gh,Array.getElem?_mapIdx,h]
theorem Xw2 {E:Nat} {w:World} {k:Nat} (h:w.heap[k]? =none):(Gh E w).heap[k]? =none:=by
 simp only[Array.getElem?_eq_none_iff] at h|-
 rw[Xe7];exact h
theorem Xk7 {E:Nat} {w:World} {b o:Nat} {v:Value} (h:(Gh E w).cell? ⟨b,o,none⟩=some v):w.cell? ⟨b,o,none⟩=some v/\∃ob,w.heap[b]? =some ob/\Gg E b ob=false:=by
 cases hb:w.heap[b]? with
 |none=>have:=Xw2 (E:=E) hb;simp[World.cell?,this] at h
 |some ob=>
  have c:=Xf7 (E:=E) hb
  by_cases hi:Gg E b ob=true
  ·rw[if_pos hi] at c
   simp[World.cell?,c] at h
  ·rw[if_neg hi] at c
   refine ⟨?_,ob,rfl,by simpa using hi⟩
   have e:(Gh E w).cell? ⟨b,o,none⟩=w.cell? ⟨b,o,none⟩:=World.cell?_of_block (by rw[c,hb])
   rw[<-e];exact h
theorem X26 {E:Nat} {w:World} {b o:Nat} {v:Value} {ob:Obj} (h:w.cell? ⟨b,o,none⟩=some v) (hb:w.heap[b]? =some ob) (hi:Gg E b ob=false):(Gh E w).cell? ⟨b,o,none⟩=some v:=by
 have c:=Xf7 (E:=E) hb
 rw[hi] at c
 have e:(Gh E w).cell? ⟨b,o,none⟩=w.cell? ⟨b,o,none⟩:=World.cell?_of_block (by rw[c,hb];rfl)
 rw[e];exact h
theorem NodesAt.cells {B B':Nat} {w w':World} {v:Value} {vs:List VN} (h:NodesAt B w v vs) (hc:∀b o u,w.cell? ⟨b,o,none⟩=some u->w'.cell? ⟨b,o,none⟩=some u) (hB:B<=B'):NodesAt B' w' v vs:=by
 obtain ⟨F,a,g,e,G⟩:=h
 refine ⟨F,a,g,e,fun hl=> ?_⟩
 obtain ⟨b,o,J,L,M⟩:=G hl
 refine ⟨b,o,J,by omega,fun i hi=> ?_⟩
 obtain ⟨P,R,c⟩:=M i hi
 refine ⟨P,R,hc _ _ _ c.c0,hc _ _ _ c.c1,hc _ _ _ c.c2,hc _ _ _ c.c3,hc _ _ _ c.c4,⟨?_, ?_,c.inn.size,c.inn.klo,c.inn.khi,c.inn.nlo,c.inn.nhi⟩⟩
 ·obtain ⟨l,p,q,s,t,y⟩:=c.inn.keys
  refine ⟨l,p,q,s,t,fun hp=> ?_⟩
  obtain ⟨z,C,d,D,f⟩:=y hp
  exact ⟨z,C,d,by omega,fun j hj=>hc _ _ _ (f j hj)⟩
 ·obtain ⟨l,p,q,s,t,y⟩:=c.inn.kids
  refine ⟨l,p,q,s,t,fun hp=> ?_⟩
  obtain ⟨z,C,d,D,f⟩:=y hp
  exact ⟨z,C,d,by omega,fun j hj=>hc _ _ _ (f j hj)⟩
structure NR (E:Nat) (w:World) (v:Value) (vs:List VN):Prop where
 inn:NodesAt w.heap.size (Gh E w) v vs
 ok:okB vs=true
theorem NR.nodes {E:Nat} {w:World} {v:Value} {vs:List VN} (h:NR E w v vs):NodesAt w.heap.size w v vs:=h.inn.cells (fun _ _ _ hc=>(Xk7 hc).1) (Nat.le_refl _)
structure KeepN (E:Nat) (w w':World):Prop where
 size:w.heap.size<=w'.heap.size
 block:∀k o,w.heap[k]? =some o->Gg E k o=false->w'.heap[k]? =some o
theorem KeepN.refl (E:Nat) (w:World):KeepN E w w:=⟨Nat.le_refl _,fun _ _ h _=>h⟩
theorem KeepN.trans {E:Nat} {a b c:World} (h:KeepN E a b) (k:KeepN E b c):KeepN E a c:=⟨Nat.le_trans h.size k.size,fun x o hx hi=>k.block x o (h.block x o hx hi) hi⟩
theorem NR.keep {E:Nat} {w w':World} {v:Value} {vs:List VN} (h:NR E w v vs) (hk:KeepN E w w'):NR E w' v vs:=
 ⟨h.inn.cells (fun b o u hc => by
  obtain ⟨g,j,c,d⟩:=Xk7 hc
  have f:=hk.block b j c d
  exact X26 ((World.cell?_of_block (by rw[f,c])).trans g) f d) hk.size,h.ok⟩
theorem X0t {E k:Nat} {o:Obj} (h:Gg E k o=false):k≠E:=by
 intro e
 subst e
 simp[Gg] at h
theorem ButE.keepN {E:Nat} {w w':World} (h:ButE E w w'):KeepN E w w':=⟨h.size,fun k o hk hi=>(h.block k (Array.getElem?_eq_some_iff.1 hk).1 (X0t hi)).trans hk⟩
theorem Below.keepN {E:Nat} {w w':World} (h:Below w.heap.size w w'):KeepN E w w':=(ButE.of_below (E:=E) h).keepN
theorem Xoj {E k:Nat} {o:Obj} (h:k<E):Gg E k o=false:=by
 unfold Gg
 rw[decide_eq_false (by omega),decide_eq_false (by omega)]
 rfl
theorem KeepN.below {E B:Nat} {w w':World} (h:KeepN E w w') (hB:B<=E) (hw:B<=w.heap.size) (h1:w'.os=w.os) (h2:w'.tape=w.tape) (h3:w'.output=w.output):Below B w w':=
 ⟨h1, h2, h3, h.size, fun k hk => by
  cases e:w.heap[k]? with
  |none=>have:=Array.getElem?_eq_none_iff.1 e;omega
  |some o=>exact h.block k o e (Xoj (by omega))⟩
theorem NR.old {E B:Nat} {w:World} {v:Value} {vs:List VN} (h:NodesAt B w v vs) (ok:okB vs=true) (hB:B<=E) (hw:B<=w.heap.size):NR E w v vs:=by
 have b:Below B w (Gh E w):=⟨rfl,rfl,rfl,by rw[Xe7];exact Nat.le_refl _,fun k hk=>by
  cases e:w.heap[k]? with
  |none=>have:=Array.getElem?_eq_none_iff.1 e;omega
  |some o=>rw[Xf7 e,Xoj (by omega)];rfl⟩
 exact ⟨(h.below b).wide hw,ok⟩
theorem Xhf {E base e s n:Nat} {w:World} {v:Value} {xs:List Value} (h:w.ownsRow base e s v n xs) (hE:E<base) (he:e≠25):(Gh E w).ownsRow base e s v n xs:=by
 refine ⟨h.1, ?_⟩
 rcases h.2 with hn|⟨g,cap,cur,rfl,hg,hgg,rest⟩
 ·exact .inl hn
 ·refine .inr ⟨g,cap,cur,rfl,hg, ?_,rest⟩
  rw[Xf7 hgg]
  have:Gg E g (.cells cur e (0,0))=false:=by
   unfold Gg
   rw[decide_eq_false (by omega:¬g=E)]
   simp[he]
  rw[this];rfl
theorem NR.made {E base:Nat} {w:World} {v:Value} {vs:List VN} {KV IV:Nat->Value} (h:Nest base w v vs KV IV) (ok:okB vs=true) (hE:E<base):NR E w v vs:=by
 have b:Nest base (Gh E w) v vs KV IV:=⟨Xhf h.row hE (by decide),fun i hi=>Xhf (h.rk i hi) hE (by decide),fun i hi=>Xhf (h.ri i hi) hE (by decide),h.dkk,h.dii⟩
 have:=b.nodes (by have:=(Xm ok).1;omega) (Uf ok)
 rw[Xe7] at this
 exact ⟨this,ok⟩
theorem NR.slice {E:Nat} {w:World} {v:Value} {vs:List VN} (h:NR E w v vs):∃a c,v= .slice a vs.length c:=by
 obtain ⟨_,a,c,e,_⟩:=h.inn
 exact ⟨a,c,e⟩
structure LR (E base:Nat) (w:World) (sv:Value) (xs:List Value) (l:List (List VN)):Prop where
 row:w.ownsRow base 25 1 sv l.length xs
 lo:E<base
 inn:∀j,j<l.length->NR E w (xs.getD j undef) (Xn l j)
theorem LR.len {E base:Nat} {w:World} {sv:Value} {xs:List Value} {l:List (List VN)} (h:LR E base w sv xs l):xs.length=l.length:=by simpa using h.row.1
theorem LR.slice {E base:Nat} {w:World} {sv:Value} {xs:List Value} {l:List (List VN)} (h:LR E base w sv xs l):∃a c,sv= .slice a l.length c:=by
 rcases h.row.2 with ⟨e,hn⟩|⟨g,cap,cur,e,_⟩
 ·rw[hn];exact ⟨_,_,e⟩
 ·exact ⟨_,_,e⟩
theorem LR.nil {E base:Nat} {w:World} (h:E<base):LR E base w (.slice none 0 0) [] []:=⟨World.ownsRow_nil _ _ _ _,h,fun j hj=>absurd hj (by simp)⟩
theorem LR.low {E base base':Nat} {w:World} {sv:Value} {xs:List Value} {l:List (List VN)} (h:LR E base w sv xs l) (hb:base'<=base) (hE:E<base'):LR E base' w sv xs l:=by
 refine ⟨⟨h.row.1, ?_⟩,hE,h.inn⟩
 rcases h.row.2 with hn|⟨g,cap,cur,e,hg,rest⟩
 ·exact .inl hn
 ·exact .inr ⟨g,cap,cur,e,by omega,rest⟩
theorem LR.oks {E base:Nat} {w:World} {sv:Value} {xs:List Value} {l:List (List VN)} (h:LR E base w sv xs l):∀j,j<l.length->okB (Xn l j)=true:=fun j hj=>(h.inn j hj).ok
theorem LR.ones {E base:Nat} {w:World} {sv:Value} {xs:List Value} {l:List (List VN)} (h:LR E base w sv xs l):∀u∈xs,u.oneCell'=true:=by
 intro u d
 obtain ⟨j,b,rfl⟩:=List.mem_iff_getElem.1 d
 obtain ⟨a,c,e⟩:=(h.inn j (by rw[<-h.len];exact b)).slice
 rw[List.getD_eq_getElem?_getD,List.getElem?_eq_getElem b] at e
 have f:xs[j]= .slice a (Xn l j).length c:=e
 rw[f];rfl
theorem LR.cell {E base:Nat} {w:World} {a:Option Addr} {n c:Nat} {xs:List Value} {l:List (List VN)} (h:LR E base w (.slice a n c) xs l) {j:Nat} (hj:j<l.length):∃b ax cx,a=some ⟨b,0,none⟩/\base<=b/\w.cell? ⟨b,j,none⟩=some (.slice ax (Xn l j).length cx)/\NR E w (.slice ax (Xn l j).length cx) (Xn l j):=by
 obtain ⟨ax,cx,e⟩:=(h.inn j hj).slice
 have d:=h.inn j hj
 rw[e] at d
 have o:=h.len
 rcases h.row.2 with ⟨e1,hn⟩|⟨g,cap,cur,e1,hg,hgg,hc1,hc2,hc3,hc4⟩
 ·omega
 ·cases e1
  refine ⟨g,ax,cx,rfl,hg, ?_,d⟩
  rw[Xw hgg,<-Array.getElem?_toList]
  have f:(cur.toList.take (l.length *1))[j]? =xs[j]? :=by rw[hc4]
  rw[List.getElem?_take,if_pos (by omega)] at f
  rw[f,List.getElem?_eq_getElem (by omega)]
  rw[List.getD_eq_getElem?_getD,List.getElem?_eq_getElem (by omega)] at e
  exact congrArg some e
theorem LR.src {E base:Nat} {w:World} {a:Option Addr} {n c:Nat} {xs:List Value} {l:List (List VN)} (h:LR E base w (.slice a n c) xs l):0<n->∃ad,a=some ad/\∀j u,xs[j]? =some u->w.cell? (ad.add j)=some u:=by
 intro b
 rcases h.row.2 with ⟨e1,hn⟩|⟨g,cap,cur,e1,hg,hgg,hc1,hc2,hc3,hc4⟩
 ·cases e1;omega
 ·cases e1
  refine ⟨_,rfl,fun j u hj=> ?_⟩
  rw[Addr.add_lit,Nat.zero_add,Xw hgg,<-Array.getElem?_toList]
  rw[<-hc4,List.getElem?_take] at hj
  split at hj
  ·exact hj
  ·cases hj
structure FrX (E:Nat) (G:Option Nat) (w w':World):Prop where
 os:w'.os=w.os
 tape:w'.tape=w.tape
 output:w'.output=w.output
 keep:KeepN E w w'
 block:∀k,k<w.heap.size->k≠E->some k≠G->w'.heap[k]? =w.heap[k]?
theorem FrX.refl (E:Nat) (G:Option Nat) (w:World):FrX E G w w:=⟨rfl,rfl,rfl, .refl _ _,fun _ _ _ _=>rfl⟩
theorem ButE.frx {E:Nat} {w w':World} (h:ButE E w w') (G:Option Nat):FrX E G w w':=⟨h.os,h.tape,h.output,h.keepN,fun k hk hn _=>h.block k hk hn⟩
theorem FrX.trans {E:Nat} {G H:Option Nat} {a b c:World} (h:FrX E G a b) (k:FrX E H b c) (hH:H=G\/∀x,H=some x->a.heap.size<=x):FrX E G a c:=
 ⟨k.os.trans h.os, k.tape.trans h.tape, k.output.trans h.output, h.keep.trans k.keep, fun x hx h1 h2 => (k.block x (Nat.lt_of_lt_of_le hx h.keep.size) h1 (fun e => by
  rcases hH with rfl|hH
  ·exact h2 e
  ·have:=hH x e.symm;omega)).trans (h.block x hx h1 h2)⟩
theorem FrX.toBut {E:Nat} {G:Option Nat} {a b c:World} (h:ButE E a b) (k:FrX E G b c) (hG:∀x,G=some x->a.heap.size<=x):ButE E a c:=
 ⟨k.os.trans h.os,k.tape.trans h.tape,k.output.trans h.output,Nat.le_trans h.size k.keep.size,fun x hx hn=>(k.block x (Nat.lt_of_lt_of_le hx h.size) hn (fun e=>by have:=hG x e.symm;omega)).trans (h.block x hx hn)⟩
theorem Xe8 {E base n:Nat} {w w':World} {v:Value} {xs:List Value} (hown:w.ownsRow base 25 1 v n xs) (hE:E<base) (hg:w.grownBy w' v.ownBlock):FrX E v.ownBlock w w':=by
 refine ⟨hg.os,hg.tape,hg.output,⟨hg.size,fun k o hk hi=> ?_⟩,fun k hk _ hn=>hg.block k hk hn⟩
 refine (hg.block k (Array.getElem?_eq_some_iff.1 hk).1 (fun e=> ?_)).trans hk
 rcases hown.2 with ⟨rfl,_⟩|⟨g,cap,cur,rfl,hgb,hgg,_⟩
 ·simp[Value.ownBlock] at e
 ·simp[Value.ownBlock] at e
  subst e
  rw[hgg] at hk
  cases hk
  simp[Gg] at hi
  omega
theorem LR.keepX {E base:Nat} {G:Option Nat} {w w':World} {sv:Value} {xs:List Value} {l:List (List VN)} (h:LR E base w sv xs l) (hf:FrX E G w w') (hG:sv.ownBlock=none\/sv.ownBlock≠G):LR E base w' sv xs l:=by
 refine ⟨⟨h.row.1, ?_⟩,h.lo,fun j hj=>(h.inn j hj).keep hf.keep⟩
 rcases h.row.2 with hn|⟨g,cap,cur,e,hg,hgg,rest⟩
 ·exact .inl hn
 ·subst e
  have:=h.lo
  exact .inr ⟨g,cap,cur,rfl,hg,(hf.block g (Zn hgg) (by omega) (fun e=>by
   rcases hG with hG|hG
   ·simp[Value.ownBlock] at hG
   ·exact hG (by simpa [Value.ownBlock] using e))).trans hgg,rest⟩
theorem LR.keep {E base:Nat} {w w':World} {sv:Value} {xs:List Value} {l:List (List VN)} (h:LR E base w sv xs l) (hb:ButE E w w'):LR E base w' sv xs l:=by
 refine h.keepX (hb.frx none) ?_
 cases e:sv.ownBlock with
 |none=>exact .inl rfl
 |some x=>exact .inr (by simp)
theorem LR.keepB {E base:Nat} {w w':World} {sv:Value} {xs:List Value} {l:List (List VN)} (h:LR E base w sv xs l) (hb:Below w.heap.size w w'):LR E base w' sv xs l:=h.keep (.of_below hb)
theorem Xim {l m:List (List VN)} {j:Nat} (h:j<l.length):Xn (l++m) j=Xn l j:=by
 unfold Xn;rw[List.getD_eq_getElem?_getD,List.getD_eq_getElem?_getD,List.getElem?_append_left h]
theorem Xin {l m:List (List VN)} {j:Nat} (h:l.length<=j):Xn (l++m) j=Xn m (j-l.length):=by
 unfold Xn;rw[List.getD_eq_getElem?_getD,List.getD_eq_getElem?_getD,List.getElem?_append_right h]
theorem LR.append {E base:Nat} {w w':World} {sv v':Value} {xs ys:List Value} {l m:List (List VN)} (h:LR E base w sv xs l) (hl:ys.length=m.length) (hm:∀j,j<m.length->NR E w (ys.getD j undef) (Xn m j)) (hown:w'.ownsRow base 25 1 v' (l.length+m.length) (xs++ys)) (hg:w.grownBy w' sv.ownBlock):LR E base w' v' (xs++ys) (l++m)/\FrX E sv.ownBlock w w':=by
 have b:=Xe8 h.row h.lo hg
 have c:=h.len
 refine ⟨⟨by rw[List.length_append];exact hown,h.lo,fun j hj=> ?_⟩,b⟩
 by_cases e:j<l.length
 ·rw[Xim e,List.getD_eq_getElem?_getD,List.getElem?_append_left (by omega),<-List.getD_eq_getElem?_getD]
  exact (h.inn j e).keep b.keep
 ·rw[List.length_append] at hj
  rw[Xin (by omega),List.getD_eq_getElem?_getD,List.getElem?_append_right (by omega),<-List.getD_eq_getElem?_getD,c]
  exact (hm (j-l.length) (by omega)).keep b.keep
theorem LR.rows {E base:Nat} {w:World} {sv:Value} {xs:List Value} {l:List (List VN)} (h:LR E base w sv xs l) (hl:l.length<=1048576):Uv w.heap.size w sv l.length (Xn l):=by
 have e:xs=(List.range l.length).map fun j=>xs.getD j undef:=by
  apply List.ext_getElem?
  intro j
  by_cases hj:j<l.length
  ·rw[List.getElem?_map,List.getElem?_range hj,List.getElem?_eq_getElem (by rw[h.len];exact hj)]
   show _=some (xs.getD j undef)
   rw[List.getD_eq_getElem?_getD,List.getElem?_eq_getElem (by rw[h.len];exact hj)]
   rfl
  ·rw[List.getElem?_eq_none (by rw[h.len];omega),List.getElem?_eq_none (by simp;omega)]
 have b:=h.row
 rw[e] at b
 exact Xmw b hl (Nat.le_refl _) (fun j hj=>(h.inn j hj).nodes)
structure SE (B E:Nat) (fv:Value) (fs:List FN) (fu:Nat) (c:Int) (w:World):Prop where
 blk:w.heap[E]? =some (.cells #[fv, .int .i64 (fu:Int), .int .i64 c] 68 (0,0))
 nodes:FNodesAt B w fv fs
 hBE:B<=E
theorem SE.lt {B E:Nat} {fv:Value} {fs:List FN} {fu:Nat} {c:Int} {w:World} (h:SE B E fv fs fu c w):E<w.heap.size:=Zn h.blk
theorem SE.below {B E:Nat} {fv:Value} {fs:List FN} {fu:Nat} {c:Int} {w w':World} (h:SE B E fv fs fu c w) (hb:Below w.heap.size w w'):SE B E fv fs fu c w':=
 ⟨(hb.block E h.lt).trans h.blk,h.nodes.below (hb.mono (Nat.le_of_lt (Nat.lt_of_le_of_lt h.hBE h.lt))),h.hBE⟩
theorem SE.frx {B E:Nat} {fv:Value} {fs:List FN} {fu fu':Nat} {c c':Int} {G:Option Nat} {w w':World} (h:SE B E fv fs fu c w) (hf:FrX E G w w') (hb:w'.heap[E]? =some (.cells #[fv, .int .i64 (fu':Int), .int .i64 c'] 68 (0,0))):SE B E fv fs fu' c' w':=
 ⟨hb,h.nodes.below (hf.keep.below h.hBE (Nat.le_of_lt (Nat.lt_of_le_of_lt h.hBE h.lt)) hf.os hf.tape hf.output),h.hBE⟩
theorem SE.grown {B E base n:Nat} {fv:Value} {fs:List FN} {fu:Nat} {c:Int} {w w':World} {v:Value} {xs:List Value} (h:SE B E fv fs fu c w) (hown:w.ownsRow base 25 1 v n xs) (hE:E<base) (hg:w.grownBy w' v.ownBlock):SE B E fv fs fu c w':=
 h.frx (Xe8 hown hE hg) ((hg.block E h.lt (fun e=>by have:=(hown.lt E e.symm).1;omega)).trans h.blk)
theorem SE.set {B E:Nat} {fv:Value} {fs:List FN} {fu:Nat} {c:Int} {w:World} (h:SE B E fv fs fu c w) (c':Int):SE B E fv fs fu c' (w.setCell ⟨E,2,none⟩ (.int .i64 c'))/\ButE E w (w.setCell ⟨E,2,none⟩ (.int .i64 c')):=by
 have b:ButE E w (w.setCell ⟨E,2,none⟩ (.int .i64 c')):=⟨rfl,rfl,rfl,by simp,fun k _ hk=>Below.heap_setCell _ _ _ _ hk⟩
 refine ⟨h.frx (b.frx none) ?_,b⟩
 have:=Xb9 (i:=2) h.blk (.int .i64 c')
 simpa using this
theorem SE.setFu {B E:Nat} {fv:Value} {fs:List FN} {fu:Nat} {c:Int} {w:World} (h:SE B E fv fs fu c w) (k:Nat):SE B E fv fs k c (w.setCell ⟨E,1,none⟩ (.int .i64 (k:Int)))/\ButE E w (w.setCell ⟨E,1,none⟩ (.int .i64 (k:Int))):=by
 have b:ButE E w (w.setCell ⟨E,1,none⟩ (.int .i64 (k:Int))):=⟨rfl,rfl,rfl,by simp,fun x _ hx=>Below.heap_setCell _ _ _ _ hx⟩
 refine ⟨h.frx (b.frx none) ?_,b⟩
 have:=Xb9 (i:=1) h.blk (.int .i64 (k:Int))
 simpa using this
theorem SE.cells {B E:Nat} {fv:Value} {fs:List FN} {fu:Nat} {c:Int} {w:World} (h:SE B E fv fs fu c w):w.cell? ⟨E,0,none⟩=some fv/\w.cell? ⟨E,1,none⟩=some (.int .i64 (fu:Int))/\w.cell? ⟨E,2,none⟩=some (.int .i64 c)/\w.frozen? ⟨E,1,none⟩=false/\w.frozen? ⟨E,2,none⟩=false:=
 ⟨Xw h.blk 0,Xw h.blk 1,Xw h.blk 2,by simp[World.frozen?,h.blk],by simp[World.frozen?,h.blk]⟩
def RunAns (B E M:Nat) (fv:Value) (fs:List FN) (c:Int) (l:List (List VN)) (fu:Nat) (w:World) (e:Ending) (w':World):Prop:=
 ∃sv xs m,e= .returned sv/\SE B E fv fs fu c w'/\ButE E w w'/\LR E w.heap.size w' sv xs m/\(c=0->m=l)/\m.length<=M
def Qe (B E:Nat) (fv:Value) (fs:List FN) (d:Nat):Prop:=∀(n:Nat) (v:Value) (ns:List VN) (fu:Nat) (w:World),n<fs.length->SE B E fv fs fu 0 w->NR E w v ns->fu<=d->
 Calls Tryz.prog 35 #[.pointer (some ⟨E,0,none⟩), .int .i64 n,v] w (RunAns B E (100 *(d+1)) fv fs (Xh fs d n ns fu).c (Xh fs d n ns fu).l (Xh fs d n ns fu).fu w)
end Go.Proofs.YtdjddneidbddpaaGreatDoor
