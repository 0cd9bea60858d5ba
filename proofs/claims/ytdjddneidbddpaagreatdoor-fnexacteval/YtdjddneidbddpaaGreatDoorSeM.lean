import Derived.Test.YtdjddneidbddpaaGreatDoorEvZ
import Derived.Test.YtdjddneidbddpaaGreatDoorSPlsL
import Derived.Test.YtdjddneidbddpaaGreatDoorSMin
import Derived.Test.YtdjddneidbddpaaGreatDoorSSort
import Derived.Test.YtdjddneidbddpaaGreatDoorIPlsT
import Derived.Test.YtdjddneidbddpaaGreatDoorByP
import Derived.Deep.RegionWith
import Derived.Test.YtdjddneidbddpaaGreatDoorPsZ
import Derived.Test.YtdjddneidbddpaaGreatDoorSeF
namespace Go.Proofs.YtdjddneidbddpaaGreatDoor
set_option linter.unusedSectionVars false
set_option maxHeartbeats 6400000
open Go.RowKit
set_option linter.unusedSimpArgs false
set_option linter.unusedVariables false
theorem Xja {f:Nat} {t:VT} {x:Value} {ns:List VN} {w:World} (ht:TreeAt w.heap.size w f t x) (hl:Yi f t 0=ns) (hn:ns.length≤100000) (hf:∀i,i<ns.length→Fits (Xb ns i)) (hE:Errs2 w):Calls Tryz.prog 142 #[x] w (Qa (Yu ns) w):=by
 cases ok:okB ns
 ·have e:Yu ns=(3,[]):=by unfold Yu;rw[ok];rfl
  rw[e]
  refine (J7 f t x ns w ht hl hn hf hE ok).mono ?_
  rintro e w1 ⟨te,xe,rfl,hr,hb⟩
  exact ⟨.inr ⟨(show (3:Int)≠0 by decide),_,rfl,te,xe,rfl,hr⟩,hb⟩
 ·have e:Yu ns=(0,ns):=by unfold Yu;rw[ok];rfl
  rw[e]
  refine (Jo f t x ns w ht hl hn hf hE ok).mono ?_
  rintro e w1 ⟨rfl,hb⟩
  exact ⟨.inl ⟨rfl,x,rfl,(Rep.of ht hl ok).below hb⟩,hb⟩
theorem Xpn {w:World} {it:Value} {l:List (List VN)} (h:ItemsRep w it l):∀j,j<l.length→okB (Xl l j)=true:=by
 intro j hj
 obtain ⟨b,c,t,x,_,_,hr⟩:=Xck h hj
 exact hr.1
theorem Xjb {w:World} {it:Value} {l:List (List VN)} (h:ItemsRep w it l):Ji w.heap.size w it (Vv (Xl l) l.length).length (fun j u=>TreeAt w.heap.size w 80 (Yl (Vv (Xl l) l.length) j) u):=by
 obtain ⟨h0,a,c,rfl,hx⟩:=h
 rw[Xf1]
 refine ⟨h0,a,c,rfl,fun hp=> ?_⟩
 obtain ⟨b,rfl,hc⟩:=hx hp
 refine ⟨b,rfl, ?_,fun j hj=> ?_⟩
 ·obtain ⟨t,x,h1,_⟩:=hc 0 hp
  exact X8 h1
 ·obtain ⟨t,x,h1,h2⟩:=hc j hj
  refine ⟨t,x,h1, ?_⟩
  show TreeAt w.heap.size w 80 (Yl (Vv (Xl l) l.length) j) (.iface t x)
  rw[Xpq (Xl l) hj]
  exact h2.2
theorem Xlt {w:World} {it:Value} {l:List (List VN)} (h:ItemsRep w it l):TreeAt w.heap.size w 81 (.mk 5 0 ByteArray.empty [] (Vv (Xl l) l.length)) (.iface 158 (.agg #[it])):=
 .inr (.inr (.inr (.inr (.inl ⟨rfl,rfl,rfl,rfl,it,rfl,Xjb h⟩))))
theorem X1s {w:World} {it ks:Value} {l:List (List VN)} {names:List ByteArray} (h:ItemsRep w it l) (hs:StrsAt w.heap.size w ks names):TreeAt w.heap.size w 81 (.mk 6 0 ByteArray.empty names (Vv (Xl l) l.length)) (.iface 118 (.agg #[ks,it])):=
 .inr (.inr (.inr (.inr (.inr ⟨rfl,rfl,rfl,ks,it,rfl,hs,Xjb h⟩))))
theorem Xh0 {w:World} {it:Value} {l:List (List VN)} (h:ItemsRep w it l) (hl:l.length≤200) (hE:Errs2 w):Calls Tryz.prog 142 #[.iface 158 (.agg #[it])] w (Qa (Yu (Zp l)) w):=by
 have hok:=Xpn h
 have hm:=Gh (L:=Xl l) (m:=l.length) hl hok (fun i hi=>Ul (hok i hi)) (kind:=5) (by omega) (by omega) (keys:= []) (by simp) (fun i hi=>absurd hi (by simp))
 exact Xja (Xlt h) (Xh3 5 [] (Xl l) l.length hok) (Nat.le_trans hm.1 (by omega)) (fun i hi=>(hm.2 i hi).1) hE
theorem X3t {w:World} {it ks:Value} {l:List (List VN)} {names:List ByteArray} (h:ItemsRep w it l) (hs:StrsAt w.heap.size w ks names) (hl:l.length≤200) (hn:names.length≤200) (hE:Errs2 w):Calls Tryz.prog 142 #[.iface 118 (.agg #[ks,it])] w (Qa (Yu (Xdb names l)) w):=by
 have hok:=Xpn h
 have hm:=Gh (L:=Xl l) (m:=l.length) hl hok (fun i hi=>Ul (hok i hi)) (kind:=6) (by omega) (by omega) (keys:=names) hn hs.2.1
 exact Xja (X1s h hs) (Xh3 6 names (Xl l) l.length hok) (Nat.le_trans hm.1 (by omega)) (fun i hi=>(hm.2 i hi).1) hE
theorem Xlu {Z:Nat} {w:World} {sv:Value} {xs:List Value} {l:List (List VN)} (h:OutRow Z w sv xs) (hl:xs.length=l.length) (h0:l.length≤100000) (hr:∀j,j<l.length→Rep w (Xl l j) (xs.getD j undef)):ItemsRep w sv l:=by
 refine ⟨h0, ?_⟩
 rcases h with ⟨rfl,rfl⟩|⟨g,cap,rfl,hg,hh,hnc,_⟩
 ·have e:l.length=0:=by simpa using hl.symm
  exact ⟨none,0,by rw[e],fun hp=>absurd hp (by omega)⟩
 ·refine ⟨some ⟨g,0,none⟩,cap,by rw[hl],fun hp=>⟨g,rfl,fun j hj=> ?_⟩⟩
  have hr:=hr j hj
  obtain ⟨t,y,e⟩:=hr.iface
  refine ⟨t,y, ?_,by rw[←e];exact hr⟩
  rw[Xg hh,List.getElem?_toArray,List.getElem?_append_left (by omega)]
  rw[List.getD_eq_getElem?_getD,List.getElem?_eq_getElem (show j<xs.length by omega)] at e
  rw[List.getElem?_eq_getElem (show j<xs.length by omega)]
  exact congrArg some e
theorem OutRow.below {Z:Nat} {w w':World} {sv:Value} {xs:List Value} (h:OutRow Z w sv xs) (hb:Below w.heap.size w w'):OutRow Z w' sv xs:=by
 rcases h with h|⟨g,cap,e,h1,h2,h3⟩
 ·exact .inl h
 ·exact .inr ⟨g,cap,e,h1,(hb.block g (Zo h2)).trans h2,h3⟩
theorem AppFr.below {Z:Nat} {w w':World} (h:AppFr Z w w'):Below Z w w':=⟨h.os,h.tape,h.output,h.size,h.block⟩
def Xh1 (i:Nat):Value:= .iface 114 (.agg #[.int .i64 (i:Int)])
def Xeg (s:ByteArray):Value:= .iface 116 (.agg #[.string s])
theorem X3u (w:World) {i:Nat} (h:i≤1000000):Rep w (Xu 3 (i:Int) ByteArray.empty) (Xh1 i):=
 Rep.of (f:=1) (t:= .mk 3 (i:Int) ByteArray.empty [] []) (.inr (.inr (.inl ⟨rfl,rfl,rfl,rfl,rfl⟩))) (Xci _ _ _) (Xiw (by omega) (by omega))
theorem Xs8 {s:ByteArray} (h:Z7 s=true):okB (Xu 4 0 s)=true:=Xdh (by unfold X9 Yv Zk;simp[h])
theorem X1t (w:World) {s:ByteArray} (h:Z7 s=true):Rep w (Xu 4 0 s) (Xeg s):=
 Rep.of (f:=1) (t:= .mk 4 0 s [] []) (.inr (.inr (.inr (.inl ⟨rfl,rfl,rfl,rfl,rfl⟩)))) (Xci _ _ _) (Xs8 h)
theorem Xh2 {ns:List VN} (ok:okB ns=true) (k:(Xd ns).kind=5∨(Xd ns).kind=6):(V0 ns).length=(Xe ns).length:=by
 unfold V0
 rcases k with k|k
 ·rw[if_neg (by omega)];simp
 ·rw[if_pos k,List.length_map];exact (Y7 ok k).1
theorem Xpo {ns:List VN} (k:(Xd ns).kind=5) {j:Nat} (h:j<(Xe ns).length):Xl (V0 ns) j=Xu 3 (j:Int) ByteArray.empty:=by
 unfold Xl V0
 rw[if_neg (by omega),List.getD_eq_getElem?_getD,List.getElem?_map,List.getElem?_range h]
 rfl
theorem Xlv {ns:List VN} (k:(Xd ns).kind=6) {j:Nat} (h:j<(Xd ns).keys.length):Xl (V0 ns) j=Xu 4 0 (Xh (Xd ns).keys j):=by
 unfold Xl V0 Xh
 rw[if_pos k,List.getD_eq_getElem?_getD,List.getElem?_map,List.getElem?_eq_getElem h,List.getD_eq_getElem?_getD,List.getElem?_eq_getElem h]
 rfl
set_option maxRecDepth 100000 in
theorem Xvg (ns:List VN) (x:Value) (w:World) (h:Rep w ns x) (hE:Errs2 w):Calls Tryz.prog 157 #[x] w (Qa (Vf ns) w):=by
 have z_null_list:=Xf9
 have z_bool_list:=Xga
 have z_int_list:=Xhd
 have z_text_list:=Xgb
 have z_list_list:=Xgc
 have z_map_list:=Xhe
 have z_null_map:=Xhf
 have z_bool_map:=Xhg
 have z_int_map:=Xjt
 have z_text_map:=Xhh
 have z_list_map:=Xhi
 have z_map_map:=Xju
 obtain ⟨R,hR⟩:∃R,Vf ns=R:=⟨_,rfl⟩
 have HE:=Xa hE
 clear hE
 have no:∀w1,Below w.heap.size w w1→∀e,R=(2,[])→∀v,Kf w1 2 v→e= .returned (.tuple #[.nilIface,v])→Qa R w e w1:=fun w1 hb e hr v hv he=>by
  subst hr
  exact ⟨.inr ⟨(show (2:Int)≠0 by decide),v,he,hv⟩,hb⟩
 have NO:=Xa no
 rw[hR]
 clear no
 have h80:(Xe ns).length≤80:=by
  have p:=Xp h.1
  have:=p.2.2.2 (ns.length-1) (by omega);unfold Xe;omega
 have HOK:=Xa h.1
 rcases h.cases with ⟨k,rfl⟩|⟨k,rfl⟩|⟨k,rfl⟩|⟨k,rfl⟩|⟨k,it,rfl,hi⟩|⟨k,ks,it,rfl,hs,hi⟩
 case inr.inr.inr.inr.inl=>
  have HQ:Hid (R=Yu (Zp (V0 ns))):=by rw[Hid,←hR];unfold Vf;rw[if_pos (.inl k)]
  obtain ⟨_,ai,ci,rfl,_⟩:=hi
  have HKL:=Xa (Xh2 h.1 (.inl k))
  have HKN:Hid (∀j,j<(Xe ns).length→Xl (V0 ns) j=Xu 3 (j:Int) ByteArray.empty):=fun j hj=>Xpo k hj
  obtain ⟨M,hM⟩:∃M,(Ys ns).length=M:=⟨_,rfl⟩
  have hMn:(Xe ns).length=M:=by rw[←hM,Qv]
  rw[hM]
  rw[hMn] at HKL HKN h80
  clear h k hR hM hMn
  go_enter Tryz.func157,Tryz.ntmps157
  go_wp2_with fail
  go_loopw [4,6,19] (fun v _ i wr=>∃(j:Nat) (xs:List Value),j≤M∧i= .int .i64 j∧OutRow w.heap.size wr v xs∧xs=(List.range j).map Xh1∧Below w.heap.size w wr) (fun _ _ i _=>M-(intOf i).toNat)
  case atStart=>exact ⟨0,[],Nat.zero_le _,rfl, .inl ⟨rfl,rfl⟩,rfl,(Below.refl _ _).alloc (Nat.le_refl _) _⟩
  case round=>
   obtain ⟨j,xs,hj,rfl,hrow,hxs,hbel⟩:=hrel
   have HR:=Xa hrow
   have HXS:=Xa hxs
   have HB:=Xa hbel
   obtain ⟨av,cv,ev⟩:=hrow.slice
   have hxl:xs.length=j:=by rw[hxs];simp
   rw[hxl] at ev
   subst ev
   have hz:=hbel.size
   have HXL:=Xa hxl
   clear hrow hxs hbel hxl
   by_cases hlt:j<M
   ·have hlt':(j:Int)<(M:Int):=by omega
    obtain ⟨W1,hW1⟩:∃W1,wr.alloc (.cells #[.iface 114 (.agg #[.int .i64 (j:Int)])] 52)=W1:=⟨_,rfl⟩
    have HB1:Hid (Below wr.heap.size wr W1):=by rw[Hid,←hW1];exact (Below.refl _ _).alloc (Nat.le_refl _) _
    have k3:Hid (W1.cell? ((⟨wr.heap.size,0,none⟩:Addr).add 0)=some (.iface 114 (.agg #[.int .i64 (j:Int)]))):=by rw[Hid,←hW1];simp[Addr.add]
    have HOR:=Xa (HR.out.below HB1.out)
    have HZ:Hid (w.heap.size≤W1.heap.size):=Nat.le_trans hz HB1.out.size
    have HNX:Hid (xs++ [Xh1 j]=(List.range (j+1)).map Xh1):=by rw[Hid,List.range_succ,List.map_append,←HXS.out];rfl
    go_wp2_with (at_builtin;refine Xee (Z:=w.heap.size) (xs:=xs) rfl _ _ rfl rfl HOR.out ⟨wr.heap.size,0,none⟩ 1 (.iface 114 (.agg #[.int .i64 (j:Int)])) rfl k3.out (Xfn _ _) (by have:=HXL.out;omega) HZ.out ?_)
    intro sv' w2 hr2 hf2
    have HR2:=Xa hr2
    have HB2:Hid (Below w.heap.size w w2):=(HB.out.trans (HB1.out.mono hz)).trans hf2.below
    clear hr2 hf2
    go_wp2_with fail
    go_roundw
    case rel=>exact ⟨j+1,xs++ [Xh1 j],by omega,by go_num,HR2.out,HNX.out,HB2.out⟩
    case measure=>simp[intOf];omega
   ·obtain rfl:j=M:=by omega
    have HIT:Hid (ItemsRep wr (.slice av j cv) (V0 ns)):=by
     refine Xlu HR.out (by rw[HXL.out,HKL.out]) (by rw[HKL.out];omega) (fun i hi=> ?_)
     rw[HKL.out] at hi
     rw[HKN.out i hi,HXS.out]
     have e:((List.range j).map Xh1).getD i undef=Xh1 i:=by rw[List.getD_eq_getElem?_getD,List.getElem?_map,List.getElem?_range hi];rfl
     rw[e]
     exact X3u _ (by omega)
    have HE2:=Xa (HE.out.below HB.out)
    go_wp2_with fail
    refine (Xh0 HIT.out (by rw[HKL.out];omega) HE2.out).mono ?_
    rw[←HQ.out]
    rintro e w2 ⟨ha,hb2⟩
    have HB2:Hid (Below w.heap.size w w2):=HB.out.trans (hb2.mono hz)
    rcases ha with ⟨h1,y,rfl,hr⟩|⟨h1,y,rfl,te,xe,rfl,hr⟩
    ·have H1:=Xa h1
     have HRR:=Xa hr
     obtain ⟨t,yy,rfl⟩:=hr.iface
     clear h1 hr hb2
     go_wp2_with fail
     go_ret2
     exact ⟨.inl ⟨H1.out,_,rfl,HRR.out⟩,HB2.out⟩
    ·obtain ⟨C,hC⟩:∃C,R.1=C:=⟨_,rfl⟩
     have HC:=Xa hC
     rw[hC] at h1 hr⊢
     have H1:=Xa h1
     have HRR:=Xa hr
     clear h1 hr hb2 hC
     go_wp2_with fail
     go_ret2
     exact ⟨.inr ⟨by rw[HC.out];exact H1.out,_,rfl,by rw[HC.out];exact ⟨te,xe,rfl,HRR.out⟩⟩,HB2.out⟩
 case inr.inr.inr.inr.inr=>
  have HQ:Hid (R=Yu (Zp (V0 ns))):=by rw[Hid,←hR];unfold Vf;rw[if_pos (.inr k)]
  obtain ⟨_,ai,ci,rfl,_⟩:=hi
  have hmk:=Y7 h.1 k
  have HKL:=Xa (Xh2 h.1 (.inr k))
  have HKN:Hid (∀j,j<(Xe ns).length→Xl (V0 ns) j=Xu 4 0 (Xh (Xd ns).keys j)):=fun j hj=>Xlv k (by rw[hmk.1];exact hj)
  have HTX:Hid (∀j,j<(Xe ns).length→Z7 (Xh (Xd ns).keys j)=true):=fun j hj=>by
   have h1:=hmk.2
   unfold Q0 at h1
   rw[List.all_eq_true] at h1
   have h2:=h1 j (List.mem_range.2 (by rw[hmk.1];exact hj))
   unfold Ql at h2
   rw[Bool.and_eq_true] at h2
   exact h2.1
  have HSS:=Xa hs
  obtain ⟨KL,hKL⟩:∃KL,(Xd ns).keys=KL:=⟨_,rfl⟩
  have hkl:KL.length=(Xe ns).length:=by rw[←hKL];exact hmk.1
  obtain ⟨_,_,a',c',rfl,hsc⟩:=hs
  rw[hKL] at HKN HTX hsc HSS⊢
  rw[hkl] at hsc⊢
  have HSC:=Xa hsc
  obtain ⟨M,hM⟩:∃M,(Ys ns).length=M:=⟨_,rfl⟩
  have hMn:(Xe ns).length=M:=by rw[←hM,Qv]
  rw[hM]
  rw[hMn] at HKL HKN HTX HSC h80 hkl⊢
  have HKLL:=Xa hkl
  clear h k hR hM hMn hmk hkl hKL hsc
  go_enter Tryz.func157,Tryz.ntmps157
  go_wp2_with fail
  go_loopw [4,9,35] (fun v _ i wr=>∃(j:Nat) (xs:List Value),j≤M∧i= .int .i64 j∧OutRow w.heap.size wr v xs∧xs=(List.range j).map (fun i=>Xeg (Xh KL i))∧Below w.heap.size w wr) (fun _ _ i _=>M-(intOf i).toNat)
  case atStart=>exact ⟨0,[],Nat.zero_le _,rfl, .inl ⟨rfl,rfl⟩,rfl,(Below.refl _ _).alloc (Nat.le_refl _) _⟩
  case round=>
   obtain ⟨j,xs,hj,rfl,hrow,hxs,hbel⟩:=hrel
   have HR:=Xa hrow
   have HXS:=Xa hxs
   have HB:=Xa hbel
   obtain ⟨av,cv,ev⟩:=hrow.slice
   have hxl:xs.length=j:=by rw[hxs];simp
   rw[hxl] at ev
   subst ev
   have hz:=hbel.size
   have HXL:=Xa hxl
   clear hrow hxs hbel hxl
   by_cases hlt:j<M
   ·have hlt':(j:Int)<(M:Int):=by omega
    obtain ⟨sb,so,rfl,hsb,hsc⟩:=HSC.out (by omega)
    have hck:=(Xc HB.out hsb).trans (hsc j hlt)
    clear hsc
    obtain ⟨W1,hW1⟩:∃W1,wr.alloc (.cells #[.iface 116 (.agg #[.string (Xh KL j)])] 52)=W1:=⟨_,rfl⟩
    have HB1:Hid (Below wr.heap.size wr W1):=by rw[Hid,←hW1];exact (Below.refl _ _).alloc (Nat.le_refl _) _
    have k3:Hid (W1.cell? ((⟨wr.heap.size,0,none⟩:Addr).add 0)=some (.iface 116 (.agg #[.string (Xh KL j)]))):=by rw[Hid,←hW1];simp[Addr.add]
    have HOR:=Xa (HR.out.below HB1.out)
    have HZ:Hid (w.heap.size≤W1.heap.size):=Nat.le_trans hz HB1.out.size
    have HNX:Hid (xs++ [Xeg (Xh KL j)]=(List.range (j+1)).map (fun i=>Xeg (Xh KL i))):=by rw[Hid,List.range_succ,List.map_append,←HXS.out];rfl
    go_wp2_with (at_builtin;refine Xee (Z:=w.heap.size) (xs:=xs) rfl _ _ rfl rfl HOR.out ⟨wr.heap.size,0,none⟩ 1 (.iface 116 (.agg #[.string (Xh KL j)])) rfl k3.out (Xfn _ _) (by have:=HXL.out;omega) HZ.out ?_)
    intro sv' w2 hr2 hf2
    have HR2:=Xa hr2
    have HB2:Hid (Below w.heap.size w w2):=(HB.out.trans (HB1.out.mono hz)).trans hf2.below
    clear hr2 hf2
    go_wp2_with fail
    go_roundw
    case rel=>exact ⟨j+1,xs++ [Xeg (Xh KL j)],by omega,by go_num,HR2.out,HNX.out,HB2.out⟩
    case measure=>simp[intOf];omega
   ·obtain rfl:j=M:=by omega
    have HIT:Hid (ItemsRep wr (.slice av j cv) (V0 ns)):=by
     refine Xlu HR.out (by rw[HXL.out,HKL.out]) (by rw[HKL.out];omega) (fun i hi=> ?_)
     rw[HKL.out] at hi
     rw[HKN.out i hi,HXS.out]
     have e:((List.range j).map (fun i=>Xeg (Xh KL i))).getD i undef=Xeg (Xh KL i):=by rw[List.getD_eq_getElem?_getD,List.getElem?_map,List.getElem?_range hi];rfl
     rw[e]
     exact X1t _ (HTX.out i hi)
    have HE2:=Xa (HE.out.below HB.out)
    go_wp2_with fail
    refine (Xh0 HIT.out (by rw[HKL.out];omega) HE2.out).mono ?_
    rw[←HQ.out]
    rintro e w2 ⟨ha,hb2⟩
    have HB2:Hid (Below w.heap.size w w2):=HB.out.trans (hb2.mono hz)
    rcases ha with ⟨h1,y,rfl,hr⟩|⟨h1,y,rfl,te,xe,rfl,hr⟩
    ·have H1:=Xa h1
     have HRR:=Xa hr
     obtain ⟨t,yy,rfl⟩:=hr.iface
     clear h1 hr hb2
     go_wp2_with fail
     go_ret2
     exact ⟨.inl ⟨H1.out,_,rfl,HRR.out⟩,HB2.out⟩
    ·obtain ⟨C,hC⟩:∃C,R.1=C:=⟨_,rfl⟩
     have HC:=Xa hC
     rw[hC] at h1 hr⊢
     have H1:=Xa h1
     have HRR:=Xa hr
     clear h1 hr hb2 hC
     go_wp2_with fail
     go_ret2
     exact ⟨.inr ⟨by rw[HC.out];exact H1.out,_,rfl,by rw[HC.out];exact ⟨te,xe,rfl,HRR.out⟩⟩,HB2.out⟩
 all_goals
  have HQ:Hid (R=(2,[])):=by rw[Hid,←hR];unfold Vf;rw[if_neg (by omega)]
  clear h k hR
  go_enter Tryz.func157,Tryz.ntmps157
  go_wp2_with fail
  refine (Zy _ HE.out.errs).mono ?_
  rintro e w1 ⟨⟨v,rfl,te,xe,rfl,hrs⟩,rfl⟩
  have HRS:=Xa hrs
  clear hrs
  go_wp2_with fail
  go_ret2
  exact NO.out _ (Below.refl _ _) _ HQ.out _ ⟨te,xe,rfl,HRS.out⟩ rfl

abbrev Ya (x:FN) (kc kn ki:Value):Value:= .agg #[.int .i64 x.kind, .string x.name, .int .i64 x.place,kc,kn,ki]
theorem X1e {cs:List VN} (hok:okB cs=true) (hl:cs.length=1) {lo:Nat} {w:World} {v:Value} (hlo:lo≤w.heap.size) (h:ValIs lo w.heap.size w cs 1 0 v):Rep w cs v:=by
 obtain ⟨p1,p2,_,p4⟩:=Xp hok
 have ht:=ValIs.tree hlo p2 p4 p1.2 (by omega) h
 have hw:=K4 hok
 rw[hl] at hw
 exact Rep.of ht hw hok
set_option maxRecDepth 100000 in
theorem X4x {fs:List FN} {x:FN} (hx:NodeOk fs x) (B:Nat) (kc kn ki v:Value) (ns:List VN) (w:World) (hn:FNodeIn B w x kc kn ki) (hB:B≤w.heap.size) (hv:Rep w ns v) (hE:Errs2 w) (k:x.kind=1):
  Calls Tryz.prog 119 #[Ya x kc kn ki,v] w (Qa (Yf x ns) w):=by
 have HN:=Xa hn
 have HV:=Xa hv
 have HE:=Xa hE
 obtain ⟨_,aC,cC,rfl,_⟩:=hn.cst
 obtain ⟨_,_,aK,cK,rfl,_⟩:=hn.names
 obtain ⟨_,_,aI,cI,rfl,_⟩:=hn.kids
 obtain ⟨ty,y,rfl⟩:=hv.iface
 obtain ⟨LC,hLC⟩:∃LC,x.cst.length=LC:=⟨_,rfl⟩
 obtain ⟨LN,hLN⟩:∃LN,x.names.length=LN:=⟨_,rfl⟩
 obtain ⟨LK,hLK⟩:∃LK,x.kids.length=LK:=⟨_,rfl⟩
 obtain ⟨nm,hnm⟩:∃nm,x.name=nm:=⟨_,rfl⟩
 obtain ⟨pl,hpl⟩:∃pl,x.place=pl:=⟨_,rfl⟩
 have HB3:∀cs,Hid (Below w.heap.size w (w.alloc (.cells cs 84))):=fun cs=>(Below.refl _ _).alloc (Nat.le_refl _) _
 have HBB:=Xa HB3
 clear hn hv hE HB3
 have HQ:Hid (Yf x ns=(0,ns)):=by unfold Hid Yf;rw[if_neg (by omega),if_neg (by omega),if_neg (by omega),if_neg (by omega),if_neg (by omega),if_neg (by omega)]
 unfold Ya
 rw[k,HQ.out]
 clear k
 go_enter Tryz.func119,Tryz.ntmps119
 go_wp2_with fail
 go_ret2
 exact ⟨.inl ⟨rfl,_,rfl,HV.out.below (HBB.out _).out⟩,(HBB.out _).out⟩
set_option maxRecDepth 100000 in
theorem X4y {fs:List FN} {x:FN} (hx:NodeOk fs x) (B:Nat) (kc kn ki v:Value) (ns:List VN) (w:World) (hn:FNodeIn B w x kc kn ki) (hB:B≤w.heap.size) (hv:Rep w ns v) (hE:Errs2 w) (k:x.kind=2):
  Calls Tryz.prog 119 #[Ya x kc kn ki,v] w (Qa (Yf x ns) w):=by
 have HN:=Xa hn
 have HV:=Xa hv
 have HE:=Xa hE
 obtain ⟨_,aC,cC,rfl,_⟩:=hn.cst
 obtain ⟨_,_,aK,cK,rfl,_⟩:=hn.names
 obtain ⟨_,_,aI,cI,rfl,_⟩:=hn.kids
 obtain ⟨ty,y,rfl⟩:=hv.iface
 obtain ⟨LC,hLC⟩:∃LC,x.cst.length=LC:=⟨_,rfl⟩
 obtain ⟨LN,hLN⟩:∃LN,x.names.length=LN:=⟨_,rfl⟩
 obtain ⟨LK,hLK⟩:∃LK,x.kids.length=LK:=⟨_,rfl⟩
 obtain ⟨nm,hnm⟩:∃nm,x.name=nm:=⟨_,rfl⟩
 obtain ⟨pl,hpl⟩:∃pl,x.place=pl:=⟨_,rfl⟩
 have HB3:∀cs,Hid (Below w.heap.size w (w.alloc (.cells cs 84))):=fun cs=>(Below.refl _ _).alloc (Nat.le_refl _) _
 have HBB:=Xa HB3
 clear hn hv hE HB3
 have HQ:Hid (Yf x ns=Jb ns nm):=by unfold Hid Yf;rw[if_pos k,hnm]
 have hsz:=hx.key k
 rw[hnm] at hsz
 obtain ⟨R,hR⟩:∃R,Jb ns nm=R:=⟨_,rfl⟩
 have HR:=Xa hR
 unfold Ya
 rw[k,HQ.out,hnm,hR]
 clear k hR
 go_enter Tryz.func119,Tryz.ntmps119
 go_wp2_with fail
 refine (Xzb ns _ nm _ (HV.out.below (HBB.out _).out) (HE.out.below (HBB.out _).out).errs (by omega)).mono ?_
 rw[HR.out]
 rintro e w1 ⟨ha,hb1⟩
 have HB1:=Xa ((HBB.out _).out.trans (hb1.mono (HBB.out _).out.size))
 clear hb1
 rcases ha with ⟨h1,u,rfl,hr⟩|⟨h1,u,rfl,te,xe,rfl,hr⟩
 ·have H1:=Xa h1
  have HRR:=Xa hr
  obtain ⟨t,yy,rfl⟩:=hr.iface
  clear h1 hr
  go_wp2_with fail
  go_ret2
  exact ⟨.inl ⟨H1.out,_,rfl,HRR.out⟩,HB1.out⟩
 ·obtain ⟨C,hC⟩:∃C,R.1=C:=⟨_,rfl⟩
  have HC:=Xa hC
  rw[hC] at h1 hr⊢
  have H1:=Xa h1
  have HRR:=Xa hr
  clear h1 hr hC
  go_wp2_with fail
  go_ret2
  exact ⟨.inr ⟨by rw[HC.out];exact H1.out,_,rfl,by rw[HC.out];exact ⟨te,xe,rfl,HRR.out⟩⟩,HB1.out⟩
set_option maxRecDepth 100000 in
theorem X4z {fs:List FN} {x:FN} (hx:NodeOk fs x) (B:Nat) (kc kn ki v:Value) (ns:List VN) (w:World) (hn:FNodeIn B w x kc kn ki) (hB:B≤w.heap.size) (hv:Rep w ns v) (hE:Errs2 w) (k:x.kind=3):
  Calls Tryz.prog 119 #[Ya x kc kn ki,v] w (Qa (Yf x ns) w):=by
 have HN:=Xa hn
 have HV:=Xa hv
 have HE:=Xa hE
 obtain ⟨_,aC,cC,rfl,_⟩:=hn.cst
 obtain ⟨_,_,aK,cK,rfl,_⟩:=hn.names
 obtain ⟨_,_,aI,cI,rfl,_⟩:=hn.kids
 obtain ⟨ty,y,rfl⟩:=hv.iface
 obtain ⟨LC,hLC⟩:∃LC,x.cst.length=LC:=⟨_,rfl⟩
 obtain ⟨LN,hLN⟩:∃LN,x.names.length=LN:=⟨_,rfl⟩
 obtain ⟨LK,hLK⟩:∃LK,x.kids.length=LK:=⟨_,rfl⟩
 obtain ⟨nm,hnm⟩:∃nm,x.name=nm:=⟨_,rfl⟩
 obtain ⟨pl,hpl⟩:∃pl,x.place=pl:=⟨_,rfl⟩
 have HB3:∀cs,Hid (Below w.heap.size w (w.alloc (.cells cs 84))):=fun cs=>(Below.refl _ _).alloc (Nat.le_refl _) _
 have HBB:=Xa HB3
 clear hn hv hE HB3
 have HQ:Hid (Yf x ns=atR ns pl):=by unfold Hid Yf;rw[if_neg (by omega),if_pos k,hpl]
 have hsz:=hx.place k
 rw[hpl] at hsz
 obtain ⟨R,hR⟩:∃R,atR ns pl=R:=⟨_,rfl⟩
 have HR:=Xa hR
 unfold Ya
 rw[k,HQ.out,hpl,hR]
 clear k hR
 go_enter Tryz.func119,Tryz.ntmps119
 go_wp2_with fail
 refine (Xrt ns _ pl _ (HV.out.below (HBB.out _).out) (HE.out.below (HBB.out _).out).errs (by omega) (by omega)).mono ?_
 rw[HR.out]
 rintro e w1 ⟨ha,hb1⟩
 have HB1:=Xa ((HBB.out _).out.trans (hb1.mono (HBB.out _).out.size))
 clear hb1
 rcases ha with ⟨h1,u,rfl,hr⟩|⟨h1,u,rfl,te,xe,rfl,hr⟩
 ·have H1:=Xa h1
  have HRR:=Xa hr
  obtain ⟨t,yy,rfl⟩:=hr.iface
  clear h1 hr
  go_wp2_with fail
  go_ret2
  exact ⟨.inl ⟨H1.out,_,rfl,HRR.out⟩,HB1.out⟩
 ·obtain ⟨C,hC⟩:∃C,R.1=C:=⟨_,rfl⟩
  have HC:=Xa hC
  rw[hC] at h1 hr⊢
  have H1:=Xa h1
  have HRR:=Xa hr
  clear h1 hr hC
  go_wp2_with fail
  go_ret2
  exact ⟨.inr ⟨by rw[HC.out];exact H1.out,_,rfl,by rw[HC.out];exact ⟨te,xe,rfl,HRR.out⟩⟩,HB1.out⟩
set_option maxRecDepth 100000 in
theorem X40 {fs:List FN} {x:FN} (hx:NodeOk fs x) (B:Nat) (kc kn ki v:Value) (ns:List VN) (w:World) (hn:FNodeIn B w x kc kn ki) (hB:B≤w.heap.size) (hv:Rep w ns v) (hE:Errs2 w) (k:x.kind=5):
  Calls Tryz.prog 119 #[Ya x kc kn ki,v] w (Qa (Yf x ns) w):=by
 have HN:=Xa hn
 have HV:=Xa hv
 have HE:=Xa hE
 obtain ⟨_,aC,cC,rfl,_⟩:=hn.cst
 obtain ⟨_,_,aK,cK,rfl,_⟩:=hn.names
 obtain ⟨_,_,aI,cI,rfl,_⟩:=hn.kids
 obtain ⟨ty,y,rfl⟩:=hv.iface
 obtain ⟨LC,hLC⟩:∃LC,x.cst.length=LC:=⟨_,rfl⟩
 obtain ⟨LN,hLN⟩:∃LN,x.names.length=LN:=⟨_,rfl⟩
 obtain ⟨LK,hLK⟩:∃LK,x.kids.length=LK:=⟨_,rfl⟩
 obtain ⟨nm,hnm⟩:∃nm,x.name=nm:=⟨_,rfl⟩
 obtain ⟨pl,hpl⟩:∃pl,x.place=pl:=⟨_,rfl⟩
 have HB3:∀cs,Hid (Below w.heap.size w (w.alloc (.cells cs 84))):=fun cs=>(Below.refl _ _).alloc (Nat.le_refl _) _
 have HBB:=Xa HB3
 clear hn hv hE HB3
 have HQ:Hid (Yf x ns=(0,x.cst)):=by unfold Hid Yf;rw[if_neg (by omega),if_neg (by omega),if_pos k]
 obtain ⟨hc1,hcok⟩:=hx.cst k
 have HCC:Hid (NodesAt B w (.slice aC LC cC) x.cst):=by have:=HN.out.cst;rw[hLC] at this;exact this
 obtain ⟨p1,p2,p3,p4⟩:=Xp hcok
 have HP2:=Xa p2
 have HP4:=Xa p4
 have HCOK:=Xa hcok
 unfold Ya
 rw[k,HQ.out]
 rw[hLC] at hc1
 have HLC:=Xa hLC
 rw[hLC]
 subst hc1
 clear hLC
 clear k p1 p2 p3 p4 hcok
 go_enter Tryz.func119,Tryz.ntmps119
 go_wp2_with fail
 refine (Xf0 B _ x.cst _ (HCC.out.below ((HBB.out _).out.mono hB)) (Nat.le_trans hB (HBB.out _).out.size) (by rw[HLC.out];omega) (by rw[HLC.out];omega) HP2.out HP4.out).mono ?_
 rintro e w1 ⟨VV,rfl,hrow,hall,hb1⟩
 have HB1:=Xa ((HBB.out _).out.trans (hb1.mono (HBB.out _).out.size))
 have HREP:=Xa (X1e HCOK.out HLC.out (by have:=hb1.size;exact this) (hall 0 (by rw[HLC.out];omega)))
 obtain ⟨t,yy,e0⟩:=HREP.out.iface
 have hcell:=hrow.cell (i:=0) (by rw[HLC.out];omega)
 rw[e0] at hcell HREP
 have hcell2:w1.cell? ⟨w.heap.size+1,0,none⟩=some (.iface t yy):=by simpa using hcell
 clear hcell
 rw[HLC.out]
 clear hrow hall hb1
 go_wp2_with fail
 go_ret2
 exact ⟨.inl ⟨rfl,_,rfl,HREP.out⟩,HB1.out⟩
set_option maxRecDepth 100000 in
theorem X3j {fs:List FN} {x:FN} (hx:NodeOk fs x) (B:Nat) (kc kn ki v:Value) (ns:List VN) (w:World) (hn:FNodeIn B w x kc kn ki) (hB:B≤w.heap.size) (hv:Rep w ns v) (hE:Errs2 w) (k:x.kind=11):
  Calls Tryz.prog 119 #[Ya x kc kn ki,v] w (Qa (Yf x ns) w):=by
 have HN:=Xa hn
 have HV:=Xa hv
 have HE:=Xa hE
 obtain ⟨_,aC,cC,rfl,_⟩:=hn.cst
 obtain ⟨_,_,aK,cK,rfl,_⟩:=hn.names
 obtain ⟨_,_,aI,cI,rfl,_⟩:=hn.kids
 obtain ⟨ty,y,rfl⟩:=hv.iface
 obtain ⟨LC,hLC⟩:∃LC,x.cst.length=LC:=⟨_,rfl⟩
 obtain ⟨LN,hLN⟩:∃LN,x.names.length=LN:=⟨_,rfl⟩
 obtain ⟨LK,hLK⟩:∃LK,x.kids.length=LK:=⟨_,rfl⟩
 obtain ⟨nm,hnm⟩:∃nm,x.name=nm:=⟨_,rfl⟩
 obtain ⟨pl,hpl⟩:∃pl,x.place=pl:=⟨_,rfl⟩
 have HB3:∀cs,Hid (Below w.heap.size w (w.alloc (.cells cs 84))):=fun cs=>(Below.refl _ _).alloc (Nat.le_refl _) _
 have HBB:=Xa HB3
 clear hn hv hE HB3
 have HQ:Hid (Yf x ns=(Xa9 ns,G9 ns)):=by unfold Hid Yf;rw[if_neg (by omega),if_neg (by omega),if_neg (by omega),if_pos k]
 obtain ⟨R,hR⟩:∃R,(Xa9 ns,G9 ns)=R:=⟨_,rfl⟩
 have HR:=Xa hR
 unfold Ya
 rw[k,HQ.out,hR]
 clear k hR
 go_enter Tryz.func119,Tryz.ntmps119
 go_wp2_with fail
 refine (Xru ns _ _ (HV.out.below (HBB.out _).out) (HE.out.below (HBB.out _).out).errs).mono ?_
 rw[HR.out]
 rintro e w1 ⟨ha,hb1⟩
 have HB1:=Xa ((HBB.out _).out.trans (hb1.mono (HBB.out _).out.size))
 clear hb1
 rcases ha with ⟨h1,u,rfl,hr⟩|⟨h1,u,rfl,te,xe,rfl,hr⟩
 ·have H1:=Xa h1
  have HRR:=Xa hr
  obtain ⟨t,yy,rfl⟩:=hr.iface
  clear h1 hr
  go_wp2_with fail
  go_ret2
  exact ⟨.inl ⟨H1.out,_,rfl,HRR.out⟩,HB1.out⟩
 ·obtain ⟨C,hC⟩:∃C,R.1=C:=⟨_,rfl⟩
  have HC:=Xa hC
  rw[hC] at h1 hr⊢
  have H1:=Xa h1
  have HRR:=Xa hr
  clear h1 hr hC
  go_wp2_with fail
  go_ret2
  exact ⟨.inr ⟨by rw[HC.out];exact H1.out,_,rfl,by rw[HC.out];exact ⟨te,xe,rfl,HRR.out⟩⟩,HB1.out⟩
set_option maxRecDepth 100000 in
theorem X3k {fs:List FN} {x:FN} (hx:NodeOk fs x) (B:Nat) (kc kn ki v:Value) (ns:List VN) (w:World) (hn:FNodeIn B w x kc kn ki) (hB:B≤w.heap.size) (hv:Rep w ns v) (hE:Errs2 w) (k:x.kind=12):
  Calls Tryz.prog 119 #[Ya x kc kn ki,v] w (Qa (Yf x ns) w):=by
 have HN:=Xa hn
 have HV:=Xa hv
 have HE:=Xa hE
 obtain ⟨_,aC,cC,rfl,_⟩:=hn.cst
 obtain ⟨_,_,aK,cK,rfl,_⟩:=hn.names
 obtain ⟨_,_,aI,cI,rfl,_⟩:=hn.kids
 obtain ⟨ty,y,rfl⟩:=hv.iface
 obtain ⟨LC,hLC⟩:∃LC,x.cst.length=LC:=⟨_,rfl⟩
 obtain ⟨LN,hLN⟩:∃LN,x.names.length=LN:=⟨_,rfl⟩
 obtain ⟨LK,hLK⟩:∃LK,x.kids.length=LK:=⟨_,rfl⟩
 obtain ⟨nm,hnm⟩:∃nm,x.name=nm:=⟨_,rfl⟩
 obtain ⟨pl,hpl⟩:∃pl,x.place=pl:=⟨_,rfl⟩
 have HB3:∀cs,Hid (Below w.heap.size w (w.alloc (.cells cs 84))):=fun cs=>(Below.refl _ _).alloc (Nat.le_refl _) _
 have HBB:=Xa HB3
 clear hn hv hE HB3
 have HQ:Hid (Yf x ns=Vf ns):=by unfold Hid Yf;rw[if_neg (by omega),if_neg (by omega),if_neg (by omega),if_neg (by omega),if_pos k]
 obtain ⟨R,hR⟩:∃R,Vf ns=R:=⟨_,rfl⟩
 have HR:=Xa hR
 unfold Ya
 rw[k,HQ.out,hR]
 clear k hR
 go_enter Tryz.func119,Tryz.ntmps119
 go_wp2_with fail
 refine (Xvg ns _ _ (HV.out.below (HBB.out _).out) (HE.out.below (HBB.out _).out)).mono ?_
 rw[HR.out]
 rintro e w1 ⟨ha,hb1⟩
 have HB1:=Xa ((HBB.out _).out.trans (hb1.mono (HBB.out _).out.size))
 clear hb1
 rcases ha with ⟨h1,u,rfl,hr⟩|⟨h1,u,rfl,te,xe,rfl,hr⟩
 ·have H1:=Xa h1
  have HRR:=Xa hr
  obtain ⟨t,yy,rfl⟩:=hr.iface
  clear h1 hr
  go_wp2_with fail
  go_ret2
  exact ⟨.inl ⟨H1.out,_,rfl,HRR.out⟩,HB1.out⟩
 ·obtain ⟨C,hC⟩:∃C,R.1=C:=⟨_,rfl⟩
  have HC:=Xa hC
  rw[hC] at h1 hr⊢
  have H1:=Xa h1
  have HRR:=Xa hr
  clear h1 hr hC
  go_wp2_with fail
  go_ret2
  exact ⟨.inr ⟨by rw[HC.out];exact H1.out,_,rfl,by rw[HC.out];exact ⟨te,xe,rfl,HRR.out⟩⟩,HB1.out⟩
set_option maxRecDepth 100000 in
theorem X3l {fs:List FN} {x:FN} (hx:NodeOk fs x) (B:Nat) (kc kn ki v:Value) (ns:List VN) (w:World) (hn:FNodeIn B w x kc kn ki) (hB:B≤w.heap.size) (hv:Rep w ns v) (hE:Errs2 w) (k:x.kind=13):
  Calls Tryz.prog 119 #[Ya x kc kn ki,v] w (Qa (Yf x ns) w):=by
 have HN:=Xa hn
 have HV:=Xa hv
 have HE:=Xa hE
 obtain ⟨_,aC,cC,rfl,_⟩:=hn.cst
 obtain ⟨_,_,aK,cK,rfl,_⟩:=hn.names
 obtain ⟨_,_,aI,cI,rfl,_⟩:=hn.kids
 obtain ⟨ty,y,rfl⟩:=hv.iface
 obtain ⟨LC,hLC⟩:∃LC,x.cst.length=LC:=⟨_,rfl⟩
 obtain ⟨LN,hLN⟩:∃LN,x.names.length=LN:=⟨_,rfl⟩
 obtain ⟨LK,hLK⟩:∃LK,x.kids.length=LK:=⟨_,rfl⟩
 obtain ⟨nm,hnm⟩:∃nm,x.name=nm:=⟨_,rfl⟩
 obtain ⟨pl,hpl⟩:∃pl,x.place=pl:=⟨_,rfl⟩
 have HB3:∀cs,Hid (Below w.heap.size w (w.alloc (.cells cs 84))):=fun cs=>(Below.refl _ _).alloc (Nat.le_refl _) _
 have HBB:=Xa HB3
 clear hn hv hE HB3
 have HQ:Hid (Yf x ns=(0,Qd (!Xx ns))):=by unfold Hid Yf;rw[if_neg (by omega),if_neg (by omega),if_neg (by omega),if_neg (by omega),if_neg (by omega),if_pos k]
 obtain ⟨tb,htb⟩:∃tb,Xx ns=tb:=⟨_,rfl⟩
 have HTB:=Xa htb
 unfold Ya
 rw[k,HQ.out,htb]
 clear k htb
 go_enter Tryz.func119,Tryz.ntmps119
 go_wp2_with fail
 refine (Wm ns _ _ (HV.out.below (HBB.out _).out)).mono ?_
 rw[HTB.out]
 rintro e w1 ⟨rfl,hb1⟩
 have HB1:=Xa ((HBB.out _).out.trans (hb1.mono (HBB.out _).out.size))
 clear hb1
 go_wp2_with fail
 refine (Xhj (!tb) _).mono ?_
 rintro e w2 ⟨rfl,rfl⟩
 obtain ⟨bv,hbv⟩:∃bv:Int,(if (!tb)=true then 1 else 0)=bv:=⟨_,rfl⟩
 have HBV:Hid (Rep w2 (Qd (!tb)) (.iface 113 (.agg #[.int .i64 bv]))):=by rw[Hid,←hbv];exact Xib _ _
 rw[hbv]
 clear hbv
 go_wp2_with fail
 go_ret2
 exact ⟨.inl ⟨rfl,_,rfl,HBV.out⟩,HB1.out⟩
theorem X1f {fs:List FN} {x:FN} (hx:NodeOk fs x) (B:Nat) (kc kn ki v:Value) (ns:List VN) (w:World) (hn:FNodeIn B w x kc kn ki) (hB:B≤w.heap.size) (hv:Rep w ns v) (hE:Errs2 w) (hk:x.kind=1∨x.kind=2∨x.kind=3∨x.kind=5∨x.kind=11∨x.kind=12∨x.kind=13):
  Calls Tryz.prog 119 #[Ya x kc kn ki,v] w (Qa (Yf x ns) w):=by
 rcases hk with k|k|k|k|k|k|k
 ·exact X4x hx B kc kn ki v ns w hn hB hv hE k
 ·exact X4y hx B kc kn ki v ns w hn hB hv hE k
 ·exact X4z hx B kc kn ki v ns w hn hB hv hE k
 ·exact X40 hx B kc kn ki v ns w hn hB hv hE k
 ·exact X3j hx B kc kn ki v ns w hn hB hv hE k
 ·exact X3k hx B kc kn ki v ns w hn hB hv hE k
 ·exact X3l hx B kc kn ki v ns w hn hB hv hE k

theorem Xg4 (u:Value):∀w,(callFunc 190 #[u]).run Tryz.prog w= .ok (.enter 190 #[u]) w:=fun w=>by kernel_rfl
theorem Xn6 (x:Value) (w:World):(Instr.typeAssert (.iface 158 x) 52 116 true).run Tryz.prog w= .ok (.tuple #[.agg #[.string ByteArray.empty], .bool false]) w:=by kernel_rfl
theorem Xrh (us vs:List VN) (h1:okB us=true) (h2:okB vs=true) (lo B lo' B':Nat) (hlo:lo≤B) (hlo':lo'≤B') {f f':Nat} (hf:us.length=f+1) (hf':vs.length=f'+1) (b:Nat) (it it':Value) (V V':Nat→Value) (w:World)
  (hv:ValsAt w it (Xe us).length V) (hv':ValsAt w it' (Xe vs).length V') (hV:∀j,j<(Xe us).length→ValG lo B w us f (Xm (Xe us) j).toNat (V j)) (hV':∀j,j<(Xe vs).length→ValG lo' B' w vs f' (Xm (Xe vs) j).toNat (V' j)) (hB:B≤w.heap.size) (hB':B'≤w.heap.size)
  (c0:w.cell? ⟨b,0,none⟩=some it) (c1:w.cell? ⟨b,1,none⟩=some it') (hb:b<w.heap.size):
  Calls Tryz.prog 190 #[.slice (some ⟨b,0,none⟩) 2 2] w fun e w'=>∃r,e= .returned r∧(∃a c,r= .slice a ((Xe us).length+(Xe vs).length) c)∧TreeAt w'.heap.size w' (us.length+vs.length+1) (.mk 5 0 ByteArray.empty [] (Gu us vs (us.length+vs.length))) (.iface 158 (.agg #[r]))∧Below w.heap.size w w':=by
 have k1:=(Zw h1).2
 have k2:=(Zw h2).2
 obtain ⟨p1,p2,_,p4⟩:=Xp h1
 obtain ⟨q1,q2,_,q4⟩:=Xp h2
 refine (Xvu b it it' (Xe us).length (Xe vs).length V V' w hv hv' (by omega) (by omega) c0 c1 hb).mono ?_
 rintro e w' ⟨r,rfl,hrow,hbl⟩
 rw[Xik] at hrow
 obtain ⟨a,c,ec⟩:=Xj hrow
 refine ⟨r,rfl,⟨a,c,ec⟩,Or.inr (Or.inr (Or.inr (Or.inr (Or.inl ⟨rfl,rfl,rfl,rfl,r,rfl,Xk6 (Xhp us vs _) (by omega) hrow (fun j hj=> ?_)⟩)))),hbl⟩
 by_cases hlt:j<(Xe us).length
 ·simp only[if_pos hlt]
  rw[Xnk us vs _ hlt]
  obtain ⟨q,hq,hql⟩:=Zj h1 hlt
  exact TreeAt.keep (fun k hk=>hbl.block k (by omega)) (Nat.le_trans hB hbl.size) (ValG.tree hlo p2 p4 p1.2 (by rw[hq];simp;omega) (ValG.more (show f≤us.length+vs.length by omega) (hV j hlt)))
 ·simp only[if_neg hlt]
  rw[Xnl us vs _ hlt (by omega)]
  obtain ⟨q,hq,hql⟩:=Zj h2 (show j-(Xe us).length<(Xe vs).length by omega)
  exact TreeAt.keep (fun k hk=>hbl.block k (by omega)) (Nat.le_trans hB' hbl.size) (ValG.tree hlo' q2 q4 q1.2 (by rw[hq];simp;omega) (ValG.more (show f'≤us.length+vs.length by omega) (hV' _ (by omega))))
set_option maxRecDepth 100000 in
theorem Xwy (us vs:List VN) (h1:okB us=true) (h2:okB vs=true) (lo B lo' B':Nat) (hlo:lo≤B) (hlo':lo'≤B') (x y:Value) (w:World) (hx:ValG lo B w us us.length (us.length-1) x) (hy:ValG lo' B' w vs vs.length (vs.length-1) y) (hB:B≤w.heap.size) (hB':B'≤w.heap.size) (hE:Errs2 w) (hfu:∀i,i<us.length→Fits (Xb us i)) (hfv:∀i,i<vs.length→Fits (Xb vs i)) (hk5:(Xd us).kind=5) (hk5':(Xd vs).kind=5):
  Calls Tryz.prog 174 #[x,y] w fun e w'=>Jd (Qn us vs) (Zu us vs) e w'∧Below w.heap.size w w':=by
 obtain ⟨tx,vx,Fx,rfl,kx⟩:=Qk hx
 obtain ⟨ty,vy,Fy,rfl,ky⟩:=Qk hy
 have HM:=Xa (Uf h1 h2 (by omega) (by omega) (by omega))
 rw[Xqn hk5] at HM
 have HKX:=Xa kx
 have HKY:=Xa ky
 have HE:=Xa hE
 have m1:=kx.meth
 have e1:=kx.enter
 have m2:=ky.meth
 have e2:=ky.enter
 have heq:((Xb us (us.length-1)).kind !=(Xb vs (vs.length-1)).kind)=false:=by
  have:(Xb us (us.length-1)).kind=(Xb vs (vs.length-1)).kind:=hk5.trans hk5'.symm
  simpa using this
 have hz1:((Xb us (us.length-1)).kind==1)=false:=by simpa using (show ¬(Xb us (us.length-1)).kind=1 from (by have:(Xb us (us.length-1)).kind=5:=hk5;omega))
 have hz2:((Xb vs (vs.length-1)).kind==1)=false:=by simpa using (show ¬(Xb vs (vs.length-1)).kind=1 from (by have:(Xb vs (vs.length-1)).kind=5:=hk5';omega))
 have tl1:=Vq
 have tl2:=Xb8
 have tl3:=Xn6
 obtain ⟨p1,_,_,_⟩:=Xp h1
 obtain ⟨p2,_,_,_⟩:=Xp h2
 obtain ⟨f,hf⟩:∃f,us.length=f+1:=⟨us.length-1,by omega⟩
 obtain ⟨f',hf'⟩:∃f',vs.length=f'+1:=⟨vs.length-1,by omega⟩
 obtain ⟨rfl,it,rfl,hi⟩:=Xgd hf hk5 hx
 obtain ⟨rfl,it',rfl,hi'⟩:=Xgd hf' hk5' hy
 obtain ⟨V,hv,hV⟩:=Ga hi hB
 obtain ⟨V',hv',hV'⟩:=Ga hi' hB'
 have HLL:=Xa (Xzu h1 h2 (F:=us.length+vs.length) (by omega) (by omega))
 have HFT:=Xa (Xk7 h1 h2 hfu hfv)
 have HWC:Hid (∀W b,Below w.heap.size w W→W.cell? ⟨b,0,none⟩=some it→W.cell? ⟨b,1,none⟩=some it'→b<W.heap.size→Calls Tryz.prog 190 #[.slice (some ⟨b,0,none⟩) 2 2] W fun e w'=>∃r,e= .returned r∧(∃a c,r= .slice a ((Xe us).length+(Xe vs).length) c)∧TreeAt w'.heap.size w' (us.length+vs.length+1) (.mk 5 0 ByteArray.empty [] (Gu us vs (us.length+vs.length))) (.iface 158 (.agg #[r]))∧Below W.heap.size W w'):=
  fun W b hb c0 c1 hbl=>Xrh us vs h1 h2 lo B lo' B' hlo hlo' hf hf' b it it' V V' W (hv.below hb) (hv'.below hb) (fun j hj=>ValG.keep (Qg (hb.mono hB)) (Nat.le_refl _) hlo (hV j hj)) (fun j hj=>ValG.keep (Qg (hb.mono hB')) (Nat.le_refl _) hlo' (hV' j hj)) (Nat.le_trans hB hb.size) (Nat.le_trans hB' hb.size) c0 c1 hbl
 obtain ⟨a,cap,rfl,_⟩:=hi
 obtain ⟨a',cap',rfl,_⟩:=hi'
 obtain ⟨T,hT⟩:∃T,(VT.mk 5 0 ByteArray.empty [] (Gu us vs (us.length+vs.length)))=T:=⟨_,rfl⟩
 obtain ⟨F,hF⟩:∃F,us.length+vs.length+1=F:=⟨_,rfl⟩
 obtain ⟨M,hM⟩:∃M,(Xe us).length=M:=⟨_,rfl⟩
 obtain ⟨M',hM'⟩:∃M',(Xe vs).length=M':=⟨_,rfl⟩
 rw[hT,hF,hM,hM'] at HWC
 rw[hT,hF] at HLL
 rw[hM] at HKX m1 e1⊢
 rw[hM'] at HKY m2 e2⊢
 obtain ⟨NS,hNS⟩:∃NS,G7 us vs=NS:=⟨_,rfl⟩
 rw[hNS] at HM HLL HFT
 clear kx ky hx hy hv hv' hV hV' p1 p2 hf hf' hM hM' hE hT hF hNS hfu hfv
 go_enter Tryz.func174,Tryz.ntmps174
 go_wp2_with fail
 refine (HKX.out.says _).mono ?_
 rintro e w1 ⟨rfl,hb1⟩
 have HB1:=Xa hb1
 clear hb1
 go_wp2_with fail
 refine (HKY.out.says _).mono ?_
 rintro e wa ⟨rfl,hba⟩
 have HBa:=Xa (HB1.out.trans (hba.mono HB1.out.size))
 clear hba
 go_wp2_with fail
 refine (HKX.out.says _).mono ?_
 rintro e wb ⟨rfl,hbb⟩
 have HBb:=Xa (HBa.out.trans (hbb.mono HBa.out.size))
 clear hbb
 go_wp2_with fail
 refine (HKY.out.says _).mono ?_
 rintro e w2 ⟨rfl,hb2⟩
 have HB2:=Xa (HBb.out.trans (hb2.mono HBb.out.size))
 clear hb2
 go_wp2_with fail
 obtain ⟨W,hW⟩:∃W,w2.alloc (.cells #[.slice a M cap] 158)=W:=⟨_,rfl⟩
 have c0:W.cell? ⟨w2.heap.size,0,none⟩=some (.slice a M cap):=by rw[←hW];simp
 have hlt:w2.heap.size<W.heap.size:=by rw[←hW];simp
 have HBD:Hid (Below w.heap.size w W.drew):=by rw[Hid,←hW];exact (HB2.out.alloc HB2.out.size _).drew
 have c0d:W.drew.cell? ⟨w2.heap.size,0,none⟩=some (.slice a M cap):=c0
 have hltd:w2.heap.size<W.drew.heap.size:=by simpa using hlt
 rw[hW]
 clear hW
 cases ok:okB NS
 ·go_region_law
   (first
    |(refine Xc2 (by rfl) _ _ (by rfl) 158 (.agg #[.slice a' M' cap']) (by rfl) 249 (Xdm _) (Xdn _) (Ki a' M' cap' _) ?_;rintro e w3 ⟨rfl,hb3⟩;have hS1:=(Xc hb3 hltd).trans c0d;refine ⟨_,rfl, ?_⟩)
    |(refine Zv (by rfl) 190 _ _ (by rfl) (.slice (some ⟨w3.heap.size,0,none⟩) 2 2) (by rfl) (Xg4 _) (HWC.out (w3.alloc (.cells #[.slice a M cap, .slice a' M' cap'] 58)) w3.heap.size ((HBD.out.trans (hb3.mono HBD.out.size)).alloc (HBD.out.trans (hb3.mono HBD.out.size)).size _) (by simp) (by simp) (by simp)) ?_;rintro e w4 ⟨r,rfl,⟨ar,cr,rfl⟩,htr,hb4⟩;refine ⟨_,rfl, ?_⟩)
    |(refine Zv (by rfl) 142 _ _ (by rfl) (.iface 158 (.agg #[.slice ar (M+M') cr])) (by rfl) (Qx _) (J7 F T _ NS w4 htr HLL.out (Nat.le_trans HFT.out.1 (by omega)) (fun i hi=>(HFT.out.2 i hi).1) (HE.out.below (((HBD.out.trans (hb3.mono HBD.out.size)).alloc (HBD.out.trans (hb3.mono HBD.out.size)).size _).trans (hb4.mono ((HBD.out.trans (hb3.mono HBD.out.size)).alloc (HBD.out.trans (hb3.mono HBD.out.size)).size _).size))) ok) ?_;rintro e w5 ⟨te,xe,rfl,hrs,hb5⟩;refine ⟨_,rfl, ?_⟩))
  all_goals
   have HB3:=Xa ((HBD.out.trans (hb3.mono HBD.out.size)).alloc (HBD.out.trans (hb3.mono HBD.out.size)).size (.cells #[.slice a M cap, .slice a' M' cap'] 58))
   have HB4:=Xa (HB3.out.trans (hb4.mono HB3.out.size))
   have HB5:=Xa (HB4.out.trans (hb5.mono HB4.out.size))
   clear hb3 hb4 hb5 htr
   go_wp2_with fail
   go_ret2
   exact ⟨Or.inr ⟨by rw[HM.out.2,ok];rfl,_,rfl,by rw[HM.out.1,ok];exact ⟨te,xe,rfl,hrs⟩⟩,HB5.out⟩
 ·go_region_law
   (first
    |(refine Xc2 (by rfl) _ _ (by rfl) 158 (.agg #[.slice a' M' cap']) (by rfl) 249 (Xdm _) (Xdn _) (Ki a' M' cap' _) ?_;rintro e w3 ⟨rfl,hb3⟩;have hS1:=(Xc hb3 hltd).trans c0d;refine ⟨_,rfl, ?_⟩)
    |(refine Zv (by rfl) 190 _ _ (by rfl) (.slice (some ⟨w3.heap.size,0,none⟩) 2 2) (by rfl) (Xg4 _) (HWC.out (w3.alloc (.cells #[.slice a M cap, .slice a' M' cap'] 58)) w3.heap.size ((HBD.out.trans (hb3.mono HBD.out.size)).alloc (HBD.out.trans (hb3.mono HBD.out.size)).size _) (by simp) (by simp) (by simp)) ?_;rintro e w4 ⟨r,rfl,⟨ar,cr,rfl⟩,htr,hb4⟩;refine ⟨_,rfl, ?_⟩)
    |(refine Zv (by rfl) 142 _ _ (by rfl) (.iface 158 (.agg #[.slice ar (M+M') cr])) (by rfl) (Qx _) (Jo F T _ NS w4 htr HLL.out (Nat.le_trans HFT.out.1 (by omega)) (fun i hi=>(HFT.out.2 i hi).1) (HE.out.below (((HBD.out.trans (hb3.mono HBD.out.size)).alloc (HBD.out.trans (hb3.mono HBD.out.size)).size _).trans (hb4.mono ((HBD.out.trans (hb3.mono HBD.out.size)).alloc (HBD.out.trans (hb3.mono HBD.out.size)).size _).size))) ok) ?_;rintro e w5 ⟨rfl,hb5⟩;refine ⟨_,rfl, ?_⟩))
  all_goals
   have HB3:=Xa ((HBD.out.trans (hb3.mono HBD.out.size)).alloc (HBD.out.trans (hb3.mono HBD.out.size)).size (.cells #[.slice a M cap, .slice a' M' cap'] 58))
   have HB4:=Xa (HB3.out.trans (hb4.mono HB3.out.size))
   have HB5:=Xa (HB4.out.trans (hb5.mono HB4.out.size))
   have HTR:=Xa (TreeAt.keep (fun k hk=>hb5.block k hk) hb5.size htr)
   clear hb3 hb4 hb5 htr
   go_wp2_with fail
   go_ret2
   exact ⟨Or.inl ⟨by rw[HM.out.1,ok];rfl,F,T,_,_,rfl,HTR.out,by rw[HM.out.2,ok];exact HLL.out⟩,HB5.out⟩

theorem Xs9 (u v:Value):∀w,(callFunc 191 #[u,v]).run Tryz.prog w= .ok (.enter 191 #[u,v]) w:=fun w=>by kernel_rfl
theorem Xyx {lo B:Nat} {w:World} {us:List VN} {f:Nat} {t:TypeId} {v:Value} (hlo:lo≤B) (hf:us.length=f+1) (hk:(Xd us).kind=6) (h:ValG lo B w us us.length (us.length-1) (.iface t v)):
  t=118∧∃ks it,v= .agg #[ks,it]∧StrsAt B w ks (Xd us).keys∧ItemsG lo B w it (Xe us).length (fun j u=>ValG lo B w us f (Xm (Xe us) j).toNat u):=by
 rw[hf,show f+1-1=f by omega] at h
 have hr:Xb us f=Xd us:=by unfold Xd;rw[hf];rfl
 have hr2:Xe us=(Xd us).kids:=rfl
 unfold ValG at h
 rw[hr] at h
 rcases h with ⟨k,e⟩|⟨k,e⟩|⟨k,e⟩|⟨k,e⟩|⟨k,it,e,hi⟩|⟨k,ks,it,e,hs,hi⟩
 case inr.inr.inr.inr.inr=>cases e;exact ⟨rfl,ks,it,rfl,hs,by rw[hr2];exact hi⟩
 all_goals exact absurd k (by omega)
theorem Xyy (us vs:List VN) (h1:okB us=true) (h2:okB vs=true) (hk1:(Xd us).kind=6) (hk2:(Xd vs).kind=6) (hfu:∀i,i<us.length→Fits (Xb us i)) (hfv:∀i,i<vs.length→Fits (Xb vs i)) (lo B lo' B':Nat) (hlo:lo≤B) (hlo':lo'≤B') {f f':Nat} (hf:us.length=f+1) (hf':vs.length=f'+1) (ks it ks' it':Value) (V V':Nat→Value) (w:World)
  (hks:StrsAt B w ks (Xd us).keys) (hks':StrsAt B' w ks' (Xd vs).keys) (hv:ValsAt w it (Xe us).length V) (hv':ValsAt w it' (Xe vs).length V') (hV:∀j,j<(Xe us).length→ValG lo B w us f (Xm (Xe us) j).toNat (V j)) (hV':∀j,j<(Xe vs).length→ValG lo' B' w vs f' (Xm (Xe vs) j).toNat (V' j)) (hB:B≤w.heap.size) (hB':B'≤w.heap.size):
  Calls Tryz.prog 191 #[.agg #[ks,it], .agg #[ks',it']] w fun e w'=>∃k2 i2 T,e= .returned (.agg #[k2,i2])∧(∃a c,k2= .slice a (Y4 us vs) c)∧(∃a c,i2= .slice a (Y4 us vs) c)∧TreeAt w'.heap.size w' (us.length+vs.length+1) T (.iface 118 (.agg #[k2,i2]))∧Yi (us.length+vs.length+1) T 0=Z9 us vs∧((Z9 us vs).length≤16001∧∀i,i<(Z9 us vs).length→Xdw (Xb (Z9 us vs) i))∧Below w.heap.size w w':=by
 have k1:=(Zw h1).2
 have k2:=(Zw h2).2
 obtain ⟨a1,a2⟩:=Y7 h1 hk1
 obtain ⟨b1,b2⟩:=Y7 h2 hk2
 obtain ⟨p1,p2,_,p4⟩:=Xp h1
 obtain ⟨q1,q2,_,q4⟩:=Xp h2
 have hl:=Xen (us:=us) h2 hk2
 have h160:=Xdz h1 h2 hk1 hk2
 have hsz:=Xhr hks.2.1 hks'.2.1
 rw[←Xst] at hsz
 refine (Xka w.heap.size ks it ks' it' (Xd us).keys (Xd vs).keys V V' w (hks.wide hB) (by rw[a1];exact hv) (hks'.wide hB') (by rw[b1];exact hv') (Nat.le_refl _) (Jh b2) (by omega) (by omega)).mono ?_
 rintro e w' ⟨g,x,y,rfl,hg,hx,hy,hbl⟩
 rw[←Xst] at hg hx hy
 have hlay:=Xzz h1 h2 hk1 hk2 (F:=us.length+vs.length) (by omega) (by omega) hg
 have hfit:=Xwj h1 h2 hk1 hk2 hfu hfv hg hsz
 rw[hl] at hg hx hy
 obtain ⟨ax,cx,ex⟩:=Xj hx
 obtain ⟨ay,cy,ey⟩:=Xj hy
 refine ⟨x,y,_,rfl,⟨ax,cx,ex⟩,⟨ay,cy,ey⟩,Xwh (T:=Xdy us vs (us.length+vs.length)) (by omega) hl hsz (fun j hj=> ?_) hg hx hy hbl,hlay,hfit,hbl⟩
 unfold Y4 at hj
 unfold Xdy wkV
 rw[b1]
 by_cases hlt:j<(Xe vs).length
 ·rw[if_pos hlt,if_pos hlt]
  obtain ⟨q,hq,hql⟩:=Zj h2 hlt
  exact TreeAt.keep (fun _ _=>rfl) hB' (ValG.tree hlo' q2 q4 q1.2 (by rw[hq];simp;omega) (ValG.more (show f'≤us.length+vs.length by omega) (hV' j hlt)))
 ·rw[if_neg hlt,if_neg hlt]
  have hm:=Xbp h1 hk1 (show j-(Xe vs).length<(Za us vs (Xd us).keys.length).length by omega)
  obtain ⟨q,hq,hql⟩:=Zj h1 hm
  exact TreeAt.keep (fun _ _=>rfl) hB (ValG.tree hlo p2 p4 p1.2 (by rw[hq];simp;omega) (ValG.more (show f≤us.length+vs.length by omega) (hV _ hm)))
set_option maxRecDepth 100000 in
theorem X12 (us vs:List VN) (h1:okB us=true) (h2:okB vs=true) (lo B lo' B':Nat) (hlo:lo≤B) (hlo':lo'≤B') (x y:Value) (w:World) (hx:ValG lo B w us us.length (us.length-1) x) (hy:ValG lo' B' w vs vs.length (vs.length-1) y) (hB:B≤w.heap.size) (hB':B'≤w.heap.size) (hE:Errs2 w) (hfu:∀i,i<us.length→Fits (Xb us i)) (hfv:∀i,i<vs.length→Fits (Xb vs i)) (hk6:(Xd us).kind=6) (hk6':(Xd vs).kind=6):
  Calls Tryz.prog 174 #[x,y] w fun e w'=>Jd (Qn us vs) (Zu us vs) e w'∧Below w.heap.size w w':=by
 obtain ⟨tx,vx,Fx,rfl,kx⟩:=Qk hx
 obtain ⟨ty,vy,Fy,rfl,ky⟩:=Qk hy
 have HM:=Xa (Uf h1 h2 (by omega) (by omega) (by omega))
 rw[Xqo hk6] at HM
 have HKX:=Xa kx
 have HKY:=Xa ky
 have HE:=Xa hE
 have m1:=kx.meth
 have e1:=kx.enter
 have m2:=ky.meth
 have e2:=ky.enter
 have heq:((Xb us (us.length-1)).kind !=(Xb vs (vs.length-1)).kind)=false:=by
  have:(Xb us (us.length-1)).kind=(Xb vs (vs.length-1)).kind:=hk6.trans hk6'.symm
  simpa using this
 have hz1:((Xb us (us.length-1)).kind==1)=false:=by simpa using (show ¬(Xb us (us.length-1)).kind=1 from (by have:(Xb us (us.length-1)).kind=6:=hk6;omega))
 have hz2:((Xb vs (vs.length-1)).kind==1)=false:=by simpa using (show ¬(Xb vs (vs.length-1)).kind=1 from (by have:(Xb vs (vs.length-1)).kind=6:=hk6';omega))
 have tl1:=Uw
 have tl2:=Xg7
 have tl3:=Xae
 have tl4:=Xdu
 have tl5:=Xy7
 obtain ⟨p1,_,_,_⟩:=Xp h1
 obtain ⟨p2,_,_,_⟩:=Xp h2
 obtain ⟨f,hf⟩:∃f,us.length=f+1:=⟨us.length-1,by omega⟩
 obtain ⟨f',hf'⟩:∃f',vs.length=f'+1:=⟨vs.length-1,by omega⟩
 obtain ⟨rfl,ks,it,rfl,hks,hi⟩:=Xyx hlo hf hk6 hx
 obtain ⟨rfl,ks',it',rfl,hks',hi'⟩:=Xyx hlo' hf' hk6' hy
 obtain ⟨V,hv,hV⟩:=Ga hi hB
 obtain ⟨V',hv',hV'⟩:=Ga hi' hB'
 have HWC:Hid (∀W,Below w.heap.size w W→Calls Tryz.prog 191 #[.agg #[ks,it], .agg #[ks',it']] W fun e w'=>∃k2 i2 T,e= .returned (.agg #[k2,i2])∧(∃a c,k2= .slice a (Y4 us vs) c)∧(∃a c,i2= .slice a (Y4 us vs) c)∧TreeAt w'.heap.size w' (us.length+vs.length+1) T (.iface 118 (.agg #[k2,i2]))∧Yi (us.length+vs.length+1) T 0=Z9 us vs∧((Z9 us vs).length≤16001∧∀i,i<(Z9 us vs).length→Xdw (Xb (Z9 us vs) i))∧Below W.heap.size W w'):=
  fun W hb=>Xyy us vs h1 h2 hk6 hk6' hfu hfv lo B lo' B' hlo hlo' hf hf' ks it ks' it' V V' W (hks.below (hb.mono hB)) (hks'.below (hb.mono hB')) (hv.below hb) (hv'.below hb) (fun j hj=>ValG.keep (Qg (hb.mono hB)) (Nat.le_refl _) hlo (hV j hj)) (fun j hj=>ValG.keep (Qg (hb.mono hB')) (Nat.le_refl _) hlo' (hV' j hj)) (Nat.le_trans hB hb.size) (Nat.le_trans hB' hb.size)
 obtain ⟨a,cap,rfl,_⟩:=hi
 obtain ⟨a',cap',rfl,_⟩:=hi'
 obtain ⟨_,_,b,bap,rfl,_⟩:=hks
 obtain ⟨_,_,b',bap',rfl,_⟩:=hks'
 obtain ⟨F,hF⟩:∃F,us.length+vs.length+1=F:=⟨_,rfl⟩
 obtain ⟨J,hJ⟩:∃J,Y4 us vs=J:=⟨_,rfl⟩
 obtain ⟨M,hM⟩:∃M,(Xe us).length=M:=⟨_,rfl⟩
 obtain ⟨M',hM'⟩:∃M',(Xe vs).length=M':=⟨_,rfl⟩
 obtain ⟨Q,hQ⟩:∃Q,(Xd us).keys.length=Q:=⟨_,rfl⟩
 obtain ⟨Q',hQ'⟩:∃Q',(Xd vs).keys.length=Q':=⟨_,rfl⟩
 rw[hF,hM,hM',hQ,hQ',hJ] at HWC
 rw[hM,hQ] at HKX m1 e1⊢
 rw[hM',hQ'] at HKY m2 e2⊢
 obtain ⟨NS,hNS⟩:∃NS,Z9 us vs=NS:=⟨_,rfl⟩
 rw[hNS] at HM HWC
 clear kx ky hx hy hv hv' hV hV' p1 p2 hf hf' hM hM' hQ hQ' hE hF hJ hNS hfu hfv
 go_enter Tryz.func174,Tryz.ntmps174
 go_wp2_with fail
 refine (HKX.out.says _).mono ?_
 rintro e w1 ⟨rfl,hb1⟩
 have HB1:=Xa hb1
 clear hb1
 go_wp2_with fail
 refine (HKY.out.says _).mono ?_
 rintro e wa ⟨rfl,hba⟩
 have HBa:=Xa (HB1.out.trans (hba.mono HB1.out.size))
 clear hba
 go_wp2_with fail
 refine (HKX.out.says _).mono ?_
 rintro e wb ⟨rfl,hbb⟩
 have HBb:=Xa (HBa.out.trans (hbb.mono HBa.out.size))
 clear hbb
 go_wp2_with fail
 refine (HKY.out.says _).mono ?_
 rintro e w2 ⟨rfl,hb2⟩
 have HB2:=Xa (HBb.out.trans (hb2.mono HBb.out.size))
 clear hb2
 go_wp2_with fail
 obtain ⟨W,hW⟩:∃W,w2.alloc (.cells #[.slice b Q bap, .slice a M cap] 118)=W:=⟨_,rfl⟩
 have c0:W.cell? ⟨w2.heap.size,0,none⟩=some (.slice b Q bap):=by rw[←hW];simp
 have c1:W.cell? ⟨w2.heap.size,1,none⟩=some (.slice a M cap):=by rw[←hW];simp
 have HBD:Hid (Below w.heap.size w W.drew):=by rw[Hid,←hW];exact (HB2.out.alloc HB2.out.size _).drew
 rw[hW]
 clear hW
 cases ok:okB NS
 ·go_region_law
   (first
    |(refine Qh (by rfl) 191 _ _ _ _ (by rfl) (.agg #[.slice b Q bap, .slice a M cap]) (.agg #[.slice b' Q' bap', .slice a' M' cap']) (by rfl) (by rfl) (Xs9 _ _) (HWC.out W.drew HBD.out) ?_;rintro e w4 ⟨k2,i2,T,rfl,⟨a5,c5,rfl⟩,⟨a6,c6,rfl⟩,htr,hlay,hfit,hb4⟩;refine ⟨_,rfl, ?_⟩)
    |(refine Zv (by rfl) 142 _ _ (by rfl) (.iface 118 (.agg #[.slice a5 J c5, .slice a6 J c6])) (by rfl) (Qx _) (J7 F T _ NS w4 htr hlay (Nat.le_trans hfit.1 (by omega)) (fun i hi=>(hfit.2 i hi).1) (HE.out.below (HBD.out.trans (hb4.mono HBD.out.size))) ok) ?_;rintro e w5 ⟨te,xe,rfl,hrs,hb5⟩;refine ⟨_,rfl, ?_⟩))
  all_goals
   have HB4:=Xa (HBD.out.trans (hb4.mono HBD.out.size))
   have HB5:=Xa (HB4.out.trans (hb5.mono HB4.out.size))
   clear hb4 hb5 htr hlay hfit
   go_wp2_with fail
   go_ret2
   exact ⟨Or.inr ⟨by rw[HM.out.2,ok];rfl,_,rfl,by rw[HM.out.1,ok];exact ⟨te,xe,rfl,hrs⟩⟩,HB5.out⟩
 ·go_region_law
   (first
    |(refine Qh (by rfl) 191 _ _ _ _ (by rfl) (.agg #[.slice b Q bap, .slice a M cap]) (.agg #[.slice b' Q' bap', .slice a' M' cap']) (by rfl) (by rfl) (Xs9 _ _) (HWC.out W.drew HBD.out) ?_;rintro e w4 ⟨k2,i2,T,rfl,⟨a5,c5,rfl⟩,⟨a6,c6,rfl⟩,htr,hlay,hfit,hb4⟩;refine ⟨_,rfl, ?_⟩)
    |(refine Zv (by rfl) 142 _ _ (by rfl) (.iface 118 (.agg #[.slice a5 J c5, .slice a6 J c6])) (by rfl) (Qx _) (Jo F T _ NS w4 htr hlay (Nat.le_trans hfit.1 (by omega)) (fun i hi=>(hfit.2 i hi).1) (HE.out.below (HBD.out.trans (hb4.mono HBD.out.size))) ok) ?_;rintro e w5 ⟨rfl,hb5⟩;refine ⟨_,rfl, ?_⟩))
  all_goals
   have HB4:=Xa (HBD.out.trans (hb4.mono HBD.out.size))
   have HB5:=Xa (HB4.out.trans (hb5.mono HB4.out.size))
   have HTR:=Xa (TreeAt.keep (fun k hk=>hb5.block k hk) hb5.size htr)
   have HLY:=Xa hlay
   clear hb4 hb5 htr hlay hfit
   go_wp2_with fail
   go_ret2
   exact ⟨Or.inl ⟨by rw[HM.out.1,ok];rfl,F,T,_,_,rfl,HTR.out,by rw[HM.out.2,ok];exact HLY.out⟩,HB5.out⟩

theorem Xzy (us vs:List VN) (h1:okB us=true) (h2:okB vs=true) (hfu:∀i,i<us.length→Fits (Xb us i)) (hfv:∀i,i<vs.length→Fits (Xb vs i)) (lo B lo' B':Nat) (hlo:lo≤B) (hlo':lo'≤B') (x y:Value) (w:World) (hx:ValG lo B w us us.length (us.length-1) x) (hy:ValG lo' B' w vs vs.length (vs.length-1) y) (hB:B≤w.heap.size) (hB':B'≤w.heap.size) (hE:Errs2 w):
  Calls Tryz.prog 174 #[x,y] w fun e w'=>Jd (Qn us vs) (Zu us vs) e w'∧Below w.heap.size w w':=by
 by_cases k1:(Xd us).kind=1
 ·exact Xtq us vs h1 h2 lo B lo' B' hlo hlo' x y w hx hy hB hB' hE k1
 by_cases k2:(Xd vs).kind=1
 ·exact Xqy us vs h1 h2 lo B lo' B' hlo hlo' x y w hx hy hB hB' hE k1 k2
 by_cases k:(Xd us).kind=(Xd vs).kind
 case neg=>exact Xtr us vs h1 h2 lo B lo' B' hlo hlo' x y w hx hy hB hB' hE k1 k2 k
 case pos=>
 rcases J3 h1 with q|q|⟨q,_,_⟩|⟨q,_⟩|⟨q,_⟩|⟨q,_⟩
 ·exact absurd q k1
 ·exact Xts us vs h1 h2 lo B lo' B' hlo hlo' x y w hx hy hB hB' hE q (by omega)
 ·exact X1l us vs h1 h2 lo B lo' B' hlo hlo' x y w hx hy hB hB' hE q (by omega)
 ·exact Xy6 us vs h1 h2 lo B lo' B' hlo hlo' x y w hx hy hB hB' hE q (by omega)
 ·exact Xwy us vs h1 h2 lo B lo' B' hlo hlo' x y w hx hy hB hB' hE hfu hfv q (by omega)
 ·exact X12 us vs h1 h2 lo B lo' B' hlo hlo' x y w hx hy hB hB' hE hfu hfv q (by omega)

theorem Rep.val {w:World} {ns:List VN} {x:Value} (h:Rep w ns x) (lo:Nat):ValG lo w.heap.size w ns ns.length (ns.length-1) x:=by
 have p:=(Xp h.1).1
 have hg:=(V7 h.1 ns.length (ns.length-1) (by omega) (by omega)).full
 have e:=Xlj h.1 hg (K4 h.1)
 have ht:=h.2
 rw[←e] at ht
 exact TreeAt.val (ht.less hg)
theorem Xln {c:Int} {ns:List VN} {w w':World} {e:Ending} (hok:c=0→okB ns=true) (h:Jd c ns e w') (hb:Below w.heap.size w w'):Qa (c,ns) w e w':=by
 refine ⟨?_,hb⟩
 rcases h with ⟨h1,f,t,ty,xv,he,ht,hl⟩|⟨h1,v,he,hr⟩
 ·exact .inl ⟨h1,_,he,Rep.of ht hl (hok h1)⟩
 ·refine .inr ⟨fun e0=> ?_,v,he,hr⟩
  have h2:=hok e0
  subst h1
  have:=(Xp h2).1.1
  simp at this
theorem X04 (us vs:List VN) (x y:Value) (w:World) (hx:Rep w us x) (hy:Rep w vs y) (hE:Errs2 w):Calls Tryz.prog 174 #[x,y] w (Qa (Qn us vs,Zu us vs) w):=
 (Xzy us vs hx.1 hy.1 (Ul hx.1) (Ul hy.1) 0 w.heap.size 0 w.heap.size (Nat.zero_le _) (Nat.zero_le _) x y w (hx.val 0) (hy.val 0) (Nat.le_refl _) (Nat.le_refl _) hE).mono fun e w' h=>Xln Xkd h.1 h.2
theorem Xxo (us vs:List VN) (x y:Value) (w:World) (hx:Rep w us x) (hy:Rep w vs y) (hE:Errs2 w):Calls Tryz.prog 175 #[x,y] w (Qa (V6 us vs,Kn us vs) w):=
 (Xvy us vs hx.1 hy.1 0 w.heap.size 0 w.heap.size (Nat.zero_le _) (Nat.zero_le _) x y w (hx.val 0) (hy.val 0) (Nat.le_refl _) (Nat.le_refl _) hE).mono fun e w' h=>Xln Xok h.1 h.2
theorem Xo0 (us vs:List VN) (x y:Value) (w:World) (hx:Rep w us x) (hy:Rep w vs y):Calls Tryz.prog 194 #[x,y] w fun e w'=>e= .returned (.int .i64 (Yt us vs))∧Below w.heap.size w w':=by
 have p1:=(Xp hx.1).1
 have p2:=(Xp hy.1).1
 rw[Xan hx.1 hy.1]
 exact Xfy us vs (Xgo hx.1) (Xgo hy.1) 0 w.heap.size 0 w.heap.size (Nat.zero_le _) (Nat.zero_le _) us.length vs.length (us.length-1) (vs.length-1) x y w (by omega) (by omega) (hx.val 0) (hy.val 0) (Nat.le_refl _) (Nat.le_refl _)
theorem Xrx (us vs:List VN): -2≤Yt us vs∧Yt us vs≤1:=by
 unfold Yt
 split
 ·have:=Xxr us vs us.length (us.length-1) (vs.length-1);omega
 ·omega
structure Holds (K:FuncId) (g:Int→Bool):Prop where
 enter:∀o w,(callFunc K (#[o]++ #[])).run Tryz.prog w= .ok (.enter K (#[o]++ #[])) w
 says:∀o w,-2≤o→o≤1→Calls Tryz.prog K (#[.int .i64 o]++ #[]) w fun e w'=>e= .returned (.bool (g o))∧w'=w
theorem X05:Holds 177 (fun o=>decide (o=0)):=⟨fun o w=>by kernel_rfl,fun o w h1 h2=>by
 show Calls Tryz.prog 177 #[.int .i64 o] w _
 go_enter Tryz.func177,Tryz.ntmps177
 go_wp2_with fail
 go_ret
 exact ⟨by first|rfl|simp,rfl⟩⟩
theorem X06:Holds 178 (fun o=> !decide (o=0)):=⟨fun o w=>by kernel_rfl,fun o w h1 h2=>by
 show Calls Tryz.prog 178 #[.int .i64 o] w _
 go_enter Tryz.func178,Tryz.ntmps178
 go_wp2_with fail
 go_ret
 exact ⟨by first|rfl|simp,rfl⟩⟩
theorem X07:Holds 179 (fun o=>decide (o<0)):=⟨fun o w=>by kernel_rfl,fun o w h1 h2=>by
 show Calls Tryz.prog 179 #[.int .i64 o] w _
 go_enter Tryz.func179,Tryz.ntmps179
 go_wp2_with fail
 go_ret
 exact ⟨by first|rfl|simp,rfl⟩⟩
theorem X08:Holds 180 (fun o=>decide (o≤0)):=⟨fun o w=>by kernel_rfl,fun o w h1 h2=>by
 show Calls Tryz.prog 180 #[.int .i64 o] w _
 go_enter Tryz.func180,Tryz.ntmps180
 go_wp2_with fail
 go_ret
 exact ⟨by first|rfl|simp,rfl⟩⟩
theorem X09 (a b:Value) (w:World):(callFunc 194 #[a,b]).run Tryz.prog w= .ok (.enter 194 #[a,b]) w:=by kernel_rfl
theorem Xuw (a:Value) (w:World):(callFunc 158 #[a]).run Tryz.prog w= .ok (.enter 158 #[a]) w:=by kernel_rfl
set_option maxRecDepth 100000 in
theorem Xo1 {K:FuncId} {g:Int→Bool} (hK:Holds K g) (us vs:List VN) (x y:Value) (hb:Nat) (w:World) (hx:Rep w us x) (hy:Rep w vs y) (hc:w.cell? ⟨hb,0,none⟩=some (.func (.func K) #[] #[])):
  Calls Tryz.prog 193 #[x,y, .pointer (some ⟨hb,0,none⟩)] w (Qa (0,Qd (g (Yt us vs))) w):=by
 have HK:=Xa hK
 have HCM:Hid (∀w',Below w.heap.size w w'→Calls Tryz.prog 194 #[x,y] w' fun e w''=>e= .returned (.int .i64 (Yt us vs))∧Below w'.heap.size w' w''):=fun w' h=>Xo0 us vs x y w' (hx.below h) (hy.below h)
 obtain ⟨tx,xv,rfl⟩:=hx.iface
 obtain ⟨ty,yv,rfl⟩:=hy.iface
 have hr:=Xrx us vs
 obtain ⟨o,ho⟩:∃o,Yt us vs=o:=⟨_,rfl⟩
 rw[ho] at hr HCM⊢
 obtain ⟨hr1,hr2⟩:=hr
 have hlt:=X8 hc
 clear hK hx hy ho
 go_enter Tryz.func193,Tryz.ntmps193
 go_wp2_with fail
 go_region_law
  (first
   |(refine Qh (by rfl) 194 _ _ _ _ (by rfl) (.iface tx xv) (.iface ty yv) (by rfl) (by rfl) (X09 _ _) (HCM.out _ (by first|exact Below.refl _ _|exact (Below.refl _ _).drew)) ?_;rintro e w3 ⟨rfl,hb3⟩;have hS1:=(Xc hb3 (by simpa using hlt)).trans hc;refine ⟨_,rfl, ?_⟩)
   |(refine Xvi (by rfl) K #[] _ _ _ (by rfl) (.int .i64 o) (by rfl) (by rfl) (HK.out.enter _) (HK.out.says o _ hr1 hr2) ?_;rintro e w4 ⟨rfl,rfl⟩;refine ⟨_,rfl, ?_⟩)
   |(refine Zv (by rfl) 158 _ _ (by rfl) (.bool (g o)) (by rfl) (Xuw _) (Xhj _ _) ?_;rintro e w5 ⟨rfl,rfl⟩;refine ⟨_,rfl, ?_⟩))
 all_goals
  have HB:Hid (Below w.heap.size w w5):=(Below.drew (Below.refl w.heap.size w)).trans hb3
  clear hb3 hS1
  go_wp2_with fail
  all_goals
   go_ret2
   first
    |exact ⟨.inl ⟨rfl,_,rfl,Xib true _⟩,HB.out⟩
    |exact ⟨.inl ⟨rfl,_,rfl,Xib false _⟩,HB.out⟩
structure MerOk (Z E O:Nat) (w0:World) (F:FuncId) (caps:Array Value) (kind:Int):Prop where
 enter:∀a b w,(callFunc F (#[a,b]++caps)).run Tryz.prog w= .ok (.enter F (#[a,b]++caps)) w
 says:∀w,FrH Z E O w0 w→Errs2 w→∀us vs x y,Rep w us x→Rep w vs y→Calls Tryz.prog F (#[x,y]++caps) w (Qa (Xs kind us vs) w)
theorem MerOk.on {Z E O:Nat} {w0 w1:World} {F:FuncId} {caps:Array Value} {kind:Int} (h:MerOk Z E O w0 F caps kind) (hf:FrH Z E O w0 w1):MerOk Z E O w1 F caps kind:=⟨h.enter,fun w hw=>h.says w (hf.trans hw)⟩
theorem X1a (Z E O:Nat) (w0:World):MerOk Z E O w0 174 #[] 15:=⟨fun a b w=>by kernel_rfl,fun w _ hE us vs x y hx hy=>X04 us vs x y w hx hy hE⟩
theorem Xxp (Z E O:Nat) (w0:World):MerOk Z E O w0 175 #[] 16:=⟨fun a b w=>by kernel_rfl,fun w _ hE us vs x y hx hy=>Xxo us vs x y w hx hy hE⟩
theorem Xag {K:FuncId} {g:Int→Bool} (hK:Holds K g) {kind:Int} (hk:∀us vs,Xs kind us vs=(0,Qd (g (Yt us vs)))) (Z E O:Nat) (w0:World) (hb:Nat) (h1:hb≠E) (h2:hb≠O) (hc:w0.cell? ⟨hb,0,none⟩=some (.func (.func K) #[] #[])):
  MerOk Z E O w0 193 #[.pointer (some ⟨hb,0,none⟩)] kind:=⟨fun a b w=>by kernel_rfl,fun w hf hE us vs x y hx hy=>by
 rw[hk]
 exact Xo1 hK us vs x y hb w hx hy (hf.cell hb 0 _ h1 h2 (by intro e;cases e) hc)⟩
theorem Xah (K:FuncId) (w:World):Calls Tryz.prog 176 #[.func (.func K) #[] #[]] w fun e w'=>e= .returned (.func (.func 193) #[] #[.pointer (some ⟨w.heap.size,0,none⟩)])∧Below w.heap.size w w'∧w'.cell? ⟨w.heap.size,0,none⟩=some (.func (.func K) #[] #[]):=by
 go_enter Tryz.func176,Tryz.ntmps176
 go_wp2_with fail
 go_ret
 exact ⟨rfl,(Below.refl _ _).alloc (Nat.le_refl _) _,by simp⟩
set_option maxRecDepth 100000 in
theorem Xo2 (kind:Int) (h1:15≤kind) (h2:kind≤20) (Z E O:Nat) (w:World) (hE:E<w.heap.size) (hO:O<w.heap.size):
  Calls Tryz.prog 147 #[.int .i64 kind] w fun e w'=>∃F caps,e= .returned (.func (.func F) #[] caps)∧MerOk Z E O w' F caps kind∧Below w.heap.size w w':=by
 have hk:kind=15∨kind=16∨kind=17∨kind=18∨kind=19∨kind=20:=by omega
 have q17:∀us vs,Xs 17 us vs=(0,Qd ((fun o=>decide (o=0)) (Yt us vs))):=fun us vs=>rfl
 have q18:∀us vs,Xs 18 us vs=(0,Qd ((fun o=> !decide (o=0)) (Yt us vs))):=fun us vs=>rfl
 have q19:∀us vs,Xs 19 us vs=(0,Qd ((fun o=>decide (o<0)) (Yt us vs))):=fun us vs=>rfl
 have q20:∀us vs,Xs 20 us vs=(0,Qd ((fun o=>decide (o≤0)) (Yt us vs))):=fun us vs=>rfl
 rcases hk with rfl|rfl|rfl|rfl|rfl|rfl
 ·clear q17 q18 q19 q20
  go_enter Tryz.func147,Tryz.ntmps147
  go_wp2_with fail
  go_ret
  exact ⟨_,_,rfl,X1a _ _ _ _,Below.refl _ _⟩
 ·clear q17 q18 q19 q20
  go_enter Tryz.func147,Tryz.ntmps147
  go_wp2_with fail
  go_ret
  exact ⟨_,_,rfl,Xxp _ _ _ _,Below.refl _ _⟩
 ·have Q:=Xa q17
  clear q17 q18 q19 q20
  go_enter Tryz.func147,Tryz.ntmps147
  go_wp2_with fail
  refine (Xah _ _).mono ?_
  rintro e w1 ⟨rfl,hb,hc⟩
  have HB:=Xa hb
  have HC:=Xa hc
  clear hb hc
  go_wp2_with fail
  go_ret
  exact ⟨_,_,rfl,Xag X05 Q.out _ _ _ _ _ (by omega) (by omega) HC.out,HB.out⟩
 ·have Q:=Xa q18
  clear q17 q18 q19 q20
  go_enter Tryz.func147,Tryz.ntmps147
  go_wp2_with fail
  refine (Xah _ _).mono ?_
  rintro e w1 ⟨rfl,hb,hc⟩
  have HB:=Xa hb
  have HC:=Xa hc
  clear hb hc
  go_wp2_with fail
  go_ret
  exact ⟨_,_,rfl,Xag X06 Q.out _ _ _ _ _ (by omega) (by omega) HC.out,HB.out⟩
 ·have Q:=Xa q19
  clear q17 q18 q19 q20
  go_enter Tryz.func147,Tryz.ntmps147
  go_wp2_with fail
  refine (Xah _ _).mono ?_
  rintro e w1 ⟨rfl,hb,hc⟩
  have HB:=Xa hb
  have HC:=Xa hc
  clear hb hc
  go_wp2_with fail
  go_ret
  exact ⟨_,_,rfl,Xag X07 Q.out _ _ _ _ _ (by omega) (by omega) HC.out,HB.out⟩
 ·have Q:=Xa q20
  clear q17 q18 q19 q20
  go_enter Tryz.func147,Tryz.ntmps147
  go_wp2_with fail
  refine (Xah _ _).mono ?_
  rintro e w1 ⟨rfl,hb,hc⟩
  have HB:=Xa hb
  have HC:=Xa hc
  clear hb hc
  go_wp2_with fail
  go_ret
  exact ⟨_,_,rfl,Xag X08 Q.out _ _ _ _ _ (by omega) (by omega) HC.out,HB.out⟩

def Gl (E k:Nat) (o:Obj):Bool:=decide (k=E)||(decide (E<k)&&(match o with| .cells _ t _=>decide (t=25)|_=>false))
def Gm (E:Nat) (w:World):World:={w with heap:=w.heap.mapIdx fun k o=>if Gl E k o=true then .cells #[] 0 (0,0) else o}
theorem Xfp (E:Nat) (w:World):(Gm E w).heap.size=w.heap.size:=by simp[Gm]
theorem Xgm {E:Nat} {w:World} {k:Nat} {o:Obj} (h:w.heap[k]? =some o):(Gm E w).heap[k]? =some (if Gl E k o=true then .cells #[] 0 (0,0) else o):=by
 simp[Gm,Array.getElem?_mapIdx,h]
theorem Xxk {E:Nat} {w:World} {k:Nat} (h:w.heap[k]? =none):(Gm E w).heap[k]? =none:=by
 simp only[Array.getElem?_eq_none_iff] at h⊢
 rw[Xfp];exact h
theorem Xlm {E:Nat} {w:World} {b o:Nat} {v:Value} (h:(Gm E w).cell? ⟨b,o,none⟩=some v):w.cell? ⟨b,o,none⟩=some v∧∃ob,w.heap[b]? =some ob∧Gl E b ob=false:=by
 cases hb:w.heap[b]? with
 |none=>have:=Xxk (E:=E) hb;simp[World.cell?,this] at h
 | some ob =>
  have h2:=Xgm (E:=E) hb
  by_cases hi:Gl E b ob=true
  ·rw[if_pos hi] at h2
   simp[World.cell?,h2] at h
  ·rw[if_neg hi] at h2
   refine ⟨?_,ob,rfl,by simpa using hi⟩
   have e:(Gm E w).cell? ⟨b,o,none⟩=w.cell? ⟨b,o,none⟩:=World.cell?_of_block (by rw[h2,hb])
   rw[←e];exact h
theorem X3f {E:Nat} {w:World} {b o:Nat} {v:Value} {ob:Obj} (h:w.cell? ⟨b,o,none⟩=some v) (hb:w.heap[b]? =some ob) (hi:Gl E b ob=false):(Gm E w).cell? ⟨b,o,none⟩=some v:=by
 have h2:=Xgm (E:=E) hb
 rw[hi] at h2
 have e:(Gm E w).cell? ⟨b,o,none⟩=w.cell? ⟨b,o,none⟩:=World.cell?_of_block (by rw[h2,hb];rfl)
 rw[e];exact h
theorem NodesAt.cells {B B':Nat} {w w':World} {v:Value} {vs:List VN} (h:NodesAt B w v vs) (hc:∀b o u,w.cell? ⟨b,o,none⟩=some u→w'.cell? ⟨b,o,none⟩=some u) (hB:B≤B'):NodesAt B' w' v vs:=by
 obtain ⟨h1,a,cap,e,h3⟩:=h
 refine ⟨h1,a,cap,e,fun hl=> ?_⟩
 obtain ⟨b,o,ea,hbB,hx⟩:=h3 hl
 refine ⟨b,o,ea,by omega,fun i hi=> ?_⟩
 obtain ⟨ka,ki,hn⟩:=hx i hi
 refine ⟨ka,ki,hc _ _ _ hn.c0,hc _ _ _ hn.c1,hc _ _ _ hn.c2,hc _ _ _ hn.c3,hc _ _ _ hn.c4,⟨?_, ?_,hn.inn.size,hn.inn.klo,hn.inn.khi,hn.inn.nlo,hn.inn.nhi⟩⟩
 ·obtain ⟨k1,k2,a',c',e',k3⟩:=hn.inn.keys
  refine ⟨k1,k2,a',c',e',fun hp=> ?_⟩
  obtain ⟨b',o',ea',hb',hx'⟩:=k3 hp
  exact ⟨b',o',ea',by omega,fun j hj=>hc _ _ _ (hx' j hj)⟩
 ·obtain ⟨k1,k2,a',c',e',k3⟩:=hn.inn.kids
  refine ⟨k1,k2,a',c',e',fun hp=> ?_⟩
  obtain ⟨b',o',ea',hb',hx'⟩:=k3 hp
  exact ⟨b',o',ea',by omega,fun j hj=>hc _ _ _ (hx' j hj)⟩
structure NR (E:Nat) (w:World) (v:Value) (vs:List VN):Prop where
 inn:NodesAt w.heap.size (Gm E w) v vs
 ok:okB vs=true
theorem NR.nodes {E:Nat} {w:World} {v:Value} {vs:List VN} (h:NR E w v vs):NodesAt w.heap.size w v vs:=h.inn.cells (fun _ _ _ hc=>(Xlm hc).1) (Nat.le_refl _)
structure KeepN (E:Nat) (w w':World):Prop where
 size:w.heap.size≤w'.heap.size
 block:∀k o,w.heap[k]? =some o→Gl E k o=false→w'.heap[k]? =some o
theorem KeepN.refl (E:Nat) (w:World):KeepN E w w:=⟨Nat.le_refl _,fun _ _ h _=>h⟩
theorem KeepN.trans {E:Nat} {a b c:World} (h:KeepN E a b) (k:KeepN E b c):KeepN E a c:=⟨Nat.le_trans h.size k.size,fun x o hx hi=>k.block x o (h.block x o hx hi) hi⟩
theorem NR.keep {E:Nat} {w w':World} {v:Value} {vs:List VN} (h:NR E w v vs) (hk:KeepN E w w'):NR E w' v vs:=
 ⟨h.inn.cells (fun b o u hc => by
  obtain ⟨h1,ob,h2,h3⟩:=Xlm hc
  have h4:=hk.block b ob h2 h3
  exact X3f ((World.cell?_of_block (by rw[h4,h2])).trans h1) h4 h3) hk.size,h.ok⟩
theorem X03 {E k:Nat} {o:Obj} (h:Gl E k o=false):k≠E:=by
 intro e
 subst e
 simp[Gl] at h
theorem ButE.keepN {E:Nat} {w w':World} (h:ButE E w w'):KeepN E w w':=⟨h.size,fun k o hk hi=>(h.block k (Array.getElem?_eq_some_iff.1 hk).1 (X03 hi)).trans hk⟩
theorem Below.keepN {E:Nat} {w w':World} (h:Below w.heap.size w w'):KeepN E w w':=(ButE.of_below (E:=E) h).keepN
theorem Xoy {E k:Nat} {o:Obj} (h:k<E):Gl E k o=false:=by
 unfold Gl
 rw[decide_eq_false (by omega),decide_eq_false (by omega)]
 rfl
theorem KeepN.below {E B:Nat} {w w':World} (h:KeepN E w w') (hB:B≤E) (hw:B≤w.heap.size) (h1:w'.os=w.os) (h2:w'.tape=w.tape) (h3:w'.output=w.output):Below B w w':=
 ⟨h1, h2, h3, h.size, fun k hk => by
  cases e:w.heap[k]? with
  |none=>have:=Array.getElem?_eq_none_iff.1 e;omega
  |some o=>exact h.block k o e (Xoy (by omega))⟩
theorem NR.old {E B:Nat} {w:World} {v:Value} {vs:List VN} (h:NodesAt B w v vs) (ok:okB vs=true) (hB:B≤E) (hw:B≤w.heap.size):NR E w v vs:=by
 have hb:Below B w (Gm E w):=⟨rfl,rfl,rfl,by rw[Xfp];exact Nat.le_refl _,fun k hk=>by
  cases e:w.heap[k]? with
  |none=>have:=Array.getElem?_eq_none_iff.1 e;omega
  |some o=>rw[Xgm e,Xoy (by omega)];rfl⟩
 exact ⟨(h.below hb).wide hw,ok⟩
theorem Xhw {E base e s n:Nat} {w:World} {v:Value} {xs:List Value} (h:w.ownsRow base e s v n xs) (hE:E<base) (he:e≠25):(Gm E w).ownsRow base e s v n xs:=by
 refine ⟨h.1, ?_⟩
 rcases h.2 with hn|⟨g,cap,cur,rfl,hg,hgg,rest⟩
 ·exact .inl hn
 ·refine .inr ⟨g,cap,cur,rfl,hg, ?_,rest⟩
  rw[Xgm hgg]
  have:Gl E g (.cells cur e (0,0))=false:=by
   unfold Gl
   rw[decide_eq_false (by omega:¬g=E)]
   simp[he]
  rw[this];rfl
theorem NR.made {E base:Nat} {w:World} {v:Value} {vs:List VN} {KV IV:Nat→Value} (h:Nest base w v vs KV IV) (ok:okB vs=true) (hE:E<base):NR E w v vs:=by
 have hn:Nest base (Gm E w) v vs KV IV:=⟨Xhw h.row hE (by decide),fun i hi=>Xhw (h.rk i hi) hE (by decide),fun i hi=>Xhw (h.ri i hi) hE (by decide),h.dkk,h.dii⟩
 have:=hn.nodes (by have:=(Xp ok).1;omega) (Ul ok)
 rw[Xfp] at this
 exact ⟨this,ok⟩
theorem NR.slice {E:Nat} {w:World} {v:Value} {vs:List VN} (h:NR E w v vs):∃a c,v= .slice a vs.length c:=by
 obtain ⟨_,a,c,e,_⟩:=h.inn
 exact ⟨a,c,e⟩
structure LR (E base:Nat) (w:World) (sv:Value) (xs:List Value) (l:List (List VN)):Prop where
 row:w.ownsRow base 25 1 sv l.length xs
 lo:E<base
 inn:∀j,j<l.length→NR E w (xs.getD j undef) (Xl l j)
theorem LR.len {E base:Nat} {w:World} {sv:Value} {xs:List Value} {l:List (List VN)} (h:LR E base w sv xs l):xs.length=l.length:=by simpa using h.row.1
theorem LR.slice {E base:Nat} {w:World} {sv:Value} {xs:List Value} {l:List (List VN)} (h:LR E base w sv xs l):∃a c,sv= .slice a l.length c:=by
 rcases h.row.2 with ⟨e,hn⟩|⟨g,cap,cur,e,_⟩
 ·rw[hn];exact ⟨_,_,e⟩
 ·exact ⟨_,_,e⟩
theorem LR.nil {E base:Nat} {w:World} (h:E<base):LR E base w (.slice none 0 0) [] []:=⟨World.ownsRow_nil _ _ _ _,h,fun j hj=>absurd hj (by simp)⟩
theorem LR.low {E base base':Nat} {w:World} {sv:Value} {xs:List Value} {l:List (List VN)} (h:LR E base w sv xs l) (hb:base'≤base) (hE:E<base'):LR E base' w sv xs l:=by
 refine ⟨⟨h.row.1, ?_⟩,hE,h.inn⟩
 rcases h.row.2 with hn|⟨g,cap,cur,e,hg,rest⟩
 ·exact .inl hn
 ·exact .inr ⟨g,cap,cur,e,by omega,rest⟩
theorem LR.oks {E base:Nat} {w:World} {sv:Value} {xs:List Value} {l:List (List VN)} (h:LR E base w sv xs l):∀j,j<l.length→okB (Xl l j)=true:=fun j hj=>(h.inn j hj).ok
theorem LR.ones {E base:Nat} {w:World} {sv:Value} {xs:List Value} {l:List (List VN)} (h:LR E base w sv xs l):∀u∈xs,u.oneCell'=true:=by
 intro u hu
 obtain ⟨j,hj,rfl⟩:=List.mem_iff_getElem.1 hu
 obtain ⟨a,c,e⟩:=(h.inn j (by rw[←h.len];exact hj)).slice
 rw[List.getD_eq_getElem?_getD,List.getElem?_eq_getElem hj] at e
 have e':xs[j]= .slice a (Xl l j).length c:=e
 rw[e'];rfl
theorem LR.cell {E base:Nat} {w:World} {a:Option Addr} {n c:Nat} {xs:List Value} {l:List (List VN)} (h:LR E base w (.slice a n c) xs l) {j:Nat} (hj:j<l.length):∃b ax cx,a=some ⟨b,0,none⟩∧base≤b∧w.cell? ⟨b,j,none⟩=some (.slice ax (Xl l j).length cx)∧NR E w (.slice ax (Xl l j).length cx) (Xl l j):=by
 obtain ⟨ax,cx,e⟩:=(h.inn j hj).slice
 have hin:=h.inn j hj
 rw[e] at hin
 have hl:=h.len
 rcases h.row.2 with ⟨e1,hn⟩|⟨g,cap,cur,e1,hg,hgg,hc1,hc2,hc3,hc4⟩
 ·omega
 ·cases e1
  refine ⟨g,ax,cx,rfl,hg, ?_,hin⟩
  rw[Xg hgg,←Array.getElem?_toList]
  have h5:(cur.toList.take (l.length *1))[j]? =xs[j]? :=by rw[hc4]
  rw[List.getElem?_take,if_pos (by omega)] at h5
  rw[h5,List.getElem?_eq_getElem (by omega)]
  rw[List.getD_eq_getElem?_getD,List.getElem?_eq_getElem (by omega)] at e
  exact congrArg some e
theorem LR.src {E base:Nat} {w:World} {a:Option Addr} {n c:Nat} {xs:List Value} {l:List (List VN)} (h:LR E base w (.slice a n c) xs l):0<n→∃ad,a=some ad∧∀j u,xs[j]? =some u→w.cell? (ad.add j)=some u:=by
 intro hp
 rcases h.row.2 with ⟨e1,hn⟩|⟨g,cap,cur,e1,hg,hgg,hc1,hc2,hc3,hc4⟩
 ·cases e1;omega
 ·cases e1
  refine ⟨_,rfl,fun j u hj=> ?_⟩
  rw[Addr.add_lit,Nat.zero_add,Xg hgg,←Array.getElem?_toList]
  rw[←hc4,List.getElem?_take] at hj
  split at hj
  ·exact hj
  ·cases hj
structure FrX (E:Nat) (G:Option Nat) (w w':World):Prop where
 os:w'.os=w.os
 tape:w'.tape=w.tape
 output:w'.output=w.output
 keep:KeepN E w w'
 block:∀k,k<w.heap.size→k≠E→some k≠G→w'.heap[k]? =w.heap[k]?
theorem FrX.refl (E:Nat) (G:Option Nat) (w:World):FrX E G w w:=⟨rfl,rfl,rfl, .refl _ _,fun _ _ _ _=>rfl⟩
theorem ButE.frx {E:Nat} {w w':World} (h:ButE E w w') (G:Option Nat):FrX E G w w':=⟨h.os,h.tape,h.output,h.keepN,fun k hk hn _=>h.block k hk hn⟩
theorem FrX.trans {E:Nat} {G H:Option Nat} {a b c:World} (h:FrX E G a b) (k:FrX E H b c) (hH:H=G∨∀x,H=some x→a.heap.size≤x):FrX E G a c:=
 ⟨k.os.trans h.os, k.tape.trans h.tape, k.output.trans h.output, h.keep.trans k.keep, fun x hx h1 h2 => (k.block x (Nat.lt_of_lt_of_le hx h.keep.size) h1 (fun e => by
  rcases hH with rfl|hH
  ·exact h2 e
  ·have:=hH x e.symm;omega)).trans (h.block x hx h1 h2)⟩
theorem FrX.toBut {E:Nat} {G:Option Nat} {a b c:World} (h:ButE E a b) (k:FrX E G b c) (hG:∀x,G=some x→a.heap.size≤x):ButE E a c:=
 ⟨k.os.trans h.os,k.tape.trans h.tape,k.output.trans h.output,Nat.le_trans h.size k.keep.size,fun x hx hn=>(k.block x (Nat.lt_of_lt_of_le hx h.size) hn (fun e=>by have:=hG x e.symm;omega)).trans (h.block x hx hn)⟩
theorem Xfq {E base n:Nat} {w w':World} {v:Value} {xs:List Value} (hown:w.ownsRow base 25 1 v n xs) (hE:E<base) (hg:w.grownBy w' v.ownBlock):FrX E v.ownBlock w w':=by
 refine ⟨hg.os,hg.tape,hg.output,⟨hg.size,fun k o hk hi=> ?_⟩,fun k hk _ hn=>hg.block k hk hn⟩
 refine (hg.block k (Array.getElem?_eq_some_iff.1 hk).1 (fun e=> ?_)).trans hk
 rcases hown.2 with ⟨rfl,_⟩|⟨g,cap,cur,rfl,hgb,hgg,_⟩
 ·simp[Value.ownBlock] at e
 ·simp[Value.ownBlock] at e
  subst e
  rw[hgg] at hk
  cases hk
  simp[Gl] at hi
  omega
theorem LR.keepX {E base:Nat} {G:Option Nat} {w w':World} {sv:Value} {xs:List Value} {l:List (List VN)} (h:LR E base w sv xs l) (hf:FrX E G w w') (hG:sv.ownBlock=none∨sv.ownBlock≠G):LR E base w' sv xs l:=by
 refine ⟨⟨h.row.1, ?_⟩,h.lo,fun j hj=>(h.inn j hj).keep hf.keep⟩
 rcases h.row.2 with hn|⟨g,cap,cur,e,hg,hgg,rest⟩
 ·exact .inl hn
 ·subst e
  have:=h.lo
  exact .inr ⟨g,cap,cur,rfl,hg,(hf.block g (Zo hgg) (by omega) (fun e=>by
   rcases hG with hG|hG
   ·simp[Value.ownBlock] at hG
   ·exact hG (by simpa [Value.ownBlock] using e))).trans hgg,rest⟩
theorem LR.keep {E base:Nat} {w w':World} {sv:Value} {xs:List Value} {l:List (List VN)} (h:LR E base w sv xs l) (hb:ButE E w w'):LR E base w' sv xs l:=by
 refine h.keepX (hb.frx none) ?_
 cases e:sv.ownBlock with
 |none=>exact .inl rfl
 |some x=>exact .inr (by simp)
theorem LR.keepB {E base:Nat} {w w':World} {sv:Value} {xs:List Value} {l:List (List VN)} (h:LR E base w sv xs l) (hb:Below w.heap.size w w'):LR E base w' sv xs l:=h.keep (.of_below hb)
theorem Xi1 {l m:List (List VN)} {j:Nat} (h:j<l.length):Xl (l++m) j=Xl l j:=by
 unfold Xl;rw[List.getD_eq_getElem?_getD,List.getD_eq_getElem?_getD,List.getElem?_append_left h]
theorem Xi2 {l m:List (List VN)} {j:Nat} (h:l.length≤j):Xl (l++m) j=Xl m (j-l.length):=by
 unfold Xl;rw[List.getD_eq_getElem?_getD,List.getD_eq_getElem?_getD,List.getElem?_append_right h]
theorem LR.append {E base:Nat} {w w':World} {sv v':Value} {xs ys:List Value} {l m:List (List VN)} (h:LR E base w sv xs l) (hl:ys.length=m.length) (hm:∀j,j<m.length→NR E w (ys.getD j undef) (Xl m j)) (hown:w'.ownsRow base 25 1 v' (l.length+m.length) (xs++ys)) (hg:w.grownBy w' sv.ownBlock):LR E base w' v' (xs++ys) (l++m)∧FrX E sv.ownBlock w w':=by
 have hf:=Xfq h.row h.lo hg
 have hx:=h.len
 refine ⟨⟨by rw[List.length_append];exact hown,h.lo,fun j hj=> ?_⟩,hf⟩
 by_cases e:j<l.length
 ·rw[Xi1 e,List.getD_eq_getElem?_getD,List.getElem?_append_left (by omega),←List.getD_eq_getElem?_getD]
  exact (h.inn j e).keep hf.keep
 ·rw[List.length_append] at hj
  rw[Xi2 (by omega),List.getD_eq_getElem?_getD,List.getElem?_append_right (by omega),←List.getD_eq_getElem?_getD,hx]
  exact (hm (j-l.length) (by omega)).keep hf.keep
theorem LR.rows {E base:Nat} {w:World} {sv:Value} {xs:List Value} {l:List (List VN)} (h:LR E base w sv xs l) (hl:l.length≤1048576):U4 w.heap.size w sv l.length (Xl l):=by
 have e:xs=(List.range l.length).map fun j=>xs.getD j undef:=by
  apply List.ext_getElem?
  intro j
  by_cases hj:j<l.length
  ·rw[List.getElem?_map,List.getElem?_range hj,List.getElem?_eq_getElem (by rw[h.len];exact hj)]
   show _=some (xs.getD j undef)
   rw[List.getD_eq_getElem?_getD,List.getElem?_eq_getElem (by rw[h.len];exact hj)]
   rfl
  ·rw[List.getElem?_eq_none (by rw[h.len];omega),List.getElem?_eq_none (by simp;omega)]
 have hr:=h.row
 rw[e] at hr
 exact Xne hr hl (Nat.le_refl _) (fun j hj=>(h.inn j hj).nodes)
structure SE (B E:Nat) (fv:Value) (fs:List FN) (fu:Nat) (c:Int) (w:World):Prop where
 blk:w.heap[E]? =some (.cells #[fv, .int .i64 (fu:Int), .int .i64 c] 68 (0,0))
 nodes:FNodesAt B w fv fs
 hBE:B≤E
theorem SE.lt {B E:Nat} {fv:Value} {fs:List FN} {fu:Nat} {c:Int} {w:World} (h:SE B E fv fs fu c w):E<w.heap.size:=Zo h.blk
theorem SE.below {B E:Nat} {fv:Value} {fs:List FN} {fu:Nat} {c:Int} {w w':World} (h:SE B E fv fs fu c w) (hb:Below w.heap.size w w'):SE B E fv fs fu c w':=
 ⟨(hb.block E h.lt).trans h.blk,h.nodes.below (hb.mono (Nat.le_of_lt (Nat.lt_of_le_of_lt h.hBE h.lt))),h.hBE⟩
theorem SE.frx {B E:Nat} {fv:Value} {fs:List FN} {fu fu':Nat} {c c':Int} {G:Option Nat} {w w':World} (h:SE B E fv fs fu c w) (hf:FrX E G w w') (hb:w'.heap[E]? =some (.cells #[fv, .int .i64 (fu':Int), .int .i64 c'] 68 (0,0))):SE B E fv fs fu' c' w':=
 ⟨hb,h.nodes.below (hf.keep.below h.hBE (Nat.le_of_lt (Nat.lt_of_le_of_lt h.hBE h.lt)) hf.os hf.tape hf.output),h.hBE⟩
theorem SE.grown {B E base n:Nat} {fv:Value} {fs:List FN} {fu:Nat} {c:Int} {w w':World} {v:Value} {xs:List Value} (h:SE B E fv fs fu c w) (hown:w.ownsRow base 25 1 v n xs) (hE:E<base) (hg:w.grownBy w' v.ownBlock):SE B E fv fs fu c w':=
 h.frx (Xfq hown hE hg) ((hg.block E h.lt (fun e=>by have:=(hown.lt E e.symm).1;omega)).trans h.blk)
theorem SE.set {B E:Nat} {fv:Value} {fs:List FN} {fu:Nat} {c:Int} {w:World} (h:SE B E fv fs fu c w) (c':Int):SE B E fv fs fu c' (w.setCell ⟨E,2,none⟩ (.int .i64 c'))∧ButE E w (w.setCell ⟨E,2,none⟩ (.int .i64 c')):=by
 have hb:ButE E w (w.setCell ⟨E,2,none⟩ (.int .i64 c')):=⟨rfl,rfl,rfl,by simp,fun k _ hk=>Below.heap_setCell _ _ _ _ hk⟩
 refine ⟨h.frx (hb.frx none) ?_,hb⟩
 have:=Xct (i:=2) h.blk (.int .i64 c')
 simpa using this
theorem SE.setFu {B E:Nat} {fv:Value} {fs:List FN} {fu:Nat} {c:Int} {w:World} (h:SE B E fv fs fu c w) (k:Nat):SE B E fv fs k c (w.setCell ⟨E,1,none⟩ (.int .i64 (k:Int)))∧ButE E w (w.setCell ⟨E,1,none⟩ (.int .i64 (k:Int))):=by
 have hb:ButE E w (w.setCell ⟨E,1,none⟩ (.int .i64 (k:Int))):=⟨rfl,rfl,rfl,by simp,fun x _ hx=>Below.heap_setCell _ _ _ _ hx⟩
 refine ⟨h.frx (hb.frx none) ?_,hb⟩
 have:=Xct (i:=1) h.blk (.int .i64 (k:Int))
 simpa using this
theorem SE.cells {B E:Nat} {fv:Value} {fs:List FN} {fu:Nat} {c:Int} {w:World} (h:SE B E fv fs fu c w):w.cell? ⟨E,0,none⟩=some fv∧w.cell? ⟨E,1,none⟩=some (.int .i64 (fu:Int))∧w.cell? ⟨E,2,none⟩=some (.int .i64 c)∧w.frozen? ⟨E,1,none⟩=false∧w.frozen? ⟨E,2,none⟩=false:=
 ⟨Xg h.blk 0,Xg h.blk 1,Xg h.blk 2,by simp[World.frozen?,h.blk],by simp[World.frozen?,h.blk]⟩
def RunAns (B E M:Nat) (fv:Value) (fs:List FN) (c:Int) (l:List (List VN)) (fu:Nat) (w:World) (e:Ending) (w':World):Prop:=
 ∃sv xs m,e= .returned sv∧SE B E fv fs fu c w'∧ButE E w w'∧LR E w.heap.size w' sv xs m∧(c=0→m=l)∧m.length≤M
def Zs (B E:Nat) (fv:Value) (fs:List FN) (d:Nat):Prop:=∀(n:Nat) (v:Value) (ns:List VN) (fu:Nat) (w:World),n<fs.length→SE B E fv fs fu 0 w→NR E w v ns→fu≤d→
 Calls Tryz.prog 35 #[.pointer (some ⟨E,0,none⟩), .int .i64 n,v] w (RunAns B E (100 *(d+1)) fv fs (Xf fs d n ns fu).c (Xf fs d n ns fu).l (Xf fs d n ns fu).fu w)
end Go.Proofs.YtdjddneidbddpaaGreatDoor
