import Derived.Test.YtdjddneidbddpaaGreatDoorSMin
import Derived.Test.YtdjddneidbddpaaGreatDoorClnV
import Derived.Test.YtdjddneidbddpaaGreatDoorIParts
import Derived.Test.YtdjddneidbddpaaGreatDoorIWk
import Derived.Test.YtdjddneidbddpaaGreatDoorSeF
namespace Go.Proofs.YtdjddneidbddpaaGreatDoor
set_option linter.unusedSectionVars false
set_option maxHeartbeats 3200000
open Go.RowKit
set_option linter.unusedSimpArgs false
set_option linter.unusedVariables false
theorem Xsn {F:Nat} {kind:Int} {keys:List ByteArray} {ts:List VT} {L:Nat→List VN} (h:∀k,k<ts.length→∃vs q,okB vs=true∧q<F∧q<vs.length∧Yl ts k=Xw vs F q∧L k=Yw vs q):
  Yi (F+1) (.mk kind 0 ByteArray.empty keys ts) 0=Yn kind keys L ts.length:=by
 have hcat:∀k,k≤ts.length→X6 F 0 ts k=Yg L k∧ksT F 0 ts k=Zb L k:=by
  intro k
  induction k with
  |zero=>intro _;exact ⟨Qs _ _ _,Ja _ _ _⟩
  | succ k ih =>
   intro hk
   obtain ⟨h1,h2⟩:=ih (by omega)
   obtain ⟨vs,q,hok,hq,hql,hkt,hpl⟩:=h k (by omega)
   have e:X6 F 0 ts (k+1)=Yg L (k+1):=by
    rw[Zi F 0 (by omega),h1,hkt,Xnr hok (by omega) (by omega),Nat.zero_add,Yg,hpl]
   refine ⟨e, ?_⟩
   rw[Qy F 0 (by omega),h2,e,Nat.zero_add]
   rfl
 rw[Q1]
 obtain ⟨c1,c2⟩:=hcat _ (Nat.le_refl _)
 rw[c1,c2]
 rfl
theorem Xk6 {w:World} {base:Nat} {r:Value} {V:Nat→Value} {F n:Nat} {ts:List VT} (hn:ts.length=n) (hb:n≤1000) (hr:w.ownsRow base 52 1 r n ((List.range n).map V)) (hV:∀j,j<n→TreeAt w.heap.size w F (Yl ts j) (V j)):
  Ji w.heap.size w r ts.length (fun j u=>TreeAt w.heap.size w F (Yl ts j) u):=by
 rw[hn]
 obtain ⟨a,c,e⟩:=Xj hr
 subst e
 refine ⟨by omega,a,c,rfl,fun hp=> ?_⟩
 obtain ⟨g,cap,e,_,hlt⟩:=hr.form hp
 cases e
 refine ⟨g,rfl,hlt,fun j hj=> ?_⟩
 obtain ⟨t,x,ex⟩:=(hV j hj).iface
 refine ⟨t,x, ?_, ?_⟩
 ·rw[hr.cellAt j (by omega),List.getElem?_map,List.getElem?_range hj]
  simp only[Option.map_some,ex]
 ·rw[←ex];exact hV j hj
theorem Xik (V V':Nat→Value) (m m':Nat):(List.range m).map V++(List.range m').map V'=(List.range (m+m')).map (fun j=>if j<m then V j else V' (j-m)):=by
 apply List.ext_getElem
 ·simp
 ·intro i h1 h2
  have hi:i<m+m':=by simpa using h2
  rw[List.getElem_append]
  split
  ·rename_i h;have:i<m:=by simpa using h
   simp[this]
  ·rename_i h;have:¬i<m:=by simpa using h
   simp[this]
def Gu (us vs:List VN) (F:Nat):List VT:=(Xe us).map (fun k=>Xw us F k.toNat)++(Xe vs).map (fun k=>Xw vs F k.toNat)
theorem Xhp (us vs:List VN) (F:Nat):(Gu us vs F).length=(Xe us).length+(Xe vs).length:=by simp[Gu]
theorem Xnk (us vs:List VN) (F:Nat) {j:Nat} (h:j<(Xe us).length):Yl (Gu us vs F) j=Xw us F (Xm (Xe us) j).toNat:=by
 unfold Gu Yl Xm
 rw[List.getD_eq_getElem?_getD,List.getElem?_append_left (by simpa using h),List.getElem?_map,List.getD_eq_getElem?_getD,List.getElem?_eq_getElem h]
 rfl
theorem Xnl (us vs:List VN) (F:Nat) {j:Nat} (h:¬j<(Xe us).length) (h2:j-(Xe us).length<(Xe vs).length):Yl (Gu us vs F) j=Xw vs F (Xm (Xe vs) (j-(Xe us).length)).toNat:=by
 unfold Gu Yl Xm
 rw[List.getD_eq_getElem?_getD,List.getElem?_append_right (by simp;omega),List.getElem?_map,List.getD_eq_getElem?_getD,List.length_map,List.getElem?_eq_getElem h2]
 rfl
theorem Xzu {us vs:List VN} (h1:okB us=true) (h2:okB vs=true) {F:Nat} (hF1:us.length≤F) (hF2:vs.length≤F):Yi (F+1) (.mk 5 0 ByteArray.empty [] (Gu us vs F)) 0=G7 us vs:=by
 unfold G7
 rw[←Xhp us vs F]
 apply Xsn
 intro k hk
 rw[Xhp] at hk
 by_cases hlt:k<(Xe us).length
 ·obtain ⟨q,hq,hql⟩:=Zj h1 hlt
  refine ⟨us,q,h1,by omega,by omega, ?_, ?_⟩
  ·rw[Xnk us vs F hlt,hq];simp
  ·unfold Wl PL;rw[if_pos hlt,hq];simp
 ·obtain ⟨q,hq,hql⟩:=Zj h2 (show k-(Xe us).length<(Xe vs).length by omega)
  refine ⟨vs,q,h2,by omega,by omega, ?_, ?_⟩
  ·rw[Xnl us vs F hlt (by omega),hq];simp
  ·unfold Wl PL;rw[if_neg hlt,hq];simp
def Xdw (x:VN):Prop:=Fits x∧x.keys.length≤200∧x.kids.length≤200∧∀j,j<x.kids.length→-20000≤Xm x.kids j∧Xm x.kids j≤20000
theorem Xwg {L:Nat→List VN} {m:Nat} (hm:m≤200) (hok:∀i,i<m→okB (L i)=true) (hf:∀i,i<m→∀j,j<(L i).length→Fits (Xb (L i) j)):∀k,k≤m→∀i,i<(Yg L k).length→Xdw (Xb (Yg L k) i):=by
 intro k
 induction k with
 |zero=>intro _ i hi;simp[Yg] at hi
 | succ k ih =>
  intro hk i hi
  have hle:=Vk hok k (by omega)
  rw[Yg]
  by_cases e:i<(Yg L k).length
  ·rw[Z1 e];exact ih (by omega) i e
  ·rw[Zz (by omega)]
   rw[Vb] at hi
   rw[Xjc (by omega)]
   have hj:i-(Yg L k).length<(L k).length:=by omega
   generalize i-(Yg L k).length=j at hj
   have f:=hf k (by omega) j hj
   have kf:=Ve (hok k (by omega)) j hj
   have p1:=(Xp (hok k (by omega))).1
   have hb:∀q,q<(Yb ((Yg L k).length:Int) (Xb (L k) j)).kids.length→-20000≤Xm (Yb ((Yg L k).length:Int) (Xb (L k) j)).kids q∧Xm (Yb ((Yg L k).length:Int) (Xb (L k) j)).kids q≤20000:=by
    intro q hq
    have hq':q<(Xb (L k) j).kids.length:=by simpa [Yb] using hq
    have hr:=Zx kf.1 hq'
    have ei:Xm (Yb ((Yg L k).length:Int) (Xb (L k) j)).kids q=Xm (Xb (L k) j).kids q+((Yg L k).length:Int):=by
     rw[Zd hq,Zd hq'];simp[Yb]
    rw[ei]
    omega
   exact ⟨⟨f.keysN,f.keysS,by simpa [Yb] using f.kidsN,fun q hq=>by have:=hb q hq;omega,f.size,f.klo,f.khi,f.nlo,f.nhi⟩,Nat.le_trans kf.2.2 (by omega),by have:=kf.2.1;simp[Yb];omega,hb⟩
theorem Gh {L:Nat→List VN} {m:Nat} (hm:m≤200) (hok:∀i,i<m→okB (L i)=true) (hf:∀i,i<m→∀j,j<(L i).length→Fits (Xb (L i) j)) {kind:Int} (h1:1≤kind) (h6:kind≤6) {keys:List ByteArray} (hk:keys.length≤200) (hks:∀i,i<keys.length→(Xh keys i).size≤140737488355328):
  (Yn kind keys L m).length≤16001∧∀i,i<(Yn kind keys L m).length→Xdw (Xb (Yn kind keys L m) i):=by
 have hle:=Vk hok m (Nat.le_refl _)
 refine ⟨by unfold Yn;simp;omega,fun i hi=> ?_⟩
 unfold Yn at hi⊢
 by_cases e:i<(Yg L m).length
 ·rw[Z1 e];exact Xwg hm hok hf m (Nat.le_refl _) i e
 ·have e0:i-(Yg L m).length=0:=by simp at hi;omega
  rw[Zz (by omega),e0]
  have hb:∀j,j<(Zb L m).length→-20000≤Xm (Zb L m) j∧Xm (Zb L m) j≤20000:=by
   intro j hj
   rw[Qm] at hj
   rw[Xlw L m j hj]
   have:=Vk hok (j+1) (by omega)
   omega
  exact ⟨⟨by show keys.length≤_;omega,hks,by show (Zb L m).length≤_;rw[Qm];omega,fun j hj=>by have:=hb j hj;show-9223372036854775808≤Xm (Zb L m) j∧Xm (Zb L m) j≤9223372036854775807;omega,by show ByteArray.empty.size≤_;decide,by show-9223372036854775808≤kind;omega,by show kind≤_;omega,by show (-9223372036854775808:Int)≤0;decide,by show (0:Int)≤9223372036854775807;decide⟩,hk,by show (Zb L m).length≤200;rw[Qm];exact hm,hb⟩
theorem Xso {us vs:List VN} (h1:okB us=true) (h2:okB vs=true):∀j,j<(Xe us).length+(Xe vs).length→okB (Wl us vs j)=true:=by
 intro j hj
 unfold Wl
 split
 ·rename_i h;exact Ug (Zw h1).1 _ h
 ·rename_i h;exact Ug (Zw h2).1 _ (by omega)
theorem Xk7 {us vs:List VN} (h1:okB us=true) (h2:okB vs=true) (hf:∀i,i<us.length→Fits (Xb us i)) (hf':∀i,i<vs.length→Fits (Xb vs i)):(G7 us vs).length≤16001∧∀i,i<(G7 us vs).length→Xdw (Xb (G7 us vs) i):=by
 have p1:=Kz hf
 have p2:=Kz hf'
 have e1:Zm us=(Xe us).length:=by unfold Zm;rw[if_pos h1]
 have e2:Zm vs=(Xe vs).length:=by unfold Zm;rw[if_pos h2]
 rw[e1] at p1
 rw[e2] at p2
 refine Gh (by omega) (Xso h1 h2) (fun i hi=> ?_) (by omega) (by omega) (by simp) (fun i hi=>absurd hi (by simp))
 unfold Wl
 split
 ·rename_i h;exact (p1.2 i h).2
 ·rename_i h;exact (p2.2 _ (by omega)).2

theorem Xwh {w1 w2:World} {base:Nat} {l:List ByteArray} {V:Nat→Value} {f:Nat→Int} {m F:Nat} {T:Nat→VT} {k2 i2:Value} (hm:m≤1000) (hl:l.length=m) (hks:∀i,i<l.length→(Xh l i).size≤140737488355328)
  (hv:∀j,j<m→TreeAt w1.heap.size w1 F (T j) (V j)) (hf:Blk (RK l) (fun p=>(p:Int)) f 0 m) (hk:w2.ownsRow base 9 1 k2 m (Kx l f m)) (hi:w2.ownsRow base 52 1 i2 m (Ky V f m)) (hb:Below w1.heap.size w1 w2):
  TreeAt w2.heap.size w2 (F+1) (.mk 6 0 ByteArray.empty (Gk l f m) ((List.range m).map fun j=>T (f j).toNat)) (.iface 118 (.agg #[k2,i2])):=by
 have hp:∀j,j<m→(f j).toNat<m:=fun j hj=>by
  obtain ⟨q,q1,q2,q3⟩:=hf.1 j (Nat.zero_le _) hj
  simp only at q3
  omega
 have hkl:(Gk l f m).length=m:=by simp[Gk]
 refine Or.inr (Or.inr (Or.inr (Or.inr (Or.inr ⟨rfl,rfl,rfl,k2,i2,rfl, ?_, ?_⟩))))
 ·refine Xb7 (base:=base) ?_ (by omega) (fun i hi=> ?_)
  ·rw[hkl]
   have:(Gk l f m).map Value.string=Kx l f m:=by simp[Gk,Kx]
   rw[this];exact hk
  ·rw[hkl] at hi
   rw[Xom hi]
   exact hks _ (by have:=hp i hi;omega)
 ·refine Xk6 (V:=fun j=>V (f j).toNat) (by simp) hm hi (fun j hj=> ?_)
  have hkt:Yl ((List.range m).map fun j=>T (f j).toNat) j=T (f j).toNat:=by
   unfold Yl
   rw[List.getD_eq_getElem?_getD,List.getElem?_map,List.getElem?_range hj]
   rfl
  rw[hkt]
  exact TreeAt.keep (fun c hc=>hb.block c hc) hb.size (hv _ (hp j hj))
def Xdy (us vs:List VN) (F:Nat) (j:Nat):VT:=
 if j<(Xe vs).length then Xw vs F (Xm (Xe vs) j).toNat else Xw us F (Xm (Xe us) ((Za us vs (Xd us).keys.length).getD (j-(Xe vs).length) 0)).toNat
theorem Xbp {us vs:List VN} (h1:okB us=true) (hk1:(Xd us).kind=6) {j:Nat} (h:j<(Za us vs (Xd us).keys.length).length):(Za us vs (Xd us).keys.length).getD j 0<(Xe us).length:=by
 rw[←(Y7 h1 hk1).1]
 exact Xj9 (Xd us).keys (Xd vs).keys h
theorem Xst (us vs:List VN):Zg us vs=wkK (Xd us).keys (Xd vs).keys:=rfl
theorem Xwi {us vs:List VN} (h1:okB us=true) (h2:okB vs=true) (hk1:(Xd us).kind=6) {F:Nat} (hF1:us.length≤F) (hF2:vs.length≤F) {j:Nat} (hj:j<Y4 us vs):
  ∃ns q,okB ns=true∧q<F∧q<ns.length∧Xdy us vs F j=Xw ns F q∧J1 us vs j=Yw ns q:=by
 unfold Y4 at hj
 by_cases hlt:j<(Xe vs).length
 ·obtain ⟨q,hq,hql⟩:=Zj h2 hlt
  refine ⟨vs,q,h2,by omega,by omega, ?_, ?_⟩
  ·unfold Xdy;rw[if_pos hlt,hq];simp
  ·unfold J1 PL;rw[if_pos hlt,hq];simp
 ·obtain ⟨q,hq,hql⟩:=Zj h1 (Xbp h1 hk1 (show j-(Xe vs).length<(Za us vs (Xd us).keys.length).length by omega))
  refine ⟨us,q,h1,by omega,by omega, ?_, ?_⟩
  ·unfold Xdy;rw[if_neg hlt,hq];simp
  ·unfold J1 PL;rw[if_neg hlt,hq];simp
theorem Xzz {us vs:List VN} (h1:okB us=true) (h2:okB vs=true) (hk1:(Xd us).kind=6) (hk2:(Xd vs).kind=6) {F:Nat} (hF1:us.length≤F) (hF2:vs.length≤F) {f:Nat→Int} (hf:Blk (RK (Zg us vs)) (fun p=>(p:Int)) f 0 (Zg us vs).length):
  Yi (F+1) (.mk 6 0 ByteArray.empty (Gk (Zg us vs) f (Y4 us vs)) ((List.range (Y4 us vs)).map fun j=>Xdy us vs F (f j).toNat)) 0=Z9 us vs:=by
 have hl:=Xen (us:=us) h2 hk2
 obtain ⟨ns,ps,hs,he⟩:=Xc4 h1 h2 hk1 hk2
 have hp:∀j,j<Y4 us vs→(f j).toNat<Y4 us vs:=fun j hj=>by
  obtain ⟨q,q1,q2,q3⟩:=hf.1 j (Nat.zero_le _) (by omega)
  simp only at q3
  omega
 have hlen:((List.range (Y4 us vs)).map fun j=>Xdy us vs F (f j).toNat).length=Y4 us vs:=by simp
 rw[Xsn (L:=Xmz (J1 us vs) f) (fun k hk=> ?_),hlen,he,←Xl6 (L:=J1 us vs) hl hs hf]
 rw[hlen] at hk
 obtain ⟨ms,q,a1,a2,a3,a4,a5⟩:=Xwi h1 h2 hk1 hF1 hF2 (hp k hk)
 refine ⟨ms,q,a1,a2,a3, ?_,a5⟩
 unfold Yl
 rw[List.getD_eq_getElem?_getD,List.getElem?_map,List.getElem?_range hk]
 exact a4
theorem Xdz {us vs:List VN} (h1:okB us=true) (h2:okB vs=true) (hk1:(Xd us).kind=6) (hk2:(Xd vs).kind=6):Y4 us vs≤160:=by
 have k1:=(Zw h1).2
 have k2:=(Zw h2).2
 have hm:=(V9 (fun i=>Y5 (Xd vs).keys (Xh (Xd us).keys i)) (Xd us).keys.length).1
 have e:=(Y7 h1 hk1).1
 unfold Y4 Za
 omega
theorem Xhq {us vs:List VN} (h1:okB us=true) (h2:okB vs=true) (hk1:(Xd us).kind=6):∀j,j<Y4 us vs→okB (J1 us vs j)=true:=by
 intro j hj
 unfold Y4 at hj
 unfold J1
 split
 ·rename_i h;exact Ug (Zw h2).1 _ h
 ·rename_i h;exact Ug (Zw h1).1 _ (Xbp h1 hk1 (by omega))
theorem Xwj {us vs:List VN} (h1:okB us=true) (h2:okB vs=true) (hk1:(Xd us).kind=6) (hk2:(Xd vs).kind=6) (hfu:∀i,i<us.length→Fits (Xb us i)) (hfv:∀i,i<vs.length→Fits (Xb vs i)) {f:Nat→Int} (hf:Blk (RK (Zg us vs)) (fun p=>(p:Int)) f 0 (Zg us vs).length)
  (hs1:∀i,i<(Zg us vs).length→(Xh (Zg us vs) i).size≤140737488355328):(Z9 us vs).length≤16001∧∀i,i<(Z9 us vs).length→Xdw (Xb (Z9 us vs) i):=by
 have hl:=Xen (us:=us) h2 hk2
 have h160:=Xdz h1 h2 hk1 hk2
 obtain ⟨ns,ps,hs,he⟩:=Xc4 h1 h2 hk1 hk2
 have p1:=Kz hfu
 have p2:=Kz hfv
 have e1:Zm us=(Xe us).length:=by unfold Zm;rw[if_pos h1]
 have e2:Zm vs=(Xe vs).length:=by unfold Zm;rw[if_pos h2]
 rw[e1] at p1
 rw[e2] at p2
 have hp:∀j,j<Y4 us vs→(f j).toNat<Y4 us vs:=fun j hj=>by
  obtain ⟨q,q1,q2,q3⟩:=hf.1 j (Nat.zero_le _) (by omega)
  simp only at q3
  omega
 rw[he,←Xl6 (L:=J1 us vs) hl hs hf]
 refine Gh (by omega) (fun i hi=>Xhq h1 h2 hk1 _ (hp i hi)) (fun i hi=> ?_) (by omega) (by omega) (by simp[Gk];omega) (fun i hi=> ?_)
 ·have hq:=hp i hi
  unfold Y4 at hq
  unfold J1
  split
  ·rename_i h;exact (p2.2 _ h).2
  ·rename_i h;exact (p1.2 _ (Xbp h1 hk1 (by omega))).2
 ·have hi':i<Y4 us vs:=by simpa [Gk] using hi
  rw[Xom hi']
  exact hs1 _ (by have:=hp i hi';omega)

theorem Xne {base B n:Nat} {w:World} {v:Value} {cs:Nat→Value} {L:Nat→List VN} (h:w.ownsRow base 25 1 v n ((List.range n).map cs)) (hn:n≤1048576) (hB:B≤w.heap.size) (hc:∀i,i<n→NodesAt B w (cs i) (L i)):U4 w.heap.size w v n L:=by
 obtain ⟨a,c,e⟩:=Xj h
 subst e
 refine ⟨hn,a,c,rfl,fun hp=> ?_⟩
 obtain ⟨g,c',e,_,hg⟩:=h.form hp
 cases e
 exact ⟨g,rfl,hg,fun i hi=>⟨cs i,by rw[h.cellAt i (by omega)];simp[hi],(hc i hi).wide hB⟩⟩
theorem Xnf {base b' n':Nat} {w w':World} {v v':Value} {vs:List VN} {KV IV:Nat→Value} {xs:List Value} (h:Nest base w v vs KV IV) (h':w.ownsRow b' 25 1 v' n' xs) (hg:w.grownBy w' v'.ownBlock):Nest base w' v vs KV IV:=
 h.kept hg (Xdf h' h.row (by decide)) (fun i hi=>Xdf h' (h.rk i hi) (by decide)) (fun i hi=>Xdf h' (h.ri i hi) (by decide))
theorem Xzm {base n:Nat} {w:World} {a:Option Addr} {c:Nat} {cs:Nat→Value} (h:w.ownsRow base 25 1 (.slice a n c) n ((List.range n).map cs)):0<n→∃ad,a=some ad∧∀j u,((List.range n).map cs)[j]? =some u→w.cell? (ad.add j)=some u:=by
 intro hp
 obtain ⟨g,c',e,_,hg⟩:=h.form hp
 cases e
 refine ⟨_,rfl,fun j u hj=> ?_⟩
 have hj':j<n:=by have:=(List.getElem?_eq_some_iff.1 hj).1;simpa using this
 rw[show (⟨g,0,none⟩:Addr).add j=⟨g,j,none⟩ by simp[Addr.add];omega,h.cellAt j (by omega)]
 exact hj
theorem Xzn {base:Nat} {w:World} {v:Value} {m:Nat} {L:Nat→List VN} {rs:Nat→Value} {KV IV:Nat→Nat→Value} {lo:Nat→Nat} (h:Rows2 base w v m L rs KV IV lo):∀u∈(List.range m).map rs,u.oneCell'=true:=by
 intro u hu
 obtain ⟨j,hj,rfl⟩:=List.mem_map.1 hu
 obtain ⟨a,c,e⟩:=Xj (h.nest j (by simpa using hj)).row
 rw[e];rfl
set_option maxRecDepth 100000 in
theorem Xq3 (B:Nat) (v1 v2:Value) (us vs:List VN) (w:World) (hn1:NodesAt B w v1 us) (hn2:NodesAt B w v2 vs) (hB:B≤w.heap.size) (ok1:okB us=true) (ok2:okB vs=true) (hk1:(Xd us).kind=5) (hk2:(Xd vs).kind=5):
  Calls Tryz.prog 131 #[v1,v2] w fun e w'=>∃r base KV IV,e= .returned (.tuple #[r, .int .i64 (Qn us vs)])∧w.heap.size≤base∧Nest base w' r (Zu us vs) KV IV∧Below w.heap.size w w':=by
 obtain ⟨p1a,p1b⟩:=(Xp ok1).1
 obtain ⟨p2a,p2b⟩:=(Xp ok2).1
 obtain ⟨b1,o1,c1,aK1,nK1,cK1,aI1,nI1,cI1,rfl,hb1,u1,u2,d0,d1,d2,d3,d4⟩:=Jf hn1 (by omega)
 clear u1 u2
 obtain ⟨b2,o2,c2,aK2,nK2,cK2,aI2,nI2,cI2,rfl,hb2,u1,u2,g0,g1,g2,g3,g4⟩:=Jf hn2 (by omega)
 clear u1 u2
 have HM:=Xa (Uf ok1 ok2 (by omega) (by omega) (by omega))
 rw[Xqn hk1] at HM
 have HPT1:=Xa (fun W (hb:Below w.heap.size w W)=>Ku B _ us W (hn1.below (hb.mono hB)) (Nat.le_trans hB hb.size) ok1)
 have HPT2:=Xa (fun W (hb:Below w.heap.size w W)=>Ku B _ vs W (hn2.below (hb.mono hB)) (Nat.le_trans hB hb.size) ok2)
 have HF1:=Xa (Kz hn1.fits)
 have HF2:=Xa (Kz hn2.fits)
 have e1:Zm us=(Xe us).length:=by unfold Zm;rw[if_pos ok1]
 have e2:Zm vs=(Xe vs).length:=by unfold Zm;rw[if_pos ok2]
 rw[e1] at HF1
 rw[e2] at HF2
 have HOK:=Xa (Xso ok1 ok2)
 have HBF:=Xa (Xk7 ok1 ok2 hn1.fits hn2.fits)
 have HBN:Hid (G7 us vs=Yn 5 [] (Wl us vs) ((Xe us).length+(Xe vs).length)):=rfl
 have HBL:Hid (∀j,Wl us vs j=if j<(Xe us).length then PL us j else PL vs (j-(Xe us).length)):=fun j=>rfl
 clear e1 e2
 obtain ⟨N1,hN1⟩:∃N1,us.length=N1:=⟨_,rfl⟩
 obtain ⟨N2,hN2⟩:∃N2,vs.length=N2:=⟨_,rfl⟩
 rw[hN1] at p1a p1b d0 d1 d2 d3 d4 HPT1⊢
 rw[hN2] at p2a p2b g0 g1 g2 g3 g4 HPT2⊢
 have HL1:=Xa hN1
 have HL2:=Xa hN2
 have z1:((N1:Int)-1).toNat=N1-1:=by omega
 have z2:((N2:Int)-1).toNat=N2-1:=by omega
 obtain ⟨kx,hkx⟩:∃k,(Xd us).kind=k:=⟨_,rfl⟩
 obtain ⟨ky,hky⟩:∃k,(Xd vs).kind=k:=⟨_,rfl⟩
 obtain ⟨nx,hnx⟩:∃k,(Xd us).n=k:=⟨_,rfl⟩
 obtain ⟨ny,hny⟩:∃k,(Xd vs).n=k:=⟨_,rfl⟩
 obtain ⟨sx,hsx⟩:∃k,(Xd us).s=k:=⟨_,rfl⟩
 obtain ⟨sy,hsy⟩:∃k,(Xd vs).s=k:=⟨_,rfl⟩
 rw[hkx] at d0 hk1
 rw[hky] at g0 hk2
 rw[hnx] at d1
 rw[hny] at g1
 rw[hsx] at d2
 rw[hsy] at g2
 have HBA:Hid (Below w.heap.size w ((w.alloc (.cells #[.int .i64 kx, .int .i64 nx, .string sx, .slice aK1 nK1 cK1, .slice aI1 nI1 cI1] 75)).alloc (.cells #[.int .i64 ky, .int .i64 ny, .string sy, .slice aK2 nK2 cK2, .slice aI2 nI2 cI2] 75))):=((Below.refl _ _).alloc (Nat.le_refl _) _).alloc (by simp) _
 clear hn1 hn2 hN1 hN2 hkx hky hnx hny hsx hsy ok1 ok2
 have hbx:Below w.heap.size w (w.alloc (.cells #[.int .i64 kx, .int .i64 nx, .string sx, .slice aK1 nK1 cK1, .slice aI1 nI1 cI1] 75)):=(Below.refl _ _).alloc (Nat.le_refl _) _
 have e0:=(Xc hbx (show b2<w.heap.size by omega)).trans g0
 have e1:=(Xc hbx (show b2<w.heap.size by omega)).trans g1
 have e2:=(Xc hbx (show b2<w.heap.size by omega)).trans g2
 have e3:=(Xc hbx (show b2<w.heap.size by omega)).trans g3
 have e4:=(Xc hbx (show b2<w.heap.size by omega)).trans g4
 clear hbx g0 g1 g2 g3 g4
 have q1:(kx==1)=false:=by simp;omega
 have q2:(ky==1)=false:=by simp;omega
 have q3:(kx !=ky)=false:=by simp;omega
 have q4:(kx==3)=false:=by simp;omega
 have q5:(kx==4)=false:=by simp;omega
 have q6:(kx==5)=true:=by simp;omega
 obtain ⟨i0,hi0,hz0,hs0,hy0⟩:=info_parts Xh5
 obtain ⟨M,hM⟩:∃M,(Xe us).length=M:=⟨_,rfl⟩
 obtain ⟨M',hM'⟩:∃M',(Xe vs).length=M':=⟨_,rfl⟩
 rw[hM] at HF1 HPT1 HOK HBN HBL
 rw[hM'] at HF2 HPT2 HOK HBN
 clear hM hM' hk1 hk2
 have hM80:M≤80:=HF1.out.1
 have hM80':M'≤80:=HF2.out.1
 go_enter Tryz.func131,Tryz.ntmps131
 go_wp2_with fail
 refine (HPT1.out _ HBA.out).mono ?_
 rintro e w1 ⟨r1,rs1,K1,I1,lo1,rfl,hr1,hb1'⟩
 have HB1:=Xa (HBA.out.trans (hb1'.mono HBA.out.size))
 have HR1:=Xa hr1
 obtain ⟨aM,cM,eM⟩:=Xj hr1.row
 subst eM
 clear hr1 hb1'
 go_wp2_with fail
 refine (HPT2.out _ HB1.out).mono ?_
 rintro e w2 ⟨r2,rs2,K2,I2,lo2,rfl,hr2,hb2'⟩
 have HB2:=Xa (HB1.out.trans (hb2'.mono HB1.out.size))
 have HR1W:=Xa (HR1.out.below hb2')
 have HR2:=Xa hr2
 have z2:=hb2'.size
 obtain ⟨aG,cG,eG⟩:=Xj hr2.row
 subst eG
 clear hr2 hb2' HR1
 have HSRC:=Xa (Xzm HR2.out.row)
 have HRO:=Xa (Xzn HR2.out)
 have zz:=HB2.out.size
 have HRX:=Xa (Qc HR1W.out.row (show w.heap.size≤_ from HBA.out.size))
 go_wp2_with (at_builtin;refine Ye rfl _ _ 28 rfl w.heap.size 25 i0 (.slice none 0 0) 1 24 Tryz.underlying28 hi0 hz0 hs0 hy0 rfl (by decide) _ M _ rfl HRX.out aG M' cG ((List.range M').map rs2) rfl (by simp) HSRC.out HRO.out ?c3 ?c4 ?c5 ?_)
 case c3=>unfold maxLen;omega
 case c4=>omega
 case c5=>exact zz
 intro v5 w5 hown hgrow _
 have HB5:Hid (Below w.heap.size w w5):=HB2.out.grown hgrow zz (fun y hy=>(HRX.out.lt y hy).1)
 have z5:=HB5.out.size
 have HRR:Hid (U4 w5.heap.size w5 v5 (M+M') (Wl us vs)):=by
  rw[Xik] at hown
  refine Xne hown (by omega) (Nat.le_refl _) (fun i hi=> ?_)
  rw[HBL.out i]
  by_cases hlt:i<M
  ·rw[if_pos hlt,if_pos hlt]
   exact (Xnf (HR1W.out.nest i hlt) HR1W.out.row hgrow).nodes (Nat.le_trans (HF1.out.2 i hlt).1.1 (by omega)) (HF1.out.2 i hlt).2
  ·rw[if_neg hlt,if_neg hlt]
   exact (Xnf (HR2.out.nest (i-M) (by omega)) HR1W.out.row hgrow).nodes (Nat.le_trans (HF2.out.2 (i-M) (by omega)).1.1 (by omega)) (HF2.out.2 (i-M) (by omega)).2
 have HCL:Hid ((Yg (Wl us vs) (M+M')).length+1≤16001):=by
  have:=HBF.out.1
  rw[HBN.out] at this
  unfold Yn at this
  simpa [Hid] using this
 obtain ⟨av,cv,ev⟩:=Xj hown
 subst ev
 clear hown hgrow HRX HSRC HRO
 go_wp2_with fail
 refine (Xbl w5.heap.size 5 _ _ [] (M+M') (Wl us vs) w5 ⟨by simp,fun i hi=>absurd hi (by simp),none,0,rfl,fun h=>absurd h (by simp)⟩ HRR.out (Nat.le_refl _) (by omega) (by simp) (by have:=HCL.out;omega) (Xdl HOK.out)).mono ?_
 rintro e w6 ⟨r,KV,IV,rfl,hn6,hb6⟩
 rw[←HBN.out] at hn6
 have HB6:=Xa (HB5.out.trans (hb6.mono z5))
 have HN6:=Xa (hn6.low z5)
 have HND:=Xa (hn6.nodes (Nat.le_trans HBF.out.1 (by omega)) (fun i hi=>(HBF.out.2 i hi).1))
 obtain ⟨ar,cr,er⟩:=Xj hn6.row
 obtain ⟨NS,hNS⟩:∃NS,G7 us vs=NS:=⟨_,rfl⟩
 rw[hNS] at HM HN6 HND er
 obtain ⟨NN,hNN⟩:∃NN,NS.length=NN:=⟨_,rfl⟩
 rw[hNN] at er
 subst er
 clear hn6 hb6 hNN hNS HBN HBF HRR HCL
 cases ok:okB NS
 ·go_wp2_with fail
  refine (Gq w6.heap.size _ _ w6 HND.out (Nat.le_refl _) ok).mono ?_
  rintro e w7 ⟨rfl,hb7⟩
  have HB7:=Xa (HB6.out.trans (hb7.mono HB6.out.size))
  clear hb7
  go_wp2_with fail
  go_ret2
  exact ⟨_,w.heap.size,fun _=>undef,fun _=>undef,by rw[HM.out.1,ok];rfl,Nat.le_refl _,by rw[HM.out.2,ok];exact Nest.nil _ _ _ _,HB7.out⟩
 ·go_wp2_with fail
  refine (Vs w6.heap.size _ _ w6 HND.out (Nat.le_refl _) ok).mono ?_
  rintro e w7 ⟨rfl,hb7⟩
  have HB7:=Xa (HB6.out.trans (hb7.mono HB6.out.size))
  have HN7:=Xa (HN6.out.below hb7)
  clear hb7
  go_wp2_with fail
  go_ret2
  exact ⟨_,w.heap.size,KV,IV,by rw[HM.out.1,ok];rfl,Nat.le_refl _,by rw[HM.out.2,ok];exact HN7.out,HB7.out⟩
end Go.Proofs.YtdjddneidbddpaaGreatDoor
