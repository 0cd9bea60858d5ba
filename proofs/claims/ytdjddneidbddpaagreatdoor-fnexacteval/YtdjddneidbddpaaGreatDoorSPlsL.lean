import Derived.Test.YtdjddneidbddpaaGreatDoorSeQ
import Derived.Test.YtdjddneidbddpaaGreatDoorClnV
import Derived.Test.YtdjddneidbddpaaGreatDoorIParts
import Derived.Test.YtdjddneidbddpaaGreatDoorIWk
import Derived.Test.YtdjddneidbddpaaGreatDoorSeF
namespace Go.Proofs.YtdjddneidbddpaaGreatDoor
set_option linter.unusedSectionVars false
set_option maxRecDepth 100000
set_option maxHeartbeats 3200000
open Go.RowKit
set_option linter.unusedSimpArgs false
set_option linter.unusedVariables false
theorem Xr4 {F:Nat} {kind:Int} {keys:List ByteArray} {ts:List VT} {L:Nat->List VN} (h:∀k,k<ts.length->∃vs q,okB vs=true/\q<F/\q<vs.length/\Yf ts k=Xt vs F q/\L k=Ys vs q):
  Yb (F+1) (.mk kind 0 ByteArray.empty keys ts) 0=Yi kind keys L ts.length:=by
 have b:∀k,k<=ts.length->Xx F 0 ts k=X8 L k/\ksT F 0 ts k=Y7 L k:=by
  intro k
  induction k with
  |zero=>intro _;exact ⟨Qk _ _ _,Q0 _ _ _⟩
  |succ k ih=>
   intro p
   obtain ⟨g,j⟩:=ih (by omega)
   obtain ⟨vs,q,c,s,l,d,f⟩:=h k (by omega)
   have e:Xx F 0 ts (k+1)=X8 L (k+1):=by
    rw[Zg F 0 (by omega),g,d,Xm9 c (by omega) (by omega),Nat.zero_add,X8,f]
   refine ⟨e, ?_⟩
   rw[Qp F 0 (by omega),j,e,Nat.zero_add]
   rfl
 rw[Qt]
 obtain ⟨c1,o⟩:=b _ (Nat.le_refl _)
 rw[c1,o]
 rfl
theorem Xkr {w:World} {base:Nat} {r:Value} {V:Nat->Value} {F n:Nat} {ts:List VT} (hn:ts.length=n) (hb:n<=1000) (hr:w.ownsRow base 52 1 r n ((List.range n).map V)) (hV:∀j,j<n->TreeAt w.heap.size w F (Yf ts j) (V j)):
  Q8 w.heap.size w r ts.length (fun j u=>TreeAt w.heap.size w F (Yf ts j) u):=by
 rw[hn]
 obtain ⟨a,c,e⟩:=Xg hr
 subst e
 refine ⟨by omega,a,c,rfl,fun hp=> ?_⟩
 obtain ⟨g,f,e,_,b⟩:=hr.form hp
 cases e
 refine ⟨g,rfl,b,fun j hj=> ?_⟩
 obtain ⟨t,x,d⟩:=(hV j hj).iface
 refine ⟨t,x, ?_, ?_⟩
 ·rw[hr.cellAt j (by omega),List.getElem?_map,List.getElem?_range hj]
  simp only[Option.map_some,d]
 ·rw[<-d];exact hV j hj
theorem Xh5 (V V':Nat->Value) (m m':Nat):(List.range m).map V++(List.range m').map V'=(List.range (m+m')).map (fun j=>if j<m then V j else V' (j-m)):=by
 apply List.ext_getElem
 ·simp
 ·intro i c b
  have d:i<m+m':=by simpa using b
  rw[List.getElem_append]
  split
  ·rename_i h;have:i<m:=by simpa using h
   simp[this]
  ·rename_i h;have:¬i<m:=by simpa using h
   simp[this]
def Gp (us vs:List VN) (F:Nat):List VT:=(Xe us).map (fun k=>Xt us F k.toNat)++(Xe vs).map (fun k=>Xt vs F k.toNat)
theorem Xg8 (us vs:List VN) (F:Nat):(Gp us vs F).length=(Xe us).length+(Xe vs).length:=by simp[Gp]
theorem Xm2 (us vs:List VN) (F:Nat) {j:Nat} (h:j<(Xe us).length):Yf (Gp us vs F) j=Xt us F (Xj (Xe us) j).toNat:=by
 unfold Gp Yf Xj
 rw[List.getD_eq_getElem?_getD,List.getElem?_append_left (by simpa using h),List.getElem?_map,List.getD_eq_getElem?_getD,List.getElem?_eq_getElem h]
 rfl
theorem Xm3 (us vs:List VN) (F:Nat) {j:Nat} (h:¬j<(Xe us).length) (h2:j-(Xe us).length<(Xe vs).length):Yf (Gp us vs F) j=Xt vs F (Xj (Xe vs) (j-(Xe us).length)).toNat:=by
 unfold Gp Yf Xj
 rw[List.getD_eq_getElem?_getD,List.getElem?_append_right (by simp;omega),List.getElem?_map,List.getD_eq_getElem?_getD,List.length_map,List.getElem?_eq_getElem h2]
 rfl
theorem Xzm {us vs:List VN} (h1:okB us=true) (h2:okB vs=true) {F:Nat} (hF1:us.length<=F) (hF2:vs.length<=F):Yb (F+1) (.mk 5 0 ByteArray.empty [] (Gp us vs F)) 0=Gv us vs:=by
 unfold Gv
 rw[<-Xg8 us vs F]
 apply Xr4
 intro k d
 rw[Xg8] at d
 by_cases hlt:k<(Xe us).length
 ·obtain ⟨q,b,c⟩:=Zh h1 hlt
  refine ⟨us,q,h1,by omega,by omega, ?_, ?_⟩
  ·rw[Xm2 us vs F hlt,b];simp
  ·unfold Wa PL;rw[if_pos hlt,b];simp
 ·obtain ⟨q,b,c⟩:=Zh h2 (show k-(Xe us).length<(Xe vs).length by omega)
  refine ⟨vs,q,h2,by omega,by omega, ?_, ?_⟩
  ·rw[Xm3 us vs F hlt (by omega),b];simp
  ·unfold Wa PL;rw[if_neg hlt,b];simp
def Xdd (x:VN):Prop:=Fits x/\x.keys.length<=200/\x.kids.length<=200/\∀j,j<x.kids.length->-20000<=Xj x.kids j/\Xj x.kids j<=20000
theorem Xvy {L:Nat->List VN} {m:Nat} (hm:m<=200) (hok:∀i,i<m->okB (L i)=true) (hf:∀i,i<m->∀j,j<(L i).length->Fits (Xb (L i) j)):∀k,k<=m->∀i,i<(X8 L k).length->Xdd (Xb (X8 L k) i):=by
 intro k
 induction k with
 |zero=>intro _ i d;simp[X8] at d
 |succ k ih=>
  intro t i d
  have p:=Ve hok k (by omega)
  rw[X8]
  by_cases e:i<(X8 L k).length
  ·rw[Z1 e];exact ih (by omega) i e
  ·rw[Zy (by omega)]
   rw[K4] at d
   rw[Xiv (by omega)]
   have g:i-(X8 L k).length<(L k).length:=by omega
   generalize i-(X8 L k).length=j at g
   have f:=hf k (by omega) j g
   have l:=K7 (hok k (by omega)) j g
   have y:=(Xm (hok k (by omega))).1
   have o:∀q,q<(X5 ((X8 L k).length:Int) (Xb (L k) j)).kids.length->-20000<=Xj (X5 ((X8 L k).length:Int) (Xb (L k) j)).kids q/\Xj (X5 ((X8 L k).length:Int) (Xb (L k) j)).kids q<=20000:=by
    intro q c
    have b:q<(Xb (L k) j).kids.length:=by simpa [X5] using c
    have z:=Zw l.1 b
    have s:Xj (X5 ((X8 L k).length:Int) (Xb (L k) j)).kids q=Xj (Xb (L k) j).kids q+((X8 L k).length:Int):=by
     rw[Y8 c,Y8 b];simp[X5]
    rw[s]
    omega
   exact ⟨⟨f.keysN,f.keysS,by simpa [X5] using f.kidsN,fun q c=>by have:=o q c;omega,f.size,f.klo,f.khi,f.nlo,f.nhi⟩,Nat.le_trans l.2.2 (by omega),by have:=l.2.1;simp[X5];omega,o⟩
theorem Gc {L:Nat->List VN} {m:Nat} (hm:m<=200) (hok:∀i,i<m->okB (L i)=true) (hf:∀i,i<m->∀j,j<(L i).length->Fits (Xb (L i) j)) {kind:Int} (h1:1<=kind) (h6:kind<=6) {keys:List ByteArray} (hk:keys.length<=200) (hks:∀i,i<keys.length->(Xf keys i).size<=140737488355328):
  (Yi kind keys L m).length<=16001/\∀i,i<(Yi kind keys L m).length->Xdd (Xb (Yi kind keys L m) i):=by
 have d:=Ve hok m (Nat.le_refl _)
 refine ⟨by unfold Yi;simp;omega,fun i hi=> ?_⟩
 unfold Yi at hi|-
 by_cases e:i<(X8 L m).length
 ·rw[Z1 e];exact Xvy hm hok hf m (Nat.le_refl _) i e
 ·have f:i-(X8 L m).length=0:=by simp at hi;omega
  rw[Zy (by omega),f]
  have c:∀j,j<(Y7 L m).length->-20000<=Xj (Y7 L m) j/\Xj (Y7 L m) j<=20000:=by
   intro j b
   rw[Qf] at b
   rw[Xlg L m j b]
   have:=Ve hok (j+1) (by omega)
   omega
  exact ⟨⟨by show keys.length<=_;omega,hks,by show (Y7 L m).length<=_;rw[Qf];omega,fun j b=>by have:=c j b;show-9223372036854775808<=Xj (Y7 L m) j/\Xj (Y7 L m) j<=9223372036854775807;omega,by show ByteArray.empty.size<=_;decide,by show-9223372036854775808<=kind;omega,by show kind<=_;omega,by show (-9223372036854775808:Int)<=0;decide,by show (0:Int)<=9223372036854775807;decide⟩,hk,by show (Y7 L m).length<=200;rw[Qf];exact hm,c⟩
theorem Xr5 {us vs:List VN} (h1:okB us=true) (h2:okB vs=true):∀j,j<(Xe us).length+(Xe vs).length->okB (Wa us vs j)=true:=by
 intro j b
 unfold Wa
 split
 ·rename_i h;exact Ua (Zv h1).1 _ h
 ·rename_i h;exact Ua (Zv h2).1 _ (by omega)
theorem Xks {us vs:List VN} (h1:okB us=true) (h2:okB vs=true) (hf:∀i,i<us.length->Fits (Xb us i)) (hf':∀i,i<vs.length->Fits (Xb vs i)):(Gv us vs).length<=16001/\∀i,i<(Gv us vs).length->Xdd (Xb (Gv us vs) i):=by
 have b:=Ks hf
 have c:=Ks hf'
 have d:Zl us=(Xe us).length:=by unfold Zl;rw[if_pos h1]
 have f:Zl vs=(Xe vs).length:=by unfold Zl;rw[if_pos h2]
 rw[d] at b
 rw[f] at c
 refine Gc (by omega) (Xr5 h1 h2) (fun i hi=> ?_) (by omega) (by omega) (by simp) (fun i hi=>absurd hi (by simp))
 unfold Wa
 split
 ·rename_i h;exact (b.2 i h).2
 ·rename_i h;exact (c.2 _ (by omega)).2


theorem Xvz {w1 w2:World} {base:Nat} {l:List ByteArray} {V:Nat->Value} {f:Nat->Int} {m F:Nat} {T:Nat->VT} {k2 i2:Value} (hm:m<=1000) (hl:l.length=m) (hks:∀i,i<l.length->(Xf l i).size<=140737488355328)
  (hv:∀j,j<m->TreeAt w1.heap.size w1 F (T j) (V j)) (hf:Blk (RK l) (fun p=>(p:Int)) f 0 m) (hk:w2.ownsRow base 9 1 k2 m (Kq l f m)) (hi:w2.ownsRow base 52 1 i2 m (Kr V f m)) (hb:Below w1.heap.size w1 w2):
  TreeAt w2.heap.size w2 (F+1) (.mk 6 0 ByteArray.empty (Gf l f m) ((List.range m).map fun j=>T (f j).toNat)) (.iface 118 (.agg #[k2,i2])):=by
 have g:∀j,j<m->(f j).toNat<m:=fun j hj=>by
  obtain ⟨q,s,t,o⟩:=hf.1 j (Nat.zero_le _) hj
  simp only at o
  omega
 have b:(Gf l f m).length=m:=by simp[Gf]
 refine Or.inr (Or.inr (Or.inr (Or.inr (Or.inr ⟨rfl,rfl,rfl,k2,i2,rfl, ?_, ?_⟩))))
 ·refine Xbq (base:=base) ?_ (by omega) (fun i hi=> ?_)
  ·rw[b]
   have:(Gf l f m).map Value.string=Kq l f m:=by simp[Gf,Kq]
   rw[this];exact hk
  ·rw[b] at hi
   rw[Xn5 hi]
   exact hks _ (by have:=g i hi;omega)
 ·refine Xkr (V:=fun j=>V (f j).toNat) (by simp) hm hi (fun j hj=> ?_)
  have d:Yf ((List.range m).map fun j=>T (f j).toNat) j=T (f j).toNat:=by
   unfold Yf
   rw[List.getD_eq_getElem?_getD,List.getElem?_map,List.getElem?_range hj]
   rfl
  rw[d]
  exact TreeAt.keep (fun c hc=>hb.block c hc) hb.size (hv _ (g j hj))
def Xdf (us vs:List VN) (F:Nat) (j:Nat):VT:=
 if j<(Xe vs).length then Xt vs F (Xj (Xe vs) j).toNat else Xt us F (Xj (Xe us) ((Y5 us vs (Xd us).keys.length).getD (j-(Xe vs).length) 0)).toNat
theorem Xa9 {us vs:List VN} (h1:okB us=true) (hk1:(Xd us).kind=6) {j:Nat} (h:j<(Y5 us vs (Xd us).keys.length).length):(Y5 us vs (Xd us).keys.length).getD j 0<(Xe us).length:=by
 rw[<-(Y0 h1 hk1).1]
 exact Xjr (Xd us).keys (Xd vs).keys h
theorem Xsa (us vs:List VN):Zb us vs=wkK (Xd us).keys (Xd vs).keys:=rfl
theorem Xv0 {us vs:List VN} (h1:okB us=true) (h2:okB vs=true) (hk1:(Xd us).kind=6) {F:Nat} (hF1:us.length<=F) (hF2:vs.length<=F) {j:Nat} (hj:j<Yx us vs):
  ∃ns q,okB ns=true/\q<F/\q<ns.length/\Xdf us vs F j=Xt ns F q/\Js us vs j=Ys ns q:=by
 unfold Yx at hj
 by_cases hlt:j<(Xe vs).length
 ·obtain ⟨q,b,c⟩:=Zh h2 hlt
  refine ⟨vs,q,h2,by omega,by omega, ?_, ?_⟩
  ·unfold Xdf;rw[if_pos hlt,b];simp
  ·unfold Js PL;rw[if_pos hlt,b];simp
 ·obtain ⟨q,b,c⟩:=Zh h1 (Xa9 h1 hk1 (show j-(Xe vs).length<(Y5 us vs (Xd us).keys.length).length by omega))
  refine ⟨us,q,h1,by omega,by omega, ?_, ?_⟩
  ·unfold Xdf;rw[if_neg hlt,b];simp
  ·unfold Js PL;rw[if_neg hlt,b];simp
theorem Xzr {us vs:List VN} (h1:okB us=true) (h2:okB vs=true) (hk1:(Xd us).kind=6) (hk2:(Xd vs).kind=6) {F:Nat} (hF1:us.length<=F) (hF2:vs.length<=F) {f:Nat->Int} (hf:Blk (RK (Zb us vs)) (fun p=>(p:Int)) f 0 (Zb us vs).length):
  Yb (F+1) (.mk 6 0 ByteArray.empty (Gf (Zb us vs) f (Yx us vs)) ((List.range (Yx us vs)).map fun j=>Xdf us vs F (f j).toNat)) 0=Z6 us vs:=by
 have c:=Xd2 (us:=us) h2 hk2
 obtain ⟨D,G,d,g⟩:=Xcl h1 h2 hk1 hk2
 have l:∀j,j<Yx us vs->(f j).toNat<Yx us vs:=fun j hj=>by
  obtain ⟨q,J,M,o⟩:=hf.1 j (Nat.zero_le _) (by omega)
  simp only at o
  omega
 have b:((List.range (Yx us vs)).map fun j=>Xdf us vs F (f j).toNat).length=Yx us vs:=by simp
 rw[Xr4 (L:=Xmh (Js us vs) f) (fun k hk=> ?_),b,g,<-Xlo (L:=Js us vs) c d hf]
 rw[b] at hk
 obtain ⟨s,q,t,y,z,B,C⟩:=Xv0 h1 h2 hk1 hF1 hF2 (l k hk)
 refine ⟨s,q,t,y,z, ?_,C⟩
 unfold Yf
 rw[List.getD_eq_getElem?_getD,List.getElem?_map,List.getElem?_range hk]
 exact B
theorem Xdg {us vs:List VN} (h1:okB us=true) (h2:okB vs=true) (hk1:(Xd us).kind=6) (hk2:(Xd vs).kind=6):Yx us vs<=160:=by
 have b:=(Zv h1).2
 have c:=(Zv h2).2
 have d:=(V4 (fun i=>Yz (Xd vs).keys (Xf (Xd us).keys i)) (Xd us).keys.length).1
 have e:=(Y0 h1 hk1).1
 unfold Yx Y5
 omega
theorem Xg9 {us vs:List VN} (h1:okB us=true) (h2:okB vs=true) (hk1:(Xd us).kind=6):∀j,j<Yx us vs->okB (Js us vs j)=true:=by
 intro j b
 unfold Yx at b
 unfold Js
 split
 ·rename_i h;exact Ua (Zv h2).1 _ h
 ·rename_i h;exact Ua (Zv h1).1 _ (Xa9 h1 hk1 (by omega))
theorem Xv1 {us vs:List VN} (h1:okB us=true) (h2:okB vs=true) (hk1:(Xd us).kind=6) (hk2:(Xd vs).kind=6) (hfu:∀i,i<us.length->Fits (Xb us i)) (hfv:∀i,i<vs.length->Fits (Xb vs i)) {f:Nat->Int} (hf:Blk (RK (Zb us vs)) (fun p=>(p:Int)) f 0 (Zb us vs).length)
  (hs1:∀i,i<(Zb us vs).length->(Xf (Zb us vs) i).size<=140737488355328):(Z6 us vs).length<=16001/\∀i,i<(Z6 us vs).length->Xdd (Xb (Z6 us vs) i):=by
 have o:=Xd2 (us:=us) h2 hk2
 have d:=Xdg h1 h2 hk1 hk2
 obtain ⟨D,F,s,t⟩:=Xcl h1 h2 hk1 hk2
 have g:=Ks hfu
 have l:=Ks hfv
 have y:Zl us=(Xe us).length:=by unfold Zl;rw[if_pos h1]
 have z:Zl vs=(Xe vs).length:=by unfold Zl;rw[if_pos h2]
 rw[y] at g
 rw[z] at l
 have c:∀j,j<Yx us vs->(f j).toNat<Yx us vs:=fun j hj=>by
  obtain ⟨q,G,J,B⟩:=hf.1 j (Nat.zero_le _) (by omega)
  simp only at B
  omega
 rw[t,<-Xlo (L:=Js us vs) o s hf]
 refine Gc (by omega) (fun i hi=>Xg9 h1 h2 hk1 _ (c i hi)) (fun i hi=> ?_) (by omega) (by omega) (by simp[Gf];omega) (fun i hi=> ?_)
 ·have C:=c i hi
  unfold Yx at C
  unfold Js
  split
  ·rename_i h;exact (l.2 _ h).2
  ·rename_i h;exact (g.2 _ (Xa9 h1 hk1 (by omega))).2
 ·have b:i<Yx us vs:=by simpa [Gf] using hi
  rw[Xn5 b]
  exact hs1 _ (by have:=c i b;omega)


theorem Xmw {base B n:Nat} {w:World} {v:Value} {cs:Nat->Value} {L:Nat->List VN} (h:w.ownsRow base 25 1 v n ((List.range n).map cs)) (hn:n<=1048576) (hB:B<=w.heap.size) (hc:∀i,i<n->NodesAt B w (cs i) (L i)):Uv w.heap.size w v n L:=by
 obtain ⟨a,c,e⟩:=Xg h
 subst e
 refine ⟨hn,a,c,rfl,fun hp=> ?_⟩
 obtain ⟨g,d,e,_,b⟩:=h.form hp
 cases e
 exact ⟨g,rfl,b,fun i hi=>⟨cs i,by rw[h.cellAt i (by omega)];simp[hi],(hc i hi).wide hB⟩⟩
theorem Xmx {base b' n':Nat} {w w':World} {v v':Value} {vs:List VN} {KV IV:Nat->Value} {xs:List Value} (h:Nest base w v vs KV IV) (h':w.ownsRow b' 25 1 v' n' xs) (hg:w.grownBy w' v'.ownBlock):Nest base w' v vs KV IV:=
 h.kept hg (Xcw h' h.row (by decide)) (fun i hi=>Xcw h' (h.rk i hi) (by decide)) (fun i hi=>Xcw h' (h.ri i hi) (by decide))
theorem Xzd {base n:Nat} {w:World} {a:Option Addr} {c:Nat} {cs:Nat->Value} (h:w.ownsRow base 25 1 (.slice a n c) n ((List.range n).map cs)):0<n->∃ad,a=some ad/\∀j u,((List.range n).map cs)[j]? =some u->w.cell? (ad.add j)=some u:=by
 intro b
 obtain ⟨g,f,e,_,l⟩:=h.form b
 cases e
 refine ⟨_,rfl,fun j u hj=> ?_⟩
 have d:j<n:=by have:=(List.getElem?_eq_some_iff.1 hj).1;simpa using this
 rw[show (⟨g,0,none⟩:Addr).add j=⟨g,j,none⟩ by simp[Addr.add];omega,h.cellAt j (by omega)]
 exact hj
theorem Xze {base:Nat} {w:World} {v:Value} {m:Nat} {L:Nat->List VN} {rs:Nat->Value} {KV IV:Nat->Nat->Value} {lo:Nat->Nat} (h:Rows2 base w v m L rs KV IV lo):∀u∈(List.range m).map rs,u.oneCell'=true:=by
 intro u b
 obtain ⟨j,d,rfl⟩:=List.mem_map.1 b
 obtain ⟨a,c,e⟩:=Xg (h.nest j (by simpa using d)).row
 rw[e];rfl
theorem Xql (B:Nat) (v1 v2:Value) (us vs:List VN) (w:World) (hn1:NodesAt B w v1 us) (hn2:NodesAt B w v2 vs) (hB:B<=w.heap.size) (ok1:okB us=true) (ok2:okB vs=true) (hk1:(Xd us).kind=5) (hk2:(Xd vs).kind=5):
  Calls Tryz.prog 131 #[v1,v2] w fun e w'=>∃r base KV IV,e= .returned (.tuple #[r, .int .i64 (Qg us vs)])/\w.heap.size<=base/\Nest base w' r (Zt us vs) KV IV/\Below w.heap.size w w':=by
 obtain ⟨b5,b6⟩:=(Xm ok1).1
 obtain ⟨b7,b8⟩:=(Xm ok2).1
 obtain ⟨b1,o1,c1,be,bf,bg,bh,bi,bj,rfl,cn,u1,u2,d0,d1,d2,d3,d4⟩:=Q4 hn1 (by omega)
 clear u1 u2
 obtain ⟨b2,o2,c2,b9,ca,cb,cc,cd,ce,rfl,co,u1,u2,g0,g1,g2,g3,g4⟩:=Q4 hn2 (by omega)
 clear u1 u2
 have HM:=Xa (G9 ok1 ok2 (by omega) (by omega) (by omega))
 rw[Xp6 hk1] at HM
 have o:=Xa (fun W (hb:Below w.heap.size w W)=>Kn B _ us W (hn1.below (hb.mono hB)) (Nat.le_trans hB hb.size) ok1)
 have p:=Xa (fun W (hb:Below w.heap.size w W)=>Kn B _ vs W (hn2.below (hb.mono hB)) (Nat.le_trans hB hb.size) ok2)
 have q:=Xa (Ks hn1.fits)
 have t:=Xa (Ks hn2.fits)
 have e1:Zl us=(Xe us).length:=by unfold Zl;rw[if_pos ok1]
 have e2:Zl vs=(Xe vs).length:=by unfold Zl;rw[if_pos ok2]
 rw[e1] at q
 rw[e2] at t
 have R:=Xa (Xr5 ok1 ok2)
 have D:=Xa (Xks ok1 ok2 hn1.fits hn2.fits)
 have z:Hid (Gv us vs=Yi 5 [] (Wa us vs) ((Xe us).length+(Xe vs).length)):=rfl
 have bk:Hid (∀j,Wa us vs j=if j<(Xe us).length then PL us j else PL vs (j-(Xe us).length)):=fun j=>rfl
 clear e1 e2
 obtain ⟨N1,S⟩:∃N1,us.length=N1:=⟨_,rfl⟩
 obtain ⟨N2,T⟩:∃N2,vs.length=N2:=⟨_,rfl⟩
 rw[S] at b5 b6 d0 d1 d2 d3 d4 o|-
 rw[T] at b7 b8 g0 g1 g2 g3 g4 p|-
 have cp:=Xa S
 have cq:=Xa T
 have z1:((N1:Int)-1).toNat=N1-1:=by omega
 have z2:((N2:Int)-1).toNat=N2-1:=by omega
 obtain ⟨V,bl⟩:∃k,(Xd us).kind=k:=⟨_,rfl⟩
 obtain ⟨ky,bm⟩:∃k,(Xd vs).kind=k:=⟨_,rfl⟩
 obtain ⟨nx,bn⟩:∃k,(Xd us).n=k:=⟨_,rfl⟩
 obtain ⟨ny,bo⟩:∃k,(Xd vs).n=k:=⟨_,rfl⟩
 obtain ⟨sx,bp⟩:∃k,(Xd us).s=k:=⟨_,rfl⟩
 obtain ⟨sy,bq⟩:∃k,(Xd vs).s=k:=⟨_,rfl⟩
 rw[bl] at d0 hk1
 rw[bm] at g0 hk2
 rw[bn] at d1
 rw[bo] at g1
 rw[bp] at d2
 rw[bq] at g2
 have F:Hid (Below w.heap.size w ((w.alloc (.cells #[.int .i64 V, .int .i64 nx, .string sx, .slice be bf bg, .slice bh bi bj] 75)).alloc (.cells #[.int .i64 ky, .int .i64 ny, .string sy, .slice b9 ca cb, .slice cc cd ce] 75))):=((Below.refl _ _).alloc (Nat.le_refl _) _).alloc (by simp) _
 clear hn1 hn2 S T bl bm bn bo bp bq ok1 ok2
 have g:Below w.heap.size w (w.alloc (.cells #[.int .i64 V, .int .i64 nx, .string sx, .slice be bf bg, .slice bh bi bj] 75)):=(Below.refl _ _).alloc (Nat.le_refl _) _
 have e0:=(Xc g (show b2<w.heap.size by omega)).trans g0
 have e1:=(Xc g (show b2<w.heap.size by omega)).trans g1
 have e2:=(Xc g (show b2<w.heap.size by omega)).trans g2
 have e3:=(Xc g (show b2<w.heap.size by omega)).trans g3
 have e4:=(Xc g (show b2<w.heap.size by omega)).trans g4
 clear g g0 g1 g2 g3 g4
 have q1:(V==1)=false:=by simp;omega
 have q2:(ky==1)=false:=by simp;omega
 have q3:(V !=ky)=false:=by simp;omega
 have q4:(V==3)=false:=by simp;omega
 have q5:(V==4)=false:=by simp;omega
 have q6:(V==5)=true:=by simp;omega
 obtain ⟨i0,cf,cg,ch,ci⟩:=info_parts Xho
 obtain ⟨M,hM⟩:∃M,(Xe us).length=M:=⟨_,rfl⟩
 obtain ⟨J,br⟩:∃J,(Xe vs).length=J:=⟨_,rfl⟩
 rw[hM] at q o R z bk
 rw[br] at t p R z
 clear hM br hk1 hk2
 have cm:M<=80:=q.out.1
 have cj:J<=80:=t.out.1
 go_enter Tryz.func131,Tryz.ntmps131
 go_wp2_with fail
 refine (o.out _ F.out).mono ?_
 rintro e w1 ⟨r1,cs,K1,I1,ct,rfl,X,L⟩
 have Y:=Xa (F.out.trans (L.mono F.out.size))
 have bs:=Xa X
 obtain ⟨aM,cM,eM⟩:=Xg X.row
 subst eM
 clear X L
 go_wp2_with fail
 refine (p.out _ Y.out).mono ?_
 rintro e w2 ⟨r2,ck,K2,I2,cu,rfl,Z,c⟩
 have bt:=Xa (Y.out.trans (c.mono Y.out.size))
 have d:=Xa (bs.out.below c)
 have ba:=Xa Z
 have z2:=c.size
 obtain ⟨aG,cG,eG⟩:=Xg Z.row
 subst eG
 clear Z c bs
 have P:=Xa (Xzd ba.out.row)
 have bu:=Xa (Xze ba.out)
 have zz:=bt.out.size
 have bb:=Xa (Qj d.out.row (show w.heap.size<=_ from F.out.size))
 go_wp2_with (at_builtin;refine Yd rfl _ _ 28 rfl w.heap.size 25 i0 (.slice none 0 0) 1 24 Tryz.underlying28 cf cg ch ci rfl (by decide) _ M _ rfl bb.out aG J cG ((List.range J).map ck) rfl (by simp) P.out bu.out ?c3 ?c4 ?c5 ?_)
 case c3=>unfold maxLen;omega
 case c4=>omega
 case c5=>exact zz
 intro v5 w5 f b _
 have bv:Hid (Below w.heap.size w w5):=bt.out.grown b zz (fun y hy=>(bb.out.lt y hy).1)
 have z5:=bv.out.size
 have bw:Hid (Uv w5.heap.size w5 v5 (M+J) (Wa us vs)):=by
  rw[Xh5] at f
  refine Xmw f (by omega) (Nat.le_refl _) (fun i hi=> ?_)
  rw[bk.out i]
  by_cases hlt:i<M
  ·rw[if_pos hlt,if_pos hlt]
   exact (Xmx (d.out.nest i hlt) d.out.row b).nodes (Nat.le_trans (q.out.2 i hlt).1.1 (by omega)) (q.out.2 i hlt).2
  ·rw[if_neg hlt,if_neg hlt]
   exact (Xmx (ba.out.nest (i-M) (by omega)) d.out.row b).nodes (Nat.le_trans (t.out.2 (i-M) (by omega)).1.1 (by omega)) (t.out.2 (i-M) (by omega)).2
 have bx:Hid ((X8 (Wa us vs) (M+J)).length+1<=16001):=by
  have:=D.out.1
  rw[z.out] at this
  unfold Yi at this
  simpa [Hid] using this
 obtain ⟨av,cv,ev⟩:=Xg f
 subst ev
 clear f b bb P bu
 go_wp2_with fail
 refine (Xa5 w5.heap.size 5 _ _ [] (M+J) (Wa us vs) w5 ⟨by simp,fun i hi=>absurd hi (by simp),none,0,rfl,fun h=>absurd h (by simp)⟩ bw.out (Nat.le_refl _) (by omega) (by simp) (by have:=bx.out;omega) (Xc1 R.out)).mono ?_
 rintro e w6 ⟨r,KV,IV,rfl,C,bz⟩
 rw[<-z.out] at C
 have G:=Xa (bv.out.trans (bz.mono z5))
 have b0:=Xa (C.low z5)
 have bc:=Xa (C.nodes (Nat.le_trans D.out.1 (by omega)) (fun i hi=>(D.out.2 i hi).1))
 obtain ⟨ar,cr,er⟩:=Xg C.row
 obtain ⟨NS,b3⟩:∃NS,Gv us vs=NS:=⟨_,rfl⟩
 rw[b3] at HM b0 bc er
 obtain ⟨NN,b4⟩:∃NN,NS.length=NN:=⟨_,rfl⟩
 rw[b4] at er
 subst er
 clear C bz b4 b3 z D bw bx
 cases ok:okB NS
 ·go_wp2_with fail
  refine (Gk w6.heap.size _ _ w6 bc.out (Nat.le_refl _) ok).mono ?_
  rintro e w7 ⟨rfl,l⟩
  have bd:=Xa (G.out.trans (l.mono G.out.size))
  clear l
  go_wp2_with fail
  go_ret2
  exact ⟨_,w.heap.size,fun _=>undef,fun _=>undef,by rw[HM.out.1,ok];rfl,Nat.le_refl _,by rw[HM.out.2,ok];exact Nest.nil _ _ _ _,bd.out⟩
 ·go_wp2_with fail
  refine (Vm w6.heap.size _ _ w6 bc.out (Nat.le_refl _) ok).mono ?_
  rintro e w7 ⟨rfl,l⟩
  have bd:=Xa (G.out.trans (l.mono G.out.size))
  have cl:=Xa (b0.out.below l)
  clear l
  go_wp2_with fail
  go_ret2
  exact ⟨_,w.heap.size,KV,IV,by rw[HM.out.1,ok];rfl,Nat.le_refl _,by rw[HM.out.2,ok];exact cl.out,bd.out⟩
end Go.Proofs.YtdjddneidbddpaaGreatDoor
