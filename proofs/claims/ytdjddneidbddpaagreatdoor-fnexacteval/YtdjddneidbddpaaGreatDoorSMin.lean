import Derived.Test.YtdjddneidbddpaaGreatDoorStbN
import Derived.Test.YtdjddneidbddpaaGreatDoorIParts
import Derived.Test.YtdjddneidbddpaaGreatDoorLowN
import Derived.Test.YtdjddneidbddpaaGreatDoorSSort
import Derived.Test.YtdjddneidbddpaaGreatDoorEqS2
import Derived.Test.YtdjddneidbddpaaGreatDoorByP
import Derived.Test.YtdjddneidbddpaaGreatDoorStepI
namespace Go.Proofs.YtdjddneidbddpaaGreatDoor
set_option linter.unusedSectionVars false
set_option maxHeartbeats 3200000
open Go.RowKit
set_option linter.unusedSimpArgs false
set_option linter.unusedVariables false
def Xmz (L:Nat→List VN) (f:Nat→Int) (j:Nat):List VN:=L (f j).toNat
def Gk (l:List ByteArray) (f:Nat→Int) (m:Nat):List ByteArray:=(List.range m).map fun j=>Xh l (f j).toNat
theorem Xd8 {L L':Nat→List VN}:∀m,(∀i,i<m→L i=L' i)→Yg L m=Yg L' m:=by
 intro m
 induction m with
 |zero=>intro _;rfl
 |succ m ih=>intro h;rw[Yg,Yg,ih (fun i hi=>h i (by omega)),h m (by omega)]
theorem Xuq {L L':Nat→List VN}:∀m,(∀i,i<m→L i=L' i)→Zb L m=Zb L' m:=by
 intro m
 induction m with
 |zero=>intro _;rfl
 |succ m ih=>intro h;rw[Zb,Zb,ih (fun i hi=>h i (by omega)),Xd8 (m+1) h]
theorem Xrp {L L':Nat→List VN} {m:Nat} (h:∀i,i<m→L i=L' i) (kind:Int) (keys:List ByteArray):Yn kind keys L m=Yn kind keys L' m:=by
 unfold Yn;rw[Xd8 m h,Xuq m h]
theorem Xom {l:List ByteArray} {f:Nat→Int} {m j:Nat} (h:j<m):Xh (Gk l f m) j=Xh l (f j).toNat:=by simp[Gk,Xh,h]

theorem Xg1 (x:VN):Yb 0 x=x:=by cases x;simp[Yb]
theorem Xmf (a b:Int) (x:VN):Yb a (Yb b x)=Yb (a+b) x:=by
 cases x
 simp only[Yb,List.map_map]
 congr 1
 apply List.map_congr_left
 intro k _
 simp only[Function.comp]
 omega
theorem Xnr {vs:List VN} (hok:okB vs=true) {f m:Nat} (hf:m<f) (hm:m<vs.length) (sh:Nat):Yi f (Xw vs f m) sh=(Yw vs m).map (Yb (sh:Int)):=by
 obtain ⟨p1,_,p3,_⟩:=Xp hok
 obtain ⟨⟨a0,h0⟩,htr⟩:=p3 m hm
 have e:Yw vs m=run vs (-(a0:Int)) a0 (m+1-a0):=by rw[Yw,htr];simp[trF]
 rw[←Wo,Xbn vs f m sh a0 h0 hf htr,e]
 unfold run
 rw[List.map_map]
 apply List.map_congr_left
 intro k _
 simp only[Function.comp]
 rw[Xmf]
 rfl
theorem Xwn {vs:List VN} (hok:okB vs=true):Yi 81 (Xw vs 81 (vs.length-1)) 0=vs:=by
 obtain ⟨p1,_,_,_⟩:=Xp hok
 obtain ⟨h,htr⟩:=Xbj hok
 rw[←Wo,Xbn vs 81 (vs.length-1) 0 0 h (by omega) htr]
 have e:vs.length-1+1-0=vs.length:=by omega
 rw[e]
 have e2:(((0:Nat):Int)-((0:Nat):Int))=0:=by omega
 rw[e2,Xkq]
 have:(Yb 0)=id:=by funext x;exact Xg1 x
 rw[this,List.map_id]
def Vz (vs:List VN):List VT:=(Xe vs).map fun k=>Xw vs 80 k.toNat
theorem Xwo {vs:List VN} (hok:okB vs=true):∀k,k≤(Xe vs).length→X6 80 0 (Vz vs) k=Yg (PL vs) k∧ksT 80 0 (Vz vs) k=Zb (PL vs) k:=by
 have hlen:(Vz vs).length=(Xe vs).length:=by simp[Vz]
 have p1:=(Xp hok).1
 intro k
 induction k with
 |zero=>intro _;exact ⟨Qs _ _ _,Ja _ _ _⟩
 | succ k ih =>
  intro hk
  obtain ⟨h1,h2⟩:=ih (by omega)
  have hlt:k<(Vz vs).length:=by omega
  obtain ⟨q,hq,hql⟩:=Zj hok (k:=k) (by omega)
  have hkt:Yl (Vz vs) k=Xw vs 80 q:=by unfold Vz;rw[Ud (by omega),hq];simp
  have hpl:PL vs k=Yw vs q:=by unfold PL;rw[hq];simp
  have e:X6 80 0 (Vz vs) (k+1)=Yg (PL vs) (k+1):=by
   rw[Zi 80 0 hlt,h1,hkt,Xnr hok (by omega) (by omega),Nat.zero_add,Yg,hpl]
  refine ⟨e, ?_⟩
  rw[Qy 80 0 hlt,h2,e,Nat.zero_add]
  rfl
theorem Xt3 {vs:List VN} (hok:okB vs=true) (hk:(Xb vs (vs.length-1)).kind=5∨(Xb vs (vs.length-1)).kind=6):Yn (Xb vs (vs.length-1)).kind (Xb vs (vs.length-1)).keys (PL vs) (Xe vs).length=vs:=by
 have hw:=Xwn hok
 rw[Xw,Q1] at hw
 have hlen:(Vz vs).length=(Xe vs).length:=by simp[Vz]
 obtain ⟨c1,c2⟩:=Xwo hok _ (Nat.le_refl _)
 have e1:((Xb vs (vs.length-1)).kids.map fun k=>Xw vs 80 k.toNat)=Vz vs:=rfl
 rw[e1,hlen,c1,c2] at hw
 have p1:=(Xp hok).1
 have hn:=((Xp hok).2.1 (vs.length-1) (by omega)).1
 have hz:(Xb vs (vs.length-1)).n=0∧(Xb vs (vs.length-1)).s=ByteArray.empty:=by
  unfold X9 Yv at hn
  have es:∀s:ByteArray,s.toList= []→s=ByteArray.empty:=fun s h=>by
   cases s with|mk d=>rw[ByteArray.toList_eq] at h;simp at h;subst h;rfl
  simp only[Bool.and_eq_true,Bool.not_eq_true',Bool.and_eq_false_iff,decide_eq_false_iff_not,Decidable.not_not,Nat.not_lt,Nat.le_zero,List.length_eq_zero_iff] at hn
  obtain ⟨⟨⟨⟨n1,n2⟩,n3⟩,n4⟩,_⟩:=hn
  exact ⟨by omega,es _ (by rcases n2 with h|h;omega;exact h)⟩
 rw[hz.1,hz.2] at hw
 exact hw
theorem Zw {vs:List VN} (hok:okB vs=true):Xqw (PL vs) (Xe vs).length=true∧(Xe vs).length≤80:=by
 have p:=Xp hok
 refine ⟨X35 fun i hi=> ?_,(Ve hok (vs.length-1) (by have:=p.1;omega)).2.1⟩
 obtain ⟨q,hq,hql⟩:=Zj hok hi
 have e:PL vs i=Yw vs q:=by unfold PL;rw[hq];simp
 rw[e]
 exact Xec hok (by omega)

theorem Xuu {T:Nat→Option (Nat×Nat)} (hT:∀m p,T m=some p→p.1≤m):∀(l:List Int) (b h:Nat) (q:Nat×Nat),l.foldl (X7 T) (some (b,h))=some q→∀k∈l,(q.1:Int)≤k∧k<(b:Int):=by
 intro l
 induction l with
 |nil=>intro b h q _ k hk;cases hk
 | cons x l ih =>
  intro b h q e k hk
  obtain ⟨p,h1,h2,h3,h4⟩:=Qi e
  have hp:=hT _ _ h3
  have hl:=Xkh hT _ _ _ _ h4
  rcases List.mem_cons.1 hk with rfl|hk
  ·omega
  ·have:=ih _ _ _ h4 k hk
   omega
theorem X0v {K:Nat→List Int} {n:Nat} {p:Nat×Nat} (h:tr K n=some p):∀k∈K n,(p.1:Int)≤k∧k<(n:Int):=by
 obtain ⟨q,hq,rfl⟩:=Xkg h
 intro k hk
 exact Xuu (fun m p h=>Kv h) _ _ _ _ hq k (List.mem_reverse.2 hk)
theorem X0w {vs:List VN} {q a h:Nat} (ht:tr (Yj vs) q=some (a,h)):∀f i,a+i≤q→Xw (run vs (-(a:Int)) a (q+1-a)) f i=Xw vs f (a+i):=by
 intro f
 induction f with
 |zero=>intro i _;rfl
 | succ f ih =>
  intro i hi
  have hap:=Kv ht
  simp only at hap
  obtain ⟨r,hr,h1,_⟩:=Xoq _ _ _ (Nat.lt_succ_self _) ht (a+i) (by simp only;omega) hi
  have hk:=X0v hr
  rw[Xw,Xw,Xeb (by omega)]
  simp only[Yb,VT.mk.injEq,true_and,List.map_map]
  apply List.map_congr_left
  intro k hk2
  have h3:=hk k hk2
  simp only at h1
  simp only[Function.comp]
  have e:(k+ -(a:Int)).toNat=k.toNat-a:=by omega
  rw[e,ih (k.toNat-a) (by omega)]
  congr 1
  omega
theorem Xll {vs:List VN} (hok:okB vs=true) {n:Nat} (hn:n<vs.length) (f:Nat):Xw (Yw vs n) f ((Yw vs n).length-1)=Xw vs f n:=by
 obtain ⟨p1,_,p3,_⟩:=Xp hok
 obtain ⟨⟨a0,h0⟩,htr⟩:=p3 n hn
 have e:Yw vs n=run vs (-(a0:Int)) a0 (n+1-a0):=by rw[Yw,htr];simp[trF]
 have ha:=Kv htr
 simp only at ha
 rw[e,Vd,X0w htr f (n+1-a0-1) (by omega)]
 congr 1
 omega
theorem Xuv {α:Type} {R:Int→Int→Int} {g g':Int→α} (hR:∀a b,g a=g' b→R a b=0):∀l m,l.map g=m.map g'→Yk R l m=0:=by
 intro l
 induction l with
 | nil =>
  intro m h
  cases m with
  |nil=>rfl
  |cons b m=>simp at h
 | cons a l ih =>
  intro m h
  cases m with
  |nil=>simp at h
  | cons b m =>
   simp only[List.map_cons,List.cons.injEq] at h
   have h1:=hR a b h.1
   have h2:=ih m h.2
   simp only[Yk,h1,h2]
   simp
theorem Xot:∀l,Yh l l=0:=by
 intro l
 induction l with
 |nil=>rfl
 | cons a l ih =>
  have h0:Y2 a a=0:=(Xas _ _).2 rfl
  simp only[Yh,h0,ih]
  simp
theorem X0x (us vs:List VN):∀f n m,Xw us f n=Xw vs f m→ord us vs f n m=0:=by
 intro f
 induction f with
 |zero=>intro n m _;rfl
 | succ f ih =>
  intro n m h
  rw[Xw,Xw] at h
  simp only[VT.mk.injEq] at h
  obtain ⟨h1,h2,h3,h4,h5⟩:=h
  rw[W9,J2,J2,J2,J2]
  refine ⟨(Uj _ _).2 h1,(Uj _ _).2 h2, ?_, ?_,Xuv (g:=fun k=>Xw us f k.toNat) (g':=fun k=>Xw vs f k.toNat) (fun a b hab=>ih _ _ hab) _ _ h5⟩
  ·rw[h3];exact (Xas _ _).2 rfl
  ·rw[h4];exact Xot _
theorem Xxj {us vs:List VN} (h1:okB us=true) (h2:okB vs=true) {n k f:Nat} (hn:n<us.length) (hk:k<vs.length) (hf:n<f):ord us vs f n k=0↔Yw us n=Yw vs k:=by
 have e:ord us vs f n k=ord us vs (f+vs.length) n k:=Xqg h1 _ _ _ _ hf (by omega) hn
 rw[e]
 constructor
 ·intro h
  have ht:=Xn0 Xsw us vs _ _ _ h
  rw[←(Uc h1 (show n<f+vs.length by omega) hn).1,←(Uc h2 (show k<f+vs.length by omega) hk).1,ht]
 ·intro h
  apply X0x
  rw[←Xll h1 hn,←Xll h2 hk,h]
def Wy (us vs:List VN) (i k:Nat):Bool:=decide (Yt (PL us i) (PL vs k)=0)
def Ym (us vs:List VN) (i:Nat):List Nat:=Yx (fun i=>Zf (Wy us vs i) (Xe vs).length) i
def Wf (us vs:List VN) (j:Nat):List VN:=PL us ((Ym us vs (Xe us).length).getD j 0)
def Vp (us vs:List VN):List VN:=Yn 5 [] (Wf us vs) (Ym us vs (Xe us).length).length
theorem V5 (us vs:List VN) (i:Nat):(Ym us vs i).length≤i∧∀x∈Ym us vs i,x<i:=V9 _ i
theorem Wg {l:List Nat} {x j:Nat} (h:j<l.length):(l++ [x]).getD j 0=l.getD j 0:=by
 rw[List.getD_eq_getElem?_getD,List.getD_eq_getElem?_getD,List.getElem?_append_left h]
theorem Xew {l:List Nat} {x:Nat}:(l++ [x]).getD l.length 0=x:=by
 rw[List.getD_eq_getElem?_getD];simp
theorem X3e (us vs:List VN) (L:Nat→List VN):∀i,(Yg (fun j=>L ((Ym us vs i).getD j 0)) (Ym us vs i).length).length≤(Yg L i).length:=by
 intro i
 induction i with
 |zero=>exact Nat.le_refl _
 | succ i ih =>
  rw[show Ym us vs (i+1)=if Zf (Wy us vs i) (Xe vs).length=true then Ym us vs i else Ym us vs i++ [i] from rfl,Vb]
  split
  ·omega
  ·rw[List.length_append,List.length_singleton,Vb,Xew]
   rw[Xd8 (L':=fun j=>L ((Ym us vs i).getD j 0)) _ (fun j hj=>by rw[Wg hj])]
   omega
theorem Xs1 {us:List VN} (hok:okB us=true) (vs:List VN):∀j,j<(Ym us vs (Xe us).length).length→okB (Wf us vs j)=true:=by
 intro j hj
 have hm:=(V5 us vs (Xe us).length).2 _ (show (Ym us vs (Xe us).length).getD j 0∈_ by
  rw[List.getD_eq_getElem?_getD,List.getElem?_eq_getElem hj];exact List.getElem_mem hj)
 exact Ug (Zw hok).1 _ hm
theorem Xou {us:List VN} (hok:okB us=true) (hk:(Xd us).kind=5) (vs:List VN) (hf:∀i,i<us.length→Fits (Xb us i)):Few (Vp us vs)∧∀i,i<(Vp us vs).length→Fits (Xb (Vp us vs) i):=by
 have hl:=V5 us vs (Xe us).length
 have h80:=(Zw hok).2
 have hpf:=Kz hf
 have hpn:Zm us=(Xe us).length:=by unfold Zm;rw[if_pos hok]
 rw[hpn] at hpf
 have hlt:∀j,j<(Ym us vs (Xe us).length).length→(Ym us vs (Xe us).length).getD j 0<(Xe us).length:=fun j hj=>hl.2 _ (by
  rw[List.getD_eq_getElem?_getD,List.getElem?_eq_getElem hj];exact List.getElem_mem hj)
 have hn:=Xyo (L:=Wf us vs) (m:=(Ym us vs (Xe us).length).length) (by omega) (Xs1 hok vs) (fun j hj=>(hpf.2 _ (hlt j hj)).2) (kind:=5) (by omega) (by omega) (keys:= []) (by simp) (fun i hi=>absurd hi (by simp))
 have hlen:(Vp us vs).length≤80:=by
  have h1:=X3e us vs (PL us) (Xe us).length
  have h2:=congrArg List.length (Xt3 hok (Or.inl hk))
  have h3:=(Xp hok).1
  unfold Yn at h2
  unfold Vp Yn
  simp only[List.length_append,List.length_singleton] at h2⊢
  unfold Wf
  omega
 exact ⟨⟨hlen,fun i hi=>⟨(hn.2 i hi).2.1,(hn.2 i hi).2.2.1⟩⟩,fun i hi=>(hn.2 i hi).1⟩
def Zt (us vs:List VN) (F:Nat):List VT:=(Ym us vs (Xe us).length).map fun i=>Xw us F (Xm (Xe us) i).toNat
theorem Xov {us:List VN} (hok:okB us=true) (vs:List VN) {F:Nat} (hF:us.length≤F):Yi (F+1) (.mk 5 0 ByteArray.empty [] (Zt us vs F)) 0=Vp us vs:=by
 have hl:=V5 us vs (Xe us).length
 have hlen:(Zt us vs F).length=(Ym us vs (Xe us).length).length:=by simp[Zt]
 have hcat:∀k,k≤(Ym us vs (Xe us).length).length→X6 F 0 (Zt us vs F) k=Yg (Wf us vs) k∧ksT F 0 (Zt us vs F) k=Zb (Wf us vs) k:=by
  intro k
  induction k with
  |zero=>intro _;exact ⟨Qs _ _ _,Ja _ _ _⟩
  | succ k ih =>
   intro hk
   obtain ⟨h1,h2⟩:=ih (by omega)
   have hlt:k<(Zt us vs F).length:=by omega
   have hx:=hl.2 _ (show (Ym us vs (Xe us).length).getD k 0∈_ by
    rw[List.getD_eq_getElem?_getD,List.getElem?_eq_getElem (by omega)];exact List.getElem_mem (by omega))
   obtain ⟨q,hq,hql⟩:=Zj hok (k:=(Ym us vs (Xe us).length).getD k 0) hx
   have hkt:Yl (Zt us vs F) k=Xw us F q:=by
    unfold Zt Yl
    rw[List.getD_eq_getElem?_getD,List.getElem?_map,List.getElem?_eq_getElem (show k<(Ym us vs (Xe us).length).length by omega)]
    simp only[Option.map_some,Option.getD_some]
    rw[List.getD_eq_getElem?_getD,List.getElem?_eq_getElem (show k<(Ym us vs (Xe us).length).length by omega),Option.getD_some] at hq
    rw[hq];simp
   have hpl:Wf us vs k=Yw us q:=by unfold Wf PL;rw[hq];simp
   have e:X6 F 0 (Zt us vs F) (k+1)=Yg (Wf us vs) (k+1):=by
    rw[Zi F 0 hlt,h1,hkt,Xnr hok (by omega) (by omega),Nat.zero_add,Yg,hpl]
   refine ⟨e, ?_⟩
   rw[Qy F 0 hlt,h2,e,Nat.zero_add]
   rfl
 rw[Q1,hlen]
 obtain ⟨c1,c2⟩:=hcat _ (Nat.le_refl _)
 rw[c1,c2]
 rfl
def Gx (us vs:List VN):List VN:=Xu 3 ((Xd us).n-(Xd vs).n) ByteArray.empty
def V6 (us vs:List VN):Int:=
 if okB us=true∧okB vs=true then
  if (Xd us).kind=3∧(Xd vs).kind=3 then (if okB (Gx us vs)=true then 0 else 3)
  else if (Xd us).kind=5∧(Xd vs).kind=5 then 0 else 2
 else 1
def Kn (us vs:List VN):List VN:=
 if okB us=true∧okB vs=true then
  if (Xd us).kind=3∧(Xd vs).kind=3 then (if okB (Gx us vs)=true then Gx us vs else [])
  else if (Xd us).kind=5∧(Xd vs).kind=5 then Vp us vs else []
 else []
theorem Xfo {us vs:List VN} (h1:okB us=true) (h2:okB vs=true) (a:¬((Xd us).kind=3∧(Xd vs).kind=3)) (b:¬((Xd us).kind=5∧(Xd vs).kind=5)):V6 us vs=2∧Kn us vs= []:=by
 unfold V6 Kn
 simp only[h1,h2,and_self,if_true,if_neg a,if_neg b]
theorem Xow {us vs:List VN} (h1:okB us=true) (h2:okB vs=true) (a:(Xd us).kind=3∧(Xd vs).kind=3):V6 us vs=(if okB (Gx us vs)=true then 0 else 3)∧Kn us vs=(if okB (Gx us vs)=true then Gx us vs else []):=by
 unfold V6 Kn
 simp only[h1,h2,and_self,if_true,if_pos a]
theorem Xox {us vs:List VN} (h1:okB us=true) (h2:okB vs=true) (b:(Xd us).kind=5∧(Xd vs).kind=5):V6 us vs=0∧Kn us vs=Vp us vs:=by
 have a:¬((Xd us).kind=3∧(Xd vs).kind=3):=by omega
 unfold V6 Kn
 simp only[h1,h2,and_self,if_true,if_neg a,if_pos b]
theorem Xaw {us:List VN} (hok:okB us=true) (hk:(Xd us).kind=3): -1000000000000000≤(Xd us).n∧(Xd us).n≤1000000000000000:=by
 rcases J3 hok with k|k|⟨k,a,b⟩|⟨k,a⟩|⟨k,a⟩|⟨k,a⟩
 ·omega
 ·omega
 ·exact ⟨a,b⟩
 ·omega
 ·omega
 ·omega

def Xjo (us vs:List VN):List VN:=Xu 3 ((Xd us).n+(Xd vs).n) ByteArray.empty
def Xjp (us vs:List VN):List VN:=Xu 4 0 ((Xd us).s++(Xd vs).s)
def Wl (us vs:List VN) (j:Nat):List VN:=if j<(Xe us).length then PL us j else PL vs (j-(Xe us).length)
def G7 (us vs:List VN):List VN:=Yn 5 [] (Wl us vs) ((Xe us).length+(Xe vs).length)
def Za (us vs:List VN) (i:Nat):List Nat:=Yx (fun i=>Y5 (Xd vs).keys (Xh (Xd us).keys i)) i
def Zg (us vs:List VN):List ByteArray:=(Xd vs).keys++(Za us vs (Xd us).keys.length).map (Xh (Xd us).keys)
def J1 (us vs:List VN) (j:Nat):List VN:=if j<(Xe vs).length then PL vs j else PL us ((Za us vs (Xd us).keys.length).getD (j-(Xe vs).length) 0)
def Y4 (us vs:List VN):Nat:=(Xe vs).length+(Za us vs (Xd us).keys.length).length
def Z9 (us vs:List VN):List VN:=match Ze (Zg us vs) (Zg us vs).length with
 |some (ns,ps)=>Yn 6 ns (fun j=>J1 us vs (ps.getD j 0)) (Y4 us vs)
 |none=> []
def Je (us vs:List VN):List VN:=
 if (Xd us).kind=3 then Xjo us vs else if (Xd us).kind=4 then Xjp us vs else if (Xd us).kind=5 then G7 us vs else Z9 us vs
def Qn (us vs:List VN):Int:=
 if okB us=true∧okB vs=true then
  if (Xd us).kind=1 then 0 else if (Xd vs).kind=1 then 0
  else if (Xd us).kind=(Xd vs).kind∧(Xd us).kind≠2 then (if okB (Je us vs)=true then 0 else 3) else 2
 else 1
def Zu (us vs:List VN):List VN:=
 if okB us=true∧okB vs=true then
  if (Xd us).kind=1 then vs else if (Xd vs).kind=1 then us
  else if (Xd us).kind=(Xd vs).kind∧(Xd us).kind≠2 then (if okB (Je us vs)=true then Je us vs else []) else []
 else []
theorem Y7 {us:List VN} (h:okB us=true) (hk:(Xd us).kind=6):(Xd us).keys.length=(Xe us).length∧Q0 (Xd us).keys=true:=by
 have p1:=(Xp h).1
 have hn:=((Xp h).2.1 (us.length-1) (by omega)).1
 change X9 (Xd us)=true at hn
 unfold X9 Zk at hn
 simp[hk] at hn
 exact hn.2
theorem Xen {us vs:List VN} (h2:okB vs=true) (hk2:(Xd vs).kind=6):(Zg us vs).length=Y4 us vs:=by
 unfold Zg Y4
 rw[List.length_append,List.length_map,(Y7 h2 hk2).1]
theorem Xkx {l:List ByteArray} (h:Q0 l=true) {i j:Nat} (hij:i<j) (hj:j<l.length):(Xh l i).toList≠(Xh l j).toList:=Xtm (Jh h i j hij hj)
theorem Xy8 (g:Nat→Bool):∀n,∀i j,i<j→j<(Yx g n).length→(Yx g n).getD i 0<(Yx g n).getD j 0:=by
 intro n
 induction n with
 |zero=>intro i j _ hj;simp[Yx] at hj
 | succ n ih =>
  intro i j hij hj
  rw[Yx] at hj⊢
  split at hj
  ·rename_i e;rw[if_pos e];exact ih i j hij hj
  ·rename_i e
   rw[if_neg e]
   rw[List.length_append,List.length_singleton] at hj
   by_cases ej:j=(Yx g n).length
   ·subst ej
    rw[Xew,Wg (by omega)]
    refine (V9 g n).2 _ ?_
    rw[List.getD_eq_getElem?_getD,List.getElem?_eq_getElem (by omega)]
    exact List.getElem_mem _
   ·rw[Wg (by omega),Wg (by omega)]
    exact ih i j hij (by omega)
theorem X2e (g:Nat→Bool):∀n,∀x∈Yx g n,g x=false:=by
 intro n
 induction n with
 |zero=>intro x hx;cases hx
 | succ n ih =>
  intro x hx
  rw[Yx] at hx
  split at hx
  ·exact ih x hx
  ·rename_i e
   rcases List.mem_append.1 hx with hx|hx
   ·exact ih x hx
   ·simp at hx;subst hx;simpa using e
theorem Xsg {us vs:List VN} (h1:okB us=true) (h2:okB vs=true) (hk1:(Xd us).kind=6) (hk2:(Xd vs).kind=6):∀i j,i<j→j<(Zg us vs).length→(Xh (Zg us vs) i).toList≠(Xh (Zg us vs) j).toList:=by
 obtain ⟨a1,a2⟩:=Y7 h1 hk1
 obtain ⟨b1,b2⟩:=Y7 h2 hk2
 have hix:=V9 (fun i=>Y5 (Xd vs).keys (Xh (Xd us).keys i)) (Xd us).keys.length
 have hlt:∀k,k<(Za us vs (Xd us).keys.length).length→(Za us vs (Xd us).keys.length).getD k 0∈Za us vs (Xd us).keys.length:=fun k hk=>by
  rw[List.getD_eq_getElem?_getD,List.getElem?_eq_getElem hk];exact List.getElem_mem _
 have kl:∀i,i<(Xd vs).keys.length→Xh (Zg us vs) i=Xh (Xd vs).keys i:=fun i hi=>by
  unfold Zg Xh;rw[List.getD_eq_getElem?_getD,List.getD_eq_getElem?_getD,List.getElem?_append_left hi]
 have kr:∀i,(Xd vs).keys.length≤i→i<(Zg us vs).length→Xh (Zg us vs) i=Xh (Xd us).keys ((Za us vs (Xd us).keys.length).getD (i-(Xd vs).keys.length) 0):=fun i hi hl=>by
  have hl':i-(Xd vs).keys.length<(Za us vs (Xd us).keys.length).length:=by unfold Zg at hl;simp at hl;omega
  unfold Zg
  rw[Xh,List.getD_eq_getElem?_getD,List.getElem?_append_right hi,List.getElem?_map,List.getElem?_eq_getElem hl',List.getD_eq_getElem?_getD,List.getElem?_eq_getElem hl']
  rfl
 intro i j hij hj
 have hjl:(Zg us vs).length=(Xd vs).keys.length+(Za us vs (Xd us).keys.length).length:=by unfold Zg;simp
 by_cases ej:j<(Xd vs).keys.length
 ·rw[kl i (by omega),kl j ej];exact Xkx b2 hij ej
 ·by_cases ei:i<(Xd vs).keys.length
  ·rw[kl i ei,kr j (by omega) hj]
   have hm:=hlt (j-(Xd vs).keys.length) (by omega)
   have hno:Y5 (Xd vs).keys (Xh (Xd us).keys ((Za us vs (Xd us).keys.length).getD (j-(Xd vs).keys.length) 0))=false:=X2e _ _ _ hm
   intro e
   have:=(Xjw (key:=Xh (Xd us).keys ((Za us vs (Xd us).keys.length).getD (j-(Xd vs).keys.length) 0)) (Jh b2) ei e (fun k hk e2=>Xkx b2 hk ei (e2.trans e.symm))).1
   rw[hno] at this
   cases this
  ·rw[kr i (by omega) (by omega),kr j (by omega) hj]
   have hr:=Xy8 (fun i=>Y5 (Xd vs).keys (Xh (Xd us).keys i)) (Xd us).keys.length (i-(Xd vs).keys.length) (j-(Xd vs).keys.length) (by omega) (by unfold Za at hjl;omega)
   exact Xkx a2 hr (hix.2 _ (hlt _ (by omega)))
theorem Xc4 {us vs:List VN} (h1:okB us=true) (h2:okB vs=true) (hk1:(Xd us).kind=6) (hk2:(Xd vs).kind=6):∃ns ps,Ze (Zg us vs) (Zg us vs).length=some (ns,ps)∧Z9 us vs=Yn 6 ns (fun j=>J1 us vs (ps.getD j 0)) (Y4 us vs):=by
 obtain ⟨ns,ps,hq⟩:=Xrl (ks:=Zg us vs) (Zg us vs).length (Xsg h1 h2 hk1 hk2)
 exact ⟨ns,ps,hq,by unfold Z9;rw[hq]⟩
theorem Xl6 {l:List ByteArray} {L:Nat→List VN} {m:Nat} {f:Nat→Int} {ns:List ByteArray} {ps:List Nat} (hl:l.length=m) (hs:Ze l l.length=some (ns,ps)) (hf:Blk (RK l) (fun p=>(p:Int)) f 0 l.length):
  Yn 6 (Gk l f m) (Xmz L f) m=Yn 6 ns (fun j=>L (ps.getD j 0)) m:=by
 have hp:=Xuk hs hf
 have hlen:=(Gr hs).2
 have hk:Gk l f m=ns:=by
  rw[Xbh hs,←hl]
  have:=congrArg (List.map fun x:Int=>Xh l x.toNat) hp
  rw[List.map_map,List.map_map] at this
  unfold Gk
  refine (Eq.trans ?_ this).trans ?_
  ·rfl
  ·apply List.map_congr_left;intro n _;simp
 have hL:∀i,i<m→Xmz L f i=(fun j=>L (ps.getD j 0)) i:=fun i hi=>by
  have h1:((List.range l.length).map f)[i]? =some (f i):=by rw[List.getElem?_map,List.getElem?_range (by omega)];rfl
  rw[hp,List.getElem?_map] at h1
  rw[List.getElem?_eq_getElem (by omega)] at h1
  simp at h1
  unfold Xmz
  simp only
  rw[List.getD_eq_getElem?_getD,List.getElem?_eq_getElem (by omega),←h1]
  simp
 rw[hk,Xrp hL]
theorem Xjq {us vs:List VN} (h1:okB us=true) (h2:okB vs=true) (k:(Xd us).kind=1):Qn us vs=0∧Zu us vs=vs:=by
 unfold Qn Zu
 simp only[h1,h2,and_self,if_true,if_pos k]
theorem Xjr {us vs:List VN} (h1:okB us=true) (h2:okB vs=true) (k1:(Xd us).kind≠1) (k:(Xd vs).kind=1):Qn us vs=0∧Zu us vs=us:=by
 unfold Qn Zu
 simp only[h1,h2,and_self,if_true,if_neg k1,if_pos k]
theorem Xc5 {us vs:List VN} (h1:okB us=true) (h2:okB vs=true) (k1:(Xd us).kind≠1) (k2:(Xd vs).kind≠1) (a:¬((Xd us).kind=(Xd vs).kind∧(Xd us).kind≠2)):Qn us vs=2∧Zu us vs= []:=by
 unfold Qn Zu
 simp only[h1,h2,and_self,if_true,if_neg k1,if_neg k2,if_neg a]
theorem Uf {us vs:List VN} (h1:okB us=true) (h2:okB vs=true) (k1:(Xd us).kind≠1) (k:(Xd us).kind=(Xd vs).kind) (k3:(Xd us).kind≠2):Qn us vs=(if okB (Je us vs)=true then 0 else 3)∧Zu us vs=(if okB (Je us vs)=true then Je us vs else []):=by
 unfold Qn Zu
 have k2:(Xd vs).kind≠1:=by omega
 have a:(Xd us).kind=(Xd vs).kind∧(Xd us).kind≠2:=⟨k,k3⟩
 simp only[h1,h2,and_self,if_true,if_neg k1,if_neg k2,if_pos a]
theorem Xtl {us vs:List VN} (k:(Xd us).kind=3):Je us vs=Xjo us vs:=by unfold Je;rw[if_pos k]
theorem Xqm {us vs:List VN} (k:(Xd us).kind=4):Je us vs=Xjp us vs:=by unfold Je;rw[if_neg (by omega),if_pos k]
theorem Xqn {us vs:List VN} (k:(Xd us).kind=5):Je us vs=G7 us vs:=by unfold Je;rw[if_neg (by omega),if_neg (by omega),if_pos k]
theorem Xqo {us vs:List VN} (k:(Xd us).kind=6):Je us vs=Z9 us vs:=by unfold Je;rw[if_neg (by omega),if_neg (by omega),if_neg (by omega)]

abbrev Xt:=Nat×List (List VN)
abbrev Yc:=List VN→Xt→Int×Xt
structure OcR where
 c:Int
 l:List (List VN)
 fu:Nat
abbrev OcM:=Nat→List VN→Nat→OcR
def Xo (h:Yc):List (List VN)→Xt→Int×Xt
 | [],st=>(0,st)
 |x::r,st=>if (h x st).1=0 then Xo h r (h x st).2 else h x st
def Xq (oc:OcM) (n:Int) (v:List VN) (h:Yc) (st:Xt):Int×Xt:=
 if (oc n.toNat v st.1).c=0 then Xo h (oc n.toNat v st.1).l ((oc n.toNat v st.1).fu,st.2) else ((oc n.toNat v st.1).c,((oc n.toNat v st.1).fu,st.2))
def Xv (r:Int×List VN) (h:Yc) (st:Xt):Int×Xt:=if r.1=0 then h r.2 st else (r.1,st)
def Zq (r:OcR):OcR:=if r.c=2 then ⟨0,[],r.fu⟩ else r
def Xk:Yc:=fun x st=>if st.2.length=40 then (3,st) else (0,(st.1,st.2++ [x]))
def Qd (b:Bool):List VN:=Xu 2 (if b=true then 1 else 0) ByteArray.empty
def Jj:List VN:=Xu 1 0 ByteArray.empty
def Xx (v:List VN):Bool:= !(decide ((Xd v).kind=1))&&(!(decide ((Xd v).kind=2))||decide ((Xd v).n=1))
def Yu (ns:List VN):Int×List VN:=if okB ns=true then (0,ns) else (3,[])
def Ys (v:List VN):List (List VN):=(List.range (Xe v).length).map (PL v)
def Xl (l:List (List VN)) (j:Nat):List VN:=l.getD j []
def Zp (l:List (List VN)):List VN:=Yn 5 [] (Xl l) l.length
def Xdb (names:List ByteArray) (l:List (List VN)):List VN:=Yn 6 names (Xl l) l.length
def Jb (v:List VN) (name:ByteArray):Int×List VN:=
 if (Xd v).kind=1 then (0,Jj)
 else if (Xd v).kind=6 then (if Y5 (Xd v).keys name=true then (0,PL v (Z4 (Xd v).keys name)) else (0,Jj))
 else (2,[])
def Qe (v:List VN) (p:Int):Int:=if p<0 then p+((Xe v).length:Int) else p
def atR (v:List VN) (p:Int):Int×List VN:=
 if (Xd v).kind=1 then (0,Jj)
 else if (Xd v).kind=5 then (if 0≤Qe v p∧Qe v p<((Xe v).length:Int) then (0,PL v (Qe v p).toNat) else (0,Jj))
 else (2,[])
def V0 (v:List VN):List (List VN):=
 if (Xd v).kind=6 then (Xd v).keys.map (fun k=>Xu 4 0 k) else (List.range (Xe v).length).map (fun i:Nat=>Xu 3 (i:Int) ByteArray.empty)
def Vf (v:List VN):Int×List VN:=if (Xd v).kind=5∨(Xd v).kind=6 then Yu (Zp (V0 v)) else (2,[])
def Yf (x:FN) (v:List VN):Int×List VN:=
 if x.kind=2 then Jb v x.name
 else if x.kind=3 then atR v x.place
 else if x.kind=5 then (0,x.cst)
 else if x.kind=11 then (Xa9 v,G9 v)
 else if x.kind=12 then Vf v
 else if x.kind=13 then (0,Qd (!Xx v))
 else (0,v)
def Xb4 (kind:Int) (o:Int):Bool:=if kind=17 then decide (o=0) else if kind=18 then !decide (o=0) else if kind=19 then decide (o<0) else decide (o≤0)
def Xs (kind:Int) (a b:List VN):Int×List VN:=
 if kind=15 then (Qn a b,Zu a b) else if kind=16 then (V6 a b,Kn a b) else (0,Qd (Xb4 kind (Yt a b)))
def Z6 (oc:OcM) (names:List ByteArray) (v:List VN) (h:Yc):List Int→List (List VN)→Xt→Int×Xt
 | [],done,st=>Xv (Yu (Xdb names done)) h st
 |k::ks,done,st=>Xq oc k v (fun y=>Z6 oc names v h ks (done++ [y])) st
def Vg (h:Yc):Yc:=fun x st=>if Xx x=true then h x st else (0,st)
def Gt (oc:OcM) (k1:Int) (v:List VN) (h:Yc) (r:OcR) (outs:List (List VN)):Int×Xt:=
 if r.c=0 then (if r.l.any Xx=true then Xo (Vg h) r.l (r.fu,outs) else Xq oc k1 v h (r.fu,outs)) else (r.c,(r.fu,outs))
def Xa7 (h:Yc) (r:OcR) (outs:List (List VN)):Int×Xt:=
 if r.c=0 then Xo h r.l (r.fu,outs) else (r.c,(r.fu,outs))
def Xi (x:FN) (j:Nat):Int:=Xm x.kids j
def Gv (oc:OcM) (x:FN) (v:List VN) (h:Yc) (st:Xt):Int×Xt:=
 if (Xq oc (Xi x 0) v h st).1=0 then Xq oc (Xi x 1) v h (Xq oc (Xi x 0) v h st).2 else Xq oc (Xi x 0) v h st
def Kk (oc:OcM) (x:FN) (v:List VN) (h:Yc) (st:Xt):Int×Xt:=
 if x.kids.length=0 then h (Zp []) st
 else if (oc (Xi x 0).toNat v st.1).c=0 then Xv (Yu (Zp (oc (Xi x 0).toNat v st.1).l)) h ((oc (Xi x 0).toNat v st.1).fu,st.2)
 else ((oc (Xi x 0).toNat v st.1).c,((oc (Xi x 0).toNat v st.1).fu,st.2))
def evM (oc:OcM) (x:FN) (v:List VN) (h:Yc) (st:Xt):Int×Xt:=
 if x.kind=14 then (0,st)
 else if x.kind=4 then (if (Xd v).kind=5∨(Xd v).kind=6 then Xo h (Ys v) st else (2,st))
 else if x.kind=6 then Xq oc (Xi x 0) v (fun y=>Xq oc (Xi x 1) y h) st
 else if x.kind=7 then Gv oc x v h st
 else if x.kind=8 then Kk oc x v h st
 else if x.kind=9 then Z6 oc x.names v h x.kids [] st
 else if x.kind=10 then Xq oc (Xi x 0) v (fun y st=>if Xx y=true then h v st else (0,st)) st
 else if 15≤x.kind∧x.kind≤20 then Xq oc (Xi x 0) v (fun a=>Xq oc (Xi x 1) v (fun b=>Xv (Xs x.kind a b) h)) st
 else if x.kind=21 then Gt oc (Xi x 1) v h (Zq (oc (Xi x 0).toNat v st.1)) st.2
 else if x.kind=22 then Xq oc (Xi x 0) v (fun y=>if Xx y=true then Xq oc (Xi x 1) v h else Xq oc (Xi x 2) v h) st
 else if x.kind=23 then Xa7 h (Zq (oc (Xi x 0).toNat v st.1)) st.2
 else Xv (Yf x v) h st
def Xf (F:List FN):Nat→OcM
 |0,n,v,fu=>⟨4,[],fu⟩
 | d + 1, n, v, fu =>
  if fu=0 then ⟨4,[],0⟩
  else if (evM (Xf F d) (Xr F n) v Xk (fu-1,[])).1=0 then ⟨0,(evM (Xf F d) (Xr F n) v Xk (fu-1,[])).2.2,(evM (Xf F d) (Xr F n) v Xk (fu-1,[])).2.1⟩
  else ⟨(evM (Xf F d) (Xr F n) v Xk (fu-1,[])).1,[],(evM (Xf F d) (Xr F n) v Xk (fu-1,[])).2.1⟩
def Ue (G:Xt→Xt→Prop) (h:Yc):Prop:=∀x st,okB x=true→G st (h x st).2
structure OcGood (oc:OcM):Prop where
 ok:∀n v fu,okB v=true→∀x∈(oc n v fu).l,okB x=true
 few:∀n v fu,okB v=true→(oc n v fu).l.length≤40
 le:∀n v fu,okB v=true→(oc n v fu).fu≤fu
def Goes (st st':Xt):Prop:=st'.1≤st.1∧((∀x∈st.2,okB x=true)→∀x∈st'.2,okB x=true)∧(st.2.length≤40→st'.2.length≤40)
theorem Goes.refl (st:Xt):Goes st st:=⟨Nat.le_refl _,id,id⟩
theorem Goes.trans {a b c:Xt} (h:Goes a b) (k:Goes b c):Goes a c:=⟨Nat.le_trans k.1 h.1,fun x=>k.2.1 (h.2.1 x),fun x=>k.2.2 (h.2.2 x)⟩
theorem U0 {h:Yc} (hh:Ue Goes h):∀(l:List (List VN)) (st:Xt),(∀x∈l,okB x=true)→Goes st (Xo h l st).2:=by
 intro l
 induction l with
 |nil=>intro st _;exact Goes.refl _
 | cons x r ih =>
  intro st hl
  rw[Xo]
  have h1:=hh x st (hl x (by simp))
  split
  ·exact h1.trans (ih _ fun y hy=>hl y (by simp[hy]))
  ·exact h1
theorem Xar {oc:OcM} (ho:OcGood oc) {h:Yc} (hh:Ue Goes h) (n:Int) {v:List VN} (hv:okB v=true) (st:Xt):Goes st (Xq oc n v h st).2:=by
 unfold Xq
 have h1:Goes st ((oc n.toNat v st.1).fu,st.2):=⟨ho.le _ _ _ hv,id,id⟩
 split
 ·exact h1.trans (U0 hh _ _ (ho.ok _ _ _ hv))
 ·exact h1
theorem Xt4 {h:Yc} (hh:Ue Goes h) {r:Int×List VN} (hr:r.1=0→okB r.2=true) (st:Xt):Goes st (Xv r h st).2:=by
 unfold Xv
 split
 ·rename_i e;exact hh _ _ (hr e)
 ·exact Goes.refl _
theorem Xd0 {ns:List VN} (h:(Yu ns).1=0):okB (Yu ns).2=true:=by
 unfold Yu at h⊢
 split<;>simp_all
theorem Xwr:Ue Goes Xk:=by
 intro x st hx
 unfold Xk
 split
 ·exact Goes.refl _
 ·rename_i e
  refine ⟨Nat.le_refl _,fun h y hy=> ?_,fun h=> ?_⟩
  ·simp only[List.mem_append,List.mem_singleton] at hy
   rcases hy with hy|rfl
   ·exact h y hy
   ·exact hx
  ·simp only[List.length_append,List.length_singleton];omega

theorem Xdh {k n:Int} {s:ByteArray} (h:X9 ⟨k,n,s,[],[]⟩=true):okB (Xu k n s)=true:=by
 unfold okB Ub
 have e2:(List.range (Xu k n s).length)= [0]:=by unfold Xu;rfl
 rw[e2]
 have e3:Xb (Xu k n s) 0=⟨k,n,s,[],[]⟩:=rfl
 have e4:Z8 (Xu k n s) 0=true:=rfl
 have e5:Jy (Xu k n s)=true:=rfl
 rw[e5,Bool.and_true]
 simp only[List.all_cons,List.all_nil,e3,h,e4,Bool.and_self,Bool.and_true]
 rfl
theorem Wd:ByteArray.empty.toList= []:=by rw[ByteArray.toList_eq];rfl
theorem Xbq:okB Jj=true:=Xdh (by unfold X9 Yv Zk;simp[Wd])
theorem Xgk (b:Bool):okB (Qd b)=true:=Xdh (by unfold X9 Yv Zk;cases b<;>simp[Wd])
theorem Xgl {v:List VN} (h:okB v=true) {j:Nat} (hj:j<(Xe v).length):okB (PL v j)=true:=by
 obtain ⟨q,hq,hql⟩:=Zj h hj
 unfold PL
 rw[hq,Int.toNat_natCast]
 exact Xec h (by omega)
theorem Xw5 {v:List VN} (h:okB v=true):∀x∈Ys v,okB x=true:=by
 intro x hx
 unfold Ys at hx
 obtain ⟨j,hj,rfl⟩:=List.mem_map.1 hx
 exact Xgl h (List.mem_range.1 hj)
theorem Xkc {l:List ByteArray} {key:ByteArray} (h:Y5 l key=true):Z4 l key<l.length:=by
 unfold Y5 at h
 simp only[Bool.and_eq_true,decide_eq_true_eq] at h
 exact h.1
theorem X29 {v:List VN} (h:okB v=true) (s:ByteArray) (he:(Jb v s).1=0):okB (Jb v s).2=true:=by
 unfold Jb at he⊢
 by_cases k1:(Xd v).kind=1
 ·rw[if_pos k1];exact Xbq
 ·rw[if_neg k1] at he⊢
  by_cases k6:(Xd v).kind=6
  ·rw[if_pos k6]
   by_cases hk:Y5 (Xd v).keys s=true
   ·rw[if_pos hk]
    have:=Xkc hk
    exact Xgl h (by rw[←(Y7 h k6).1];exact this)
   ·rw[if_neg hk];exact Xbq
  ·rw[if_neg k6] at he;simp at he
theorem X4q {v:List VN} (h:okB v=true) (p:Int) (he:(atR v p).1=0):okB (atR v p).2=true:=by
 unfold atR at he⊢
 by_cases k1:(Xd v).kind=1
 ·rw[if_pos k1];exact Xbq
 ·rw[if_neg k1] at he⊢
  by_cases k5:(Xd v).kind=5
  ·rw[if_pos k5]
   by_cases hp:0≤Qe v p∧Qe v p<((Xe v).length:Int)
   ·rw[if_pos hp];exact Xgl h (by omega)
   ·rw[if_neg hp];exact Xbq
  ·rw[if_neg k5] at he;simp at he
theorem X0p {v:List VN} (he:(Vf v).1=0):okB (Vf v).2=true:=by
 unfold Vf at he⊢
 split
 ·rename_i h;rw[if_pos h] at he;exact Xd0 he
 ·rename_i h;rw[if_neg h] at he;simp at he
theorem Xiw {n:Int} (h1: -1000000000000000≤n) (h2:n≤1000000000000000):okB (Xu 3 n ByteArray.empty)=true:=Xdh (by unfold X9 Yv Zk;simp[Wd,h1,h2])
theorem Xw6 {v:List VN} (h:okB v=true) (he:Xa9 v=0):okB (G9 v)=true:=by
 unfold Xa9 at he
 unfold G9
 rw[if_pos h] at he⊢
 cases hl:Zn (Xd v) with
 |none=>rw[hl] at he;simp[Xiy] at he
 | some n =>
  have:=Xlk h hl
  exact Xiw (by omega) this.2
theorem X3a {x:FN} {v:List VN} (hx:x.kind=5→okB x.cst=true) (h:okB v=true) (he:(Yf x v).1=0):okB (Yf x v).2=true:=by
 unfold Yf at he⊢
 by_cases k2:x.kind=2
 ·rw[if_pos k2] at he⊢;exact X29 h _ he
 rw[if_neg k2] at he⊢
 by_cases k3:x.kind=3
 ·rw[if_pos k3] at he⊢;exact X4q h _ he
 rw[if_neg k3] at he⊢
 by_cases k5:x.kind=5
 ·rw[if_pos k5] at he⊢;exact hx k5
 rw[if_neg k5] at he⊢
 by_cases k11:x.kind=11
 ·rw[if_pos k11] at he⊢;exact Xw6 h he
 rw[if_neg k11] at he⊢
 by_cases k12:x.kind=12
 ·rw[if_pos k12] at he⊢;exact X0p he
 rw[if_neg k12] at he⊢
 by_cases k13:x.kind=13
 ·rw[if_pos k13];exact Xgk _
 rw[if_neg k13];exact h
theorem Xkd {a b:List VN} (he:Qn a b=0):okB (Zu a b)=true:=by
 unfold Qn at he
 unfold Zu
 by_cases h:okB a=true∧okB b=true
 ·rw[if_pos h] at he⊢
  by_cases k1:(Xd a).kind=1
  ·rw[if_pos k1];exact h.2
  rw[if_neg k1] at he⊢
  by_cases k2:(Xd b).kind=1
  ·rw[if_pos k2];exact h.1
  rw[if_neg k2] at he⊢
  by_cases k3:(Xd a).kind=(Xd b).kind∧(Xd a).kind≠2
  ·rw[if_pos k3] at he⊢
   by_cases r:okB (Je a b)=true
   ·rw[if_pos r];exact r
   ·rw[if_neg r] at he;simp at he
  ·rw[if_neg k3] at he;simp at he
 ·rw[if_neg h] at he;simp at he
theorem Ul {vs:List VN} (h:okB vs=true):∀j,j<vs.length→Fits (Xb vs j):=by
 have p:=(Xp h).1
 have:=Xxq (V7 h vs.length (vs.length-1) (by omega) (by omega)) (by rw[K4 h];omega)
 rwa [K4 h] at this
theorem Xup {us:List VN} (hok:okB us=true) (hk:(Xd us).kind=5) (vs:List VN):okB (Vp us vs)=true:=by
 have p:=(Xp hok).1
 have hl:=Xov hok vs (F:=us.length) (Nat.le_refl _)
 have hg:goodT (us.length+1) (.mk 5 0 ByteArray.empty [] (Zt us vs us.length)):=by
  refine ⟨by unfold Xd4 X9 Yv Zk;simp,fun j hj=> ?_⟩
  have hj':j<(Ym us vs (Xe us).length).length:=by simpa [Zt] using hj
  have hm:=(V5 us vs (Xe us).length).2 _ (List.getElem_mem hj')
  obtain ⟨q,hq,hql⟩:=Zj hok hm
  have e:Yl (Zt us vs us.length) j=Xw us us.length q:=by
   unfold Zt Yl
   rw[List.getD_eq_getElem?_getD,List.getElem?_map,List.getElem?_eq_getElem hj']
   simp[hq]
  rw[e]
  exact V7 hok _ _ (by omega) (by omega)
 rw[←hl]
 refine (Xwx hg.full).2 ⟨?_,hg, ?_⟩
 ·rw[hl];exact (Xou hok hk vs (Ul hok)).1.1
 ·have hgt:=V7 hok (us.length+1) (us.length-1) (by omega) (by omega)
  have hw:Yi (us.length+1) (Xw us (us.length+1) (us.length-1)) 0=us:=by
   have h1:=Xfr (V7 hok us.length (us.length-1) (by omega) (by omega)).full us 0 (us.length+1) (by omega) (fun j hj=>by rw[Nat.zero_add,K4 hok])
   rw[K4 hok,Nat.zero_add] at h1
   rw[h1,Xyl (V7 hok us.length (us.length-1) (by omega) (by omega)).full (by omega),K4 hok]
  have h8:=((Xwx hgt.full).1 (by rw[hw];exact hok)).2.2
  rw[Xw,hiT] at h8
  rw[hiT]
  have hb:hiK (hiT us.length) (Zt us vs us.length) (Zt us vs us.length).length≤7:=Xym fun j hj=>by
   have hj':j<(Ym us vs (Xe us).length).length:=by simpa [Zt] using hj
   have hm:=(V5 us vs (Xe us).length).2 _ (List.getElem_mem hj')
   have e:Yl (Zt us vs us.length) j=Xw us us.length (Xm (Xe us) ((Ym us vs (Xe us).length)[j])).toNat:=by
    unfold Zt Yl
    rw[List.getD_eq_getElem?_getD,List.getElem?_map,List.getElem?_eq_getElem hj']
    rfl
   have h9:=X48 (F:=hiT us.length) (kids:=(Xb us (us.length-1)).kids.map fun k=>Xw us us.length k.toNat) (m:=((Xb us (us.length-1)).kids.map fun k=>Xw us us.length k.toNat).length) (j:=(Ym us vs (Xe us).length)[j]) (by rw[List.length_map];exact hm)
   rw[Ud (by exact hm)] at h9
   rw[e]
   have h10:hiT us.length (Xw us us.length (Xm (Xe us) ((Ym us vs (Xe us).length)[j])).toNat)≤hiK (hiT us.length) ((Xb us (us.length-1)).kids.map fun k=>Xw us us.length k.toNat) ((Xb us (us.length-1)).kids.map fun k=>Xw us us.length k.toNat).length:=h9
   omega
  omega
theorem Xok {a b:List VN} (he:V6 a b=0):okB (Kn a b)=true:=by
 unfold V6 at he
 unfold Kn
 by_cases h:okB a=true∧okB b=true
 ·rw[if_pos h] at he⊢
  by_cases k3:(Xd a).kind=3∧(Xd b).kind=3
  ·rw[if_pos k3] at he⊢
   by_cases r:okB (Gx a b)=true
   ·rw[if_pos r];exact r
   ·rw[if_neg r] at he;simp at he
  ·rw[if_neg k3] at he⊢
   by_cases k5:(Xd a).kind=5∧(Xd b).kind=5
   ·rw[if_pos k5];exact Xup h.1 k5.1 b
   ·rw[if_neg k5] at he;simp at he
 ·rw[if_neg h] at he;simp at he

theorem Xbb:okB (Zp [])=true:=by
 have e:Zp []=Xu 5 0 ByteArray.empty:=rfl
 rw[e]
 exact Xdh (by unfold X9 Yv Zk;simp[Wd])
structure Closed (oc:OcM) (Pr:(Xt→Int×Xt)→Prop):Prop where
 pure:∀c,Pr (fun st=>(c,st))
 all:∀h l,(∀x∈l,okB x=true)→(∀x,okB x=true→Pr (h x))→Pr (Xo h l)
 each:∀n v h,okB v=true→(∀x,okB x=true→Pr (h x))→Pr (Xq oc n v h)
 comma:∀x v h,okB v=true→(∀y,okB y=true→Pr (h y))→Pr (Gv oc x v h)
 list:∀x v h,okB v=true→(∀y,okB y=true→Pr (h y))→Pr (Kk oc x v h)
 alt:∀k0 k1 v h,okB v=true→(∀y,okB y=true→Pr (h y))→Pr (fun st=>Gt oc k1 v h (Zq (oc k0 v st.1)) st.2)
 tri:∀k0 v h,okB v=true→(∀y,okB y=true→Pr (h y))→Pr (fun st=>Xa7 h (Zq (oc k0 v st.1)) st.2)
theorem Xcb {oc:OcM} {Pr:(Xt→Int×Xt)→Prop} (C:Closed oc Pr) {h:Yc} (hh:∀y,okB y=true→Pr (h y)) {r:Int×List VN} (hr:r.1=0→okB r.2=true):Pr (Xv r h):=by
 by_cases e:r.1=0
 ·have:Xv r h=h r.2:=by funext st;unfold Xv;rw[if_pos e]
  rw[this];exact hh _ (hr e)
 ·have:Xv r h=fun st=>(r.1,st):=by funext st;unfold Xv;rw[if_neg e]
  rw[this];exact C.pure _
theorem Xu0 {oc:OcM} {Pr:(Xt→Int×Xt)→Prop} (C:Closed oc Pr) {h:Yc} (hh:∀y,okB y=true→Pr (h y)) (names:List ByteArray) {v:List VN} (hv:okB v=true):∀(ks:List Int) (done:List (List VN)),Pr (Z6 oc names v h ks done):=by
 intro ks
 induction ks with
 |nil=>intro done;exact Xcb C hh Xd0
 |cons k ks ih=>intro done;exact C.each k v _ hv fun y _=>ih _
theorem Xhy {k:Int} {a b:List VN} (ha:okB a=true) (hb:okB b=true) (he:(Xs k a b).1=0):okB (Xs k a b).2=true:=by
 unfold Xs at he⊢
 by_cases k1:k=15
 ·rw[if_pos k1] at he⊢;exact Xkd he
 rw[if_neg k1] at he⊢
 by_cases k2:k=16
 ·rw[if_pos k2] at he⊢;exact Xok he
 rw[if_neg k2] at he⊢
 exact Xgk _
theorem Xxt {oc:OcM} {Pr:(Xt→Int×Xt)→Prop} (C:Closed oc Pr) {x:FN} {v:List VN} {h:Yc} (hx:x.kind=5→okB x.cst=true) (hv:okB v=true) (hh:∀y,okB y=true→Pr (h y)):Pr (evM oc x v h):=by
 by_cases k14:x.kind=14
 ·have:evM oc x v h=fun st=>(0,st):=by funext st;unfold evM;rw[if_pos k14]
  rw[this];exact C.pure 0
 by_cases k4:x.kind=4
 ·by_cases hn:(Xd v).kind=5∨(Xd v).kind=6
  ·have:evM oc x v h=Xo h (Ys v):=by funext st;unfold evM;rw[if_neg k14,if_pos k4,if_pos hn]
   rw[this];exact C.all _ _ (Xw5 hv) hh
  ·have:evM oc x v h=fun st=>(2,st):=by funext st;unfold evM;rw[if_neg k14,if_pos k4,if_neg hn]
   rw[this];exact C.pure 2
 by_cases k6:x.kind=6
 ·have:evM oc x v h=Xq oc (Xi x 0) v (fun y=>Xq oc (Xi x 1) y h):=by funext st;unfold evM;rw[if_neg k14,if_neg k4,if_pos k6]
  rw[this];exact C.each _ _ _ hv fun y hy=>C.each _ _ _ hy hh
 by_cases k7:x.kind=7
 ·have:evM oc x v h=Gv oc x v h:=by funext st;unfold evM;rw[if_neg k14,if_neg k4,if_neg k6,if_pos k7]
  rw[this];exact C.comma _ _ _ hv hh
 by_cases k8:x.kind=8
 ·have:evM oc x v h=Kk oc x v h:=by funext st;unfold evM;rw[if_neg k14,if_neg k4,if_neg k6,if_neg k7,if_pos k8]
  rw[this];exact C.list _ _ _ hv hh
 by_cases k9:x.kind=9
 ·have:evM oc x v h=Z6 oc x.names v h x.kids []:=by funext st;unfold evM;rw[if_neg k14,if_neg k4,if_neg k6,if_neg k7,if_neg k8,if_pos k9]
  rw[this];exact Xu0 C hh _ hv _ _
 by_cases k10:x.kind=10
 ·have:evM oc x v h=Xq oc (Xi x 0) v (fun y st=>if Xx y=true then h v st else (0,st)):=by funext st;unfold evM;rw[if_neg k14,if_neg k4,if_neg k6,if_neg k7,if_neg k8,if_neg k9,if_pos k10]
  rw[this]
  refine C.each _ _ _ hv fun y hy=> ?_
  by_cases t:Xx y=true
  ·simp only[t,if_true];exact hh v hv
  ·simp only[t];exact C.pure 0
 by_cases k15:15≤x.kind∧x.kind≤20
 ·have:evM oc x v h=Xq oc (Xi x 0) v (fun a=>Xq oc (Xi x 1) v (fun b=>Xv (Xs x.kind a b) h)):=by funext st;unfold evM;rw[if_neg k14,if_neg k4,if_neg k6,if_neg k7,if_neg k8,if_neg k9,if_neg k10,if_pos k15]
  rw[this];exact C.each _ _ _ hv fun a ha=>C.each _ _ _ hv fun b hb=>Xcb C hh (Xhy ha hb)
 by_cases k21:x.kind=21
 ·have:evM oc x v h=fun st=>Gt oc (Xi x 1) v h (Zq (oc (Xi x 0).toNat v st.1)) st.2:=by funext st;unfold evM;rw[if_neg k14,if_neg k4,if_neg k6,if_neg k7,if_neg k8,if_neg k9,if_neg k10,if_neg k15,if_pos k21]
  rw[this];exact C.alt _ _ _ _ hv hh
 by_cases k22:x.kind=22
 ·have:evM oc x v h=Xq oc (Xi x 0) v (fun y=>if Xx y=true then Xq oc (Xi x 1) v h else Xq oc (Xi x 2) v h):=by funext st;unfold evM;rw[if_neg k14,if_neg k4,if_neg k6,if_neg k7,if_neg k8,if_neg k9,if_neg k10,if_neg k15,if_neg k21,if_pos k22]
  rw[this]
  refine C.each _ _ _ hv fun y hy=> ?_
  by_cases t:Xx y=true
  ·rw[if_pos t];exact C.each _ _ _ hv hh
  ·rw[if_neg t];exact C.each _ _ _ hv hh
 by_cases k23:x.kind=23
 ·have:evM oc x v h=fun st=>Xa7 h (Zq (oc (Xi x 0).toNat v st.1)) st.2:=by funext st;unfold evM;rw[if_neg k14,if_neg k4,if_neg k6,if_neg k7,if_neg k8,if_neg k9,if_neg k10,if_neg k15,if_neg k21,if_neg k22,if_pos k23]
  rw[this];exact C.tri _ _ _ hv hh
 have:evM oc x v h=Xv (Yf x v) h:=by funext st;unfold evM;rw[if_neg k14,if_neg k4,if_neg k6,if_neg k7,if_neg k8,if_neg k9,if_neg k10,if_neg k15,if_neg k21,if_neg k22,if_neg k23]
 rw[this];exact Xcb C hh (X3a hx hv)
def X2j (F:List FN):Prop:=∀n,(Xr F n).kind=5→okB (Xr F n).cst=true
theorem Xu1 {h:Yc} (hh:Ue Goes h):Ue Goes (Vg h):=by
 intro x st hx
 unfold Vg
 split
 ·exact hh x st hx
 ·exact Goes.refl _
theorem Xay {oc:OcM} (ho:OcGood oc) (n:Nat) {v:List VN} (hv:okB v=true) (fu:Nat):(∀x∈(Zq (oc n v fu)).l,okB x=true)∧(Zq (oc n v fu)).fu≤fu:=by
 unfold Zq
 split
 ·exact ⟨fun x hx=>by simp at hx,ho.le _ _ _ hv⟩
 ·exact ⟨ho.ok _ _ _ hv,ho.le _ _ _ hv⟩
theorem Xr2 {oc:OcM} (ho:OcGood oc):Closed oc (fun g=>∀st,Goes st (g st).2):=by
 have tog:∀{h:Yc},(∀y,okB y=true→∀st,Goes st (h y st).2)→Ue Goes h:=fun hh x st hx=>hh x hx st
 refine ⟨fun c st=>Goes.refl _,fun h l hl hh st=>U0 (tog hh) l st hl,fun n v h hv hh st=>Xar ho (tog hh) n hv st,fun x v h hv hh st=> ?_,fun x v h hv hh st=> ?_,fun k0 k1 v h hv hh st=> ?_,fun k0 v h hv hh st=> ?_⟩
 ·unfold Gv
  split
  ·exact (Xar ho (tog hh) _ hv st).trans (Xar ho (tog hh) _ hv _)
  ·exact Xar ho (tog hh) _ hv st
 ·unfold Kk
  have h1:Goes st ((oc (Xi x 0).toNat v st.1).fu,st.2):=⟨ho.le _ _ _ hv,id,id⟩
  split
  ·exact hh _ Xbb st
  ·split
   ·exact h1.trans (Xt4 (tog hh) Xd0 _)
   ·exact h1
 ·obtain ⟨g1,g2⟩:=Xay ho k0 hv st.1
  have h1:Goes st ((Zq (oc k0 v st.1)).fu,st.2):=⟨g2,id,id⟩
  show Goes st (Gt oc k1 v h (Zq (oc k0 v st.1)) st.2).2
  unfold Gt
  split
  ·split
   ·exact h1.trans (U0 (Xu1 (tog hh)) _ _ g1)
   ·exact h1.trans (Xar ho (tog hh) _ hv _)
  ·exact h1
 ·obtain ⟨g1,g2⟩:=Xay ho k0 hv st.1
  have h1:Goes st ((Zq (oc k0 v st.1)).fu,st.2):=⟨g2,id,id⟩
  show Goes st (Xa7 h (Zq (oc k0 v st.1)) st.2).2
  unfold Xa7
  split
  ·exact h1.trans (U0 (tog hh) _ _ g1)
  ·exact h1
theorem X1h {F:List FN} (hF:X2j F):∀d,OcGood (Xf F d):=by
 intro d
 induction d with
 |zero=>exact ⟨fun n v fu _ x hx=>by simp[Xf] at hx,fun n v fu _=>by simp[Xf],fun n v fu _=>by simp[Xf]⟩
 | succ d ih =>
  have key:∀n v fu,okB v=true→Goes (fu-1,[]) (evM (Xf F d) (Xr F n) v Xk (fu-1,[])).2:=fun n v fu hv=>Xxt (Xr2 ih) (hF n) hv (fun y hy st=>Xwr y st hy) (fu-1,[])
  refine ⟨fun n v fu hv x hx=> ?_,fun n v fu hv=> ?_,fun n v fu hv=> ?_⟩
  ·have:=key n v fu hv
   rw[Xf] at hx
   split at hx
   ·simp at hx
   ·split at hx
    ·exact this.2.1 (by simp) x hx
    ·simp at hx
  ·have:=key n v fu hv
   rw[Xf]
   split
   ·simp
   ·split
    ·exact this.2.2 (by simp)
    ·simp
  ·have:=(key n v fu hv).1
   rw[Xf]
   split
   ·simp
   ·split
    ·simp at this⊢;omega
    ·simp at this⊢;omega

structure NodeOk (fs:List FN) (x:FN):Prop where
 fit:Xz x=true
 kid:∀j,j<x.kids.length→0≤Xi x j∧(Xi x j).toNat<fs.length
theorem Xkw {fs:List FN} (h:okF fs=true) {n:Nat} (hn:n<fs.length):NodeOk fs (Xr fs n):=by
 unfold okF at h
 simp only[Bool.and_eq_true,List.all_eq_true,List.mem_range] at h
 have h1:=h.1.2 n hn
 refine ⟨h1.1,fun j hj=> ?_⟩
 have h2:=h1.2
 unfold J6 at h2
 simp only[List.all_eq_true,Bool.and_eq_true,decide_eq_true_eq] at h2
 have h3:=h2 (Xm (Xr fs n).kids j) (by unfold Q7;rw[Zd hj];exact List.getElem_mem _)
 unfold Xi
 omega
theorem NodeOk.parts {fs:List FN} {x:FN} (h:NodeOk fs x):Ka x=true∧Jw x=true:=by
 have:=h.fit
 unfold Xz at this
 simp only[Bool.and_eq_true] at this
 exact ⟨this.1.2,this.2⟩
theorem NodeOk.range {fs:List FN} {x:FN} (h:NodeOk fs x):1≤x.kind∧x.kind≤23:=by
 have:=h.parts.2
 unfold Jw at this
 by_cases k8:x.kind=8
 ·omega
 rw[if_neg k8] at this
 by_cases k9:x.kind=9
 ·omega
 rw[if_neg k9] at this
 simp only[Bool.and_eq_true,decide_eq_true_eq] at this
 omega
theorem NodeOk.many {fs:List FN} {x:FN} (h:NodeOk fs x) (k8:x.kind≠8) (k9:x.kind≠9):(x.kids.length:Int)=kidsN x.kind:=by
 have:=h.parts.2
 unfold Jw at this
 rw[if_neg k8,if_neg k9] at this
 simp only[Bool.and_eq_true,decide_eq_true_eq] at this
 exact this.2
theorem NodeOk.two {fs:List FN} {x:FN} (h:NodeOk fs x) (k:x.kind=6∨x.kind=7∨(15≤x.kind∧x.kind≤21)):x.kids.length=2:=by
 have h1:=h.many (by omega) (by omega)
 have e:kidsN x.kind=2:=by unfold kidsN;rw[if_pos (by omega)]
 omega
theorem NodeOk.one {fs:List FN} {x:FN} (h:NodeOk fs x) (k:x.kind=10∨x.kind=23):x.kids.length=1:=by
 have h1:=h.many (by omega) (by omega)
 have e:kidsN x.kind=1:=by unfold kidsN;rw[if_neg (by omega),if_pos k]
 omega
theorem NodeOk.three {fs:List FN} {x:FN} (h:NodeOk fs x) (k:x.kind=22):x.kids.length=3:=by
 have h1:=h.many (by omega) (by omega)
 have e:kidsN x.kind=3:=by unfold kidsN;rw[if_neg (by omega),if_neg (by omega),if_pos k]
 omega
theorem NodeOk.list {fs:List FN} {x:FN} (h:NodeOk fs x) (k:x.kind=8):x.kids.length≤1:=by
 have:=h.parts.2
 unfold Jw at this
 rw[if_pos k] at this
 simpa using this
theorem NodeOk.map {fs:List FN} {x:FN} (h:NodeOk fs x) (k:x.kind=9):x.kids.length=x.names.length∧x.names.length≤5:=by
 have h1:=h.parts.2
 have h2:=h.parts.1
 unfold Jw at h1
 rw[if_neg (by omega),if_pos k] at h1
 unfold Ka at h2
 rw[if_neg (by omega),if_neg (by omega),if_neg (by omega),if_pos k] at h2
 unfold Q9 at h2
 simp only[Bool.and_eq_true,decide_eq_true_eq] at h2
 exact ⟨by simpa using h1,h2.1⟩
theorem NodeOk.key {fs:List FN} {x:FN} (h:NodeOk fs x) (k:x.kind=2):x.name.size≤60:=by
 have h2:=h.parts.1
 unfold Ka at h2
 rw[if_pos k] at h2
 unfold Y8 at h2
 simp only[Bool.and_eq_true,decide_eq_true_eq] at h2
 exact h2.1.1.2
theorem NodeOk.place {fs:List FN} {x:FN} (h:NodeOk fs x) (k:x.kind=3): -80≤x.place∧x.place≤80:=by
 have h2:=h.parts.1
 unfold Ka at h2
 rw[if_neg (by omega),if_pos k] at h2
 simpa using h2
theorem NodeOk.cst {fs:List FN} {x:FN} (h:NodeOk fs x) (k:x.kind=5):x.cst.length=1∧okB x.cst=true:=by
 have h2:=h.parts.1
 unfold Ka at h2
 rw[if_neg (by omega),if_neg (by omega),if_pos k] at h2
 unfold Vt at h2
 simp only[Bool.and_eq_true,decide_eq_true_eq] at h2
 exact ⟨h2.1.1.1,h2.1.1.2⟩
theorem X5c {fs:List FN} (h:okF fs=true):X2j fs:=by
 intro n k
 by_cases hn:n<fs.length
 ·exact ((Xkw h hn).cst k).2
 ·have e:Xr fs n=FN.zero:=by unfold Xr;rw[List.getD_eq_getElem?_getD,List.getElem?_eq_none (by omega)];rfl
  rw[e] at k
  exact absurd k (by decide)
theorem Yr {fs:List FN} (h:okF fs=true) (d:Nat):OcGood (Xf fs d):=X1h (X5c h) d

theorem X1x:∀(l:List (List VN)) (fu:Nat) (out:List (List VN)),out.length≤40→Xo Xk l (fu,out)=if out.length+l.length≤40 then (0,(fu,out++l)) else (3,(fu,(out++l).take 40)):=by
 intro l
 induction l with
 |nil=>intro fu out h;rw[if_pos (by simpa using h)];simp[Xo]
 | cons x r ih =>
  intro fu out h
  rw[Xo]
  by_cases e:out.length=40
  ·have h1:Xk x (fu,out)=(3,(fu,out)):=by unfold Xk;rw[if_pos e]
   rw[h1,if_neg (show ¬((3:Int)=0) by decide),if_neg (by simp;omega)]
   have h2:(out++x::r).take 40=out:=by rw[←e];exact List.take_left' rfl
   rw[h2]
  ·have h1:Xk x (fu,out)=(0,(fu,out++ [x])):=by unfold Xk;rw[if_neg e]
   rw[h1,if_pos rfl,ih fu (out++ [x]) (by simp;omega)]
   have e1:(out++ [x]).length+r.length=out.length+(x::r).length:=by simp;omega
   rw[e1,List.append_assoc]
   rfl
theorem Xvm (r:Int×List VN) (st:Xt):Xv r Xk st=if r.1=0 then Xo Xk [r.2] st else (r.1,st):=by
 unfold Xv
 split
 ·rw[Xo]
  split
  ·rename_i h1 h2
   show Xk r.2 st=(0,(Xk r.2 st).2)
   rw[←h2]
  ·rfl
 ·rfl
def Now (R:Int×Xt) (k:Xt→Int×Xt) (c:Int) (fu:Nat) (out:List (List VN)):Prop:=(c=0→k (fu,out)=R∧out.length≤40)∧(c≠0→R.1=c∧R.2.1=fu)
theorem Now.start {R:Int×Xt} {k:Xt→Int×Xt} {fu:Nat} {out:List (List VN)} (h:k (fu,out)=R) (hl:out.length≤40):Now R k 0 fu out:=⟨fun _=>⟨h,hl⟩,fun h=>absurd rfl h⟩
theorem Now.dead {R:Int×Xt} {k:Xt→Int×Xt} {c:Int} {fu:Nat} {out:List (List VN)} (h:Now R k c fu out) (hc:c≠0) (k':Xt→Int×Xt) (out':List (List VN)):Now R k' c fu out':=⟨fun e=>absurd e hc,h.2⟩
theorem Now.fin {R:Int×Xt} {c:Int} {fu:Nat} {out:List (List VN)} (h:Now R (fun st=>(0,st)) c fu out):c=R.1∧fu=R.2.1∧(c=0→out=R.2.2):=by
 by_cases e:c=0
 ·obtain ⟨h1,_⟩:=h.1 e
  subst e
  rw[←h1]
  exact ⟨rfl,rfl,fun _=>rfl⟩
 ·exact ⟨(h.2 e).1.symm,(h.2 e).2.symm,fun e2=>absurd e2 e⟩
def Y6 (c:Int) (n:Nat):Int:=if c=0∧40<n then 3 else c
theorem Xbt {c:Int} {n:Nat} (h:c≠0):Y6 c n=c:=by unfold Y6;rw[if_neg (by omega)]
theorem W8 {c:Int} {n:Nat} (h:n≤40):Y6 c n=c:=by unfold Y6;rw[if_neg (by omega)]
def Yd (a:Int×Xt) (k:Xt→Int×Xt):Int×Xt:=if a.1=0 then k a.2 else a
theorem Xa1 (a:Int×Xt):Yd a (fun st=>(0,st))=a:=by
 unfold Yd
 split
 ·rename_i h;rw[←h]
 ·rfl
theorem Xpv (h:Yc) (x:List VN) (r:List (List VN)) (st:Xt):Xo h (x::r) st=Yd (h x st) (Xo h r):=rfl
theorem Up {R:Int×Xt} {k:Xt→Int×Xt} {c0:Int} {l m out:List (List VN)} {fu:Nat} (hl:out.length≤40) (hm:c0=0→m=l) (h:R=Yd (if c0=0 then Xo Xk l (fu,out) else (c0,(fu,out))) k):Now R k (Y6 c0 (out.length+m.length)) fu (out++m):=by
 by_cases e:c0=0
 ·obtain rfl:=hm e
  subst e
  rw[if_pos rfl,X1x m fu out hl] at h
  by_cases e1:out.length+m.length≤40
  ·rw[if_pos e1] at h
   rw[W8 e1]
   exact ⟨fun _=>⟨by rw[h];rfl,by simpa using e1⟩,fun e=>absurd rfl e⟩
  ·rw[if_neg e1] at h
   have e2:Y6 0 (out.length+m.length)=3:=by unfold Y6;rw[if_pos ⟨rfl,by omega⟩]
   rw[e2]
   refine ⟨fun e=>by omega,fun _=> ?_⟩
   rw[h]
   exact ⟨rfl,rfl⟩
 ·rw[Xbt e]
  rw[if_neg e] at h
  refine ⟨fun e2=>absurd e2 e,fun _=> ?_⟩
  have e3:Yd (c0,(fu,out)) k=(c0,(fu,out)):=by unfold Yd;rw[if_neg e]
  rw[h,e3]
  exact ⟨rfl,rfl⟩
def Y0 (r:Int×List VN):List (List VN):=if r.1=0 then [r.2] else []
theorem Vm (r:Int×List VN):(Y0 r).length≤1:=by unfold Y0;split<;>simp
theorem Uq {R:Int×Xt} {k:Xt→Int×Xt} {r:Int×List VN} {out:List (List VN)} {fu:Nat} (hl:out.length≤40) (h:R=Yd (Xv r Xk (fu,out)) k):Now R k (Y6 r.1 (out.length+(Y0 r).length)) fu (out++Y0 r):=
 Up (l:= [r.2]) hl (fun e=>by unfold Y0;rw[if_pos e]) (by rw[h,Xvm])
theorem Ur {oc:OcM} {n:Int} {v:List VN} {fu:Nat} {out:List (List VN)} {r:OcR} (hr:oc n.toNat v fu=r):Xq oc n v Xk (fu,out)=if r.c=0 then Xo Xk r.l (r.fu,out) else (r.c,(r.fu,out)):=by
 unfold Xq
 show (if (oc n.toNat v fu).c=0 then _ else _)=_
 rw[hr]
theorem Xpw {oc:OcM} {n:Int} {v:List VN} {h:Yc} {fu:Nat} {out:List (List VN)} {r:OcR} (hr:oc n.toNat v fu=r):Xq oc n v h (fu,out)=if r.c=0 then Xo h r.l (r.fu,out) else (r.c,(r.fu,out)):=by
 unfold Xq
 show (if (oc n.toNat v fu).c=0 then _ else _)=_
 rw[hr]
theorem Us {oc:OcM} {n:Int} {v:List VN} {h:Yc} {fu:Nat} {out:List (List VN)} {r:OcR} {m:List (List VN)} {R:Int×Xt} {k:Xt→Int×Xt} (hr:oc n.toNat v fu=r) (hm:r.c=0→m=r.l) (hl:out.length≤40) (hR:R=Yd (Xq oc n v h (fu,out)) k):Now R (fun st=>Yd (Xo h (m.drop 0) st) k) r.c r.fu out:=by
 rw[Xpw hr] at hR
 by_cases e:r.c=0
 ·rw[if_pos e] at hR
  refine ⟨fun _=>⟨?_,hl⟩,fun e2=>absurd e e2⟩
  rw[hR,hm e,List.drop_zero]
 ·rw[if_neg e] at hR
  refine ⟨fun e2=>absurd e2 e,fun _=> ?_⟩
  have e3:Yd (r.c,(r.fu,out)) k=(r.c,(r.fu,out)):=by unfold Yd;rw[if_neg e]
  rw[hR,e3]
  exact ⟨rfl,rfl⟩
theorem Xyr {l:List (List VN)} {k:Nat} (h:k<l.length):l.drop k=Xl l k::l.drop (k+1):=by
 rw[List.drop_eq_getElem_cons h]
 congr 1
 unfold Xl
 rw[List.getD_eq_getElem?_getD,List.getElem?_eq_getElem h]
 rfl
theorem Xvn (a:Int×Xt) (k k':Xt→Int×Xt):Yd (Yd a k) k'=Yd a fun st=>Yd (k st) k':=by
 unfold Yd
 by_cases e:a.1=0
 ·simp only[e,if_true]
 ·simp only[e,if_false]
theorem Now.next {R:Int×Xt} {h:Yc} {m out:List (List VN)} {i fu:Nat} {c:Int} {k:Xt→Int×Xt} (hn:Now R (fun st=>Yd (Xo h (m.drop i) st) k) c fu out) (hc:c=0) (hi:i<m.length):R=Yd (h (Xl m i) (fu,out)) (fun st=>Yd (Xo h (m.drop (i+1)) st) k)∧out.length≤40:=by
 obtain ⟨h1,h2⟩:=hn.1 hc
 refine ⟨?_,h2⟩
 rw[←h1]
 show Yd (Xo h (m.drop i) (fu,out)) k=_
 rw[Xyr hi,Xpv,Xvn]
theorem Now.over {R:Int×Xt} {h:Yc} {m out:List (List VN)} {i fu:Nat} {c:Int} {k:Xt→Int×Xt} (hn:Now R (fun st=>Yd (Xo h (m.drop i) st) k) c fu out) (hi:m.length≤i):Now R k c fu out:=by
 by_cases e:c=0
 ·obtain ⟨h1,h2⟩:=hn.1 e
  refine ⟨fun _=>⟨?_,h2⟩,fun e2=>absurd e e2⟩
  rw[←h1,List.drop_eq_nil_of_le hi]
  rfl
 ·exact hn.dead e _ _
theorem X3y (fs:List FN) (d n k:Nat) (ns:List VN) {R:Int×Xt} (hR:evM (Xf fs d) (Xr fs n) ns Xk (k,[])=R):(Xf fs (d+1) n ns (k+1)).c=R.1∧(Xf fs (d+1) n ns (k+1)).fu=R.2.1∧(R.1=0→(Xf fs (d+1) n ns (k+1)).l=R.2.2):=by
 have e:Xf fs (d+1) n ns (k+1)=if R.1=0 then ⟨0,R.2.2,R.2.1⟩ else ⟨R.1,[],R.2.1⟩:=by
  rw[Xf,if_neg (by omega)]
  show (if (evM (Xf fs d) (Xr fs n) ns Xk (k+1-1,[])).1=0 then _ else _)=_
  rw[Nat.add_sub_cancel,hR]
 rw[e]
 by_cases e0:R.1=0
 ·rw[if_pos e0];exact ⟨e0.symm,rfl,fun _=>rfl⟩
 ·rw[if_neg e0];exact ⟨rfl,rfl,fun h=>absurd h e0⟩
theorem Xys (h:Yc):∀(l:List (List VN)) (st:Xt),Xo (Vg h) l st=Xo h (l.filter Xx) st:=by
 intro l
 induction l with
 |nil=>intro st;rfl
 | cons x r ih =>
  intro st
  by_cases e:Xx x=true
  ·rw[List.filter_cons_of_pos e,Xo,Xo]
   have h1:Vg h x st=h x st:=by unfold Vg;rw[if_pos e]
   rw[h1,ih]
  ·rw[List.filter_cons_of_neg e,Xo]
   have h1:Vg h x st=(0,st):=by unfold Vg;rw[if_neg e]
   rw[h1,if_pos rfl,ih]
theorem Xvo (v:List VN):∀(l:List (List VN)) (st:Xt),Xo (fun y st=>if Xx y=true then Xk v st else (0,st)) l st=Xo Xk ((l.filter Xx).map fun _=>v) st:=by
 intro l
 induction l with
 |nil=>intro st;rfl
 | cons x r ih =>
  intro st
  by_cases e:Xx x=true
  ·rw[List.filter_cons_of_pos e,List.map_cons,Xo,Xo]
   simp only[e,if_true]
   split
   ·exact ih _
   ·rfl
  ·rw[List.filter_cons_of_neg e,Xo]
   simp only[e]
   exact ih _
theorem Vn {l:List (List VN)} {k:Nat} (hk:k<l.length):(l.take (k+1)).filter Xx=(l.take k).filter Xx++(if Xx (Xl l k)=true then [Xl l k] else []):=by
 rw[List.take_succ_eq_append_getElem hk,List.filter_append]
 have e:Xl l k=l[k]:=by unfold Xl;rw[List.getD_eq_getElem?_getD,List.getElem?_eq_getElem hk];rfl
 rw[e]
 by_cases h:Xx l[k]=true
 ·rw[if_pos h,List.filter_cons_of_pos h];rfl
 ·rw[if_neg h,List.filter_cons_of_neg h];rfl
theorem Xje (l:List (List VN)):l.any Xx= !(decide ((l.filter Xx).length=0)):=by
 induction l with
 |nil=>rfl
 | cons x r ih =>
  by_cases e:Xx x=true
  ·rw[List.any_cons,e,List.filter_cons_of_pos e];simp
  ·rw[List.any_cons,List.filter_cons_of_neg e,ih]
   cases h:Xx x
   ·simp
   ·exact absurd h e

theorem Vs (B:Nat) (v:Value) (vs:List VN) (w:World) (h:NodesAt B w v vs) (hB:B≤w.heap.size) (ok:okB vs=true):
  Calls Tryz.prog 74 #[v] w fun e w'=>e= .returned (.tuple #[v, .int .i64 0])∧Below w.heap.size w w':=by
 have HV:=Xa h
 obtain ⟨_,a,cap,rfl,_⟩:=h
 go_enter Tryz.func74,Tryz.ntmps74
 go_wp2_with fail
 refine (Xbd B _ vs _ HV.out hB).mono ?_
 rintro e w1 ⟨rfl,hb1⟩
 rw[ok]
 go_wp2_with fail
 go_ret2
 exact ⟨rfl,hb1⟩
theorem Gq (B:Nat) (v:Value) (vs:List VN) (w:World) (h:NodesAt B w v vs) (hB:B≤w.heap.size) (ok:okB vs=false):
  Calls Tryz.prog 74 #[v] w fun e w'=>e= .returned (.tuple #[.slice none 0 0, .int .i64 3])∧Below w.heap.size w w':=by
 have HV:=Xa h
 obtain ⟨_,a,cap,rfl,_⟩:=h
 go_enter Tryz.func74,Tryz.ntmps74
 go_wp2_with fail
 refine (Xbd B _ vs _ HV.out hB).mono ?_
 rintro e w1 ⟨rfl,hb1⟩
 rw[ok]
 go_wp2_with fail
 go_ret2
 exact ⟨rfl,hb1⟩
theorem Wj (u v:Value):∀w,(callFunc 130 #[u,v]).run Tryz.prog w= .ok (.enter 130 #[u,v]) w:=fun w=>by kernel_rfl
theorem Xy1 {base B m:Nat} {w:World} {v:Value} {ps:List Nat} {cs:Nat→Value} {L:Nat→List VN} (h:w.ownsRow base 25 1 v ps.length (ps.map cs)) (hm:ps.length≤1048576) (hB:B≤w.heap.size) (hps:∀x∈ps,x<m) (hc:∀i,i<m→NodesAt B w (cs i) (L i)):U4 w.heap.size w v ps.length (fun j=>L (ps.getD j 0)):=by
 obtain ⟨a,c,e⟩:=Xj h
 subst e
 refine ⟨hm,a,c,rfl,fun hp=> ?_⟩
 obtain ⟨g,c',e,_,hg⟩:=h.form hp
 cases e
 refine ⟨g,rfl,hg,fun i hi=>⟨cs (ps.getD i 0), ?_, ?_⟩⟩
 ·rw[h.cellAt i (by omega),List.getElem?_map,List.getElem?_eq_getElem (by omega),List.getD_eq_getElem?_getD,List.getElem?_eq_getElem (by omega)]
  rfl
 ·refine (hc _ ?_).wide hB
  apply hps
  rw[List.getD_eq_getElem?_getD,List.getElem?_eq_getElem (by omega)]
  exact List.getElem_mem _
theorem Xh5:(Tryz.prog.info? 25).map (fun i=>(i.zero,i.size,i.bytes))=some (some (.slice none 0 0),1,24):=by kernel_rfl
theorem Jf {B:Nat} {w:World} {v:Value} {us:List VN} (h:NodesAt B w v us) (hl:0<us.length):∃b o c aK nK cK aI nI cI,v= .slice (some ⟨b,o,none⟩) us.length c∧b<B∧nI=(Xd us).kids.length∧nK=(Xd us).keys.length∧w.cell? ⟨b,o+(us.length-1) *5,none⟩=some (.int .i64 (Xd us).kind)∧w.cell? ⟨b,o+(us.length-1) *5+1,none⟩=some (.int .i64 (Xd us).n)∧w.cell? ⟨b,o+(us.length-1) *5+2,none⟩=some (.string (Xd us).s)∧w.cell? ⟨b,o+(us.length-1) *5+3,none⟩=some (.slice aK nK cK)∧w.cell? ⟨b,o+(us.length-1) *5+4,none⟩=some (.slice aI nI cI):=by
 obtain ⟨_,a,c,rfl,hc⟩:=h
 obtain ⟨b,o,rfl,hb,hcc⟩:=hc hl
 obtain ⟨ka,ki,hn⟩:=hcc (us.length-1) (by omega)
 obtain ⟨_,_,aK,cK,eK,_⟩:=hn.inn.keys
 obtain ⟨_,_,aI,cI,eI,_⟩:=hn.inn.kids
 exact ⟨b,o,c,aK,_,cK,aI,_,cI,rfl,hb,rfl,rfl,hn.c0,hn.c1,hn.c2,by rw[hn.c3,eK];rfl,by rw[hn.c4,eI];rfl⟩
set_option maxRecDepth 100000 in
theorem Xp5 (B:Nat) (v1 v2:Value) (us vs:List VN) (w:World) (hn1:NodesAt B w v1 us) (hn2:NodesAt B w v2 vs) (hB:B≤w.heap.size) (ok1:okB us=true) (ok2:okB vs=true) (hno:¬((Xd us).kind=5∧(Xd vs).kind=5)):
  Calls Tryz.prog 132 #[v1,v2] w fun e w'=>∃r base KV IV,e= .returned (.tuple #[r, .int .i64 (V6 us vs)])∧w.heap.size≤base∧Nest base w' r (Kn us vs) KV IV∧Below w.heap.size w w':=by
 obtain ⟨p1a,p1b⟩:=(Xp ok1).1
 obtain ⟨p2a,p2b⟩:=(Xp ok2).1
 obtain ⟨b1,o1,c1,aK1,nK1,cK1,aI1,nI1,cI1,rfl,hb1,u1,u2,d0,d1,d2,d3,d4⟩:=Jf hn1 (by omega)
 clear u1 u2
 obtain ⟨b2,o2,c2,aK2,nK2,cK2,aI2,nI2,cI2,rfl,hb2,u1,u2,g0,g1,g2,g3,g4⟩:=Jf hn2 (by omega)
 clear u1 u2
 have HO:=Xa (fun a=>Xfo ok1 ok2 a hno)
 have HD:=Xa (fun a=>Xow ok1 ok2 a)
 have HRN1:=Xa (fun a=>Xaw ok1 a)
 have HRN2:=Xa (fun a=>Xaw ok2 a)
 have HDN:Hid (Gx us vs=Xu 3 ((Xd us).n-(Xd vs).n) ByteArray.empty):=rfl
 obtain ⟨N1,hN1⟩:∃N1,us.length=N1:=⟨_,rfl⟩
 obtain ⟨N2,hN2⟩:∃N2,vs.length=N2:=⟨_,rfl⟩
 rw[hN1] at p1a p1b d0 d1 d2 d3 d4⊢
 rw[hN2] at p2a p2b g0 g1 g2 g3 g4⊢
 have z1:((N1:Int)-1).toNat=N1-1:=by omega
 have z2:((N2:Int)-1).toNat=N2-1:=by omega
 obtain ⟨kx,hkx⟩:∃k,(Xd us).kind=k:=⟨_,rfl⟩
 obtain ⟨ky,hky⟩:∃k,(Xd vs).kind=k:=⟨_,rfl⟩
 obtain ⟨nx,hnx⟩:∃k,(Xd us).n=k:=⟨_,rfl⟩
 obtain ⟨ny,hny⟩:∃k,(Xd vs).n=k:=⟨_,rfl⟩
 obtain ⟨sx,hsx⟩:∃k,(Xd us).s=k:=⟨_,rfl⟩
 obtain ⟨sy,hsy⟩:∃k,(Xd vs).s=k:=⟨_,rfl⟩
 rw[hkx] at d0 HO HD HRN1 hno
 rw[hky] at g0 HO HD HRN2 hno
 rw[hnx] at d1 HDN HRN1
 rw[hny] at g1 HDN HRN2
 rw[hsx] at d2
 rw[hsy] at g2
 have HBA:Hid (Below w.heap.size w ((w.alloc (.cells #[.int .i64 kx, .int .i64 nx, .string sx, .slice aK1 nK1 cK1, .slice aI1 nI1 cI1] 75)).alloc (.cells #[.int .i64 ky, .int .i64 ny, .string sy, .slice aK2 nK2 cK2, .slice aI2 nI2 cI2] 75))):=((Below.refl _ _).alloc (Nat.le_refl _) _).alloc (by simp) _
 clear hn1 hn2 hN1 hN2 hkx hky hnx hny hsx hsy ok1 ok2
 have hbx:Below w.heap.size w (w.alloc (.cells #[.int .i64 kx, .int .i64 nx, .string sx, .slice aK1 nK1 cK1, .slice aI1 nI1 cI1] 75)):=(Below.refl _ _).alloc (Nat.le_refl _) _
 have e0:=(Xc hbx (show b2<w.heap.size by omega)).trans g0
 have e1:=(Xc hbx (show b2<w.heap.size by omega)).trans g1
 have e2:=(Xc hbx (show b2<w.heap.size by omega)).trans g2
 have e3:=(Xc hbx (show b2<w.heap.size by omega)).trans g3
 have e4:=(Xc hbx (show b2<w.heap.size by omega)).trans g4
 clear hbx g0 g1 g2 g3 g4
 by_cases h3:kx=3∧ky=3
 ·obtain ⟨rfl,rfl⟩:=h3
  have HM:=Xa (HD.out ⟨rfl,rfl⟩)
  obtain ⟨n1a,n1b⟩:=HRN1.out rfl
  obtain ⟨n2a,n2b⟩:=HRN2.out rfl
  have HLF:=Xa (Xea (nx-ny) (by omega) (by omega))
  go_enter Tryz.func132,Tryz.ntmps132
  go_wp2_with fail
  refine (K3 (nx-ny) _).mono ?_
  rintro e w3 ⟨r,KV,IV,rfl,hn,hb⟩
  have HB3:=Xa (HBA.out.trans (hb.mono HBA.out.size))
  have HN3:=Xa (hn.low HBA.out.size)
  have HND:=Xa (hn.nodes (by simp[Xu]) HLF.out.2)
  obtain ⟨ar,cr,er⟩:=Xj hn.row
  simp only[Xu,List.length_cons,List.length_nil] at er
  subst er
  clear hn hb
  cases ok:okB (Xu 3 (nx-ny) ByteArray.empty)
  ·go_wp2_with fail
   refine (Gq w3.heap.size _ _ w3 HND.out (Nat.le_refl _) ok).mono ?_
   rintro e w4 ⟨rfl,hb4⟩
   have HB4:=Xa (HB3.out.trans (hb4.mono HB3.out.size))
   clear hb4
   go_wp2_with fail
   go_ret2
   exact ⟨_,w.heap.size,fun _=>undef,fun _=>undef,by rw[HM.out.1,HDN.out,ok];rfl,Nat.le_refl _,by rw[HM.out.2,HDN.out,ok];exact Nest.nil _ _ _ _,HB4.out⟩
  ·go_wp2_with fail
   refine (Vs w3.heap.size _ _ w3 HND.out (Nat.le_refl _) ok).mono ?_
   rintro e w4 ⟨rfl,hb4⟩
   have HB4:=Xa (HB3.out.trans (hb4.mono HB3.out.size))
   have HN4:=Xa (HN3.out.below hb4)
   clear hb4
   go_wp2_with fail
   go_ret2
   exact ⟨_,w.heap.size,KV,IV,by rw[HM.out.1,HDN.out,ok];rfl,Nat.le_refl _,by rw[HM.out.2,HDN.out,ok];exact HN4.out,HB4.out⟩
 ·have HM:=Xa (HO.out h3)
  by_cases k3:kx=3
  ·have q2:(ky==3)=false:=by simp;intro e;exact h3 ⟨k3,e⟩
   have q1:(kx==3)=true:=by simpa using k3
   have q3:(kx !=5)=true:=by simp;omega
   clear h3 k3 hno
   go_enter Tryz.func132,Tryz.ntmps132
   go_wp2_with fail
   go_ret2
   exact ⟨_,w.heap.size,fun _=>undef,fun _=>undef,by rw[HM.out.1];rfl,Nat.le_refl _,by rw[HM.out.2];exact Nest.nil _ _ _ _,HBA.out⟩
  ·have q1:(kx==3)=false:=by simpa using k3
   by_cases k5:kx=5
   ·have q3:(kx !=5)=false:=by simpa using k5
    have q4:(ky !=5)=true:=by simp;intro e;exact hno ⟨k5,e⟩
    clear h3 k3 k5 hno
    go_enter Tryz.func132,Tryz.ntmps132
    go_wp2_with fail
    go_ret2
    exact ⟨_,w.heap.size,fun _=>undef,fun _=>undef,by rw[HM.out.1];rfl,Nat.le_refl _,by rw[HM.out.2];exact Nest.nil _ _ _ _,HBA.out⟩
   ·have q3:(kx !=5)=true:=by simpa using k5
    clear h3 k3 k5 hno
    go_enter Tryz.func132,Tryz.ntmps132
    go_wp2_with fail
    go_ret2
    exact ⟨_,w.heap.size,fun _=>undef,fun _=>undef,by rw[HM.out.1];rfl,Nat.le_refl _,by rw[HM.out.2];exact Nest.nil _ _ _ _,HBA.out⟩
end Go.Proofs.YtdjddneidbddpaaGreatDoor
