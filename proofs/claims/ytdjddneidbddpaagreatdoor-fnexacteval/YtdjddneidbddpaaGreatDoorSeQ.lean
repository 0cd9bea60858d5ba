import Derived.Test.YtdjddneidbddpaaGreatDoorStbN
import Derived.Test.YtdjddneidbddpaaGreatDoorIParts
import Derived.Test.YtdjddneidbddpaaGreatDoorSSort
import Derived.Test.YtdjddneidbddpaaGreatDoorEqSS
import Derived.Test.YtdjddneidbddpaaGreatDoorByP
namespace Go.Proofs.YtdjddneidbddpaaGreatDoor
set_option linter.unusedSectionVars false
open Go.RowKit
set_option linter.unusedSimpArgs false
set_option linter.unusedVariables false
def Xmh (L:Nat->List VN) (f:Nat->Int) (j:Nat):List VN:=L (f j).toNat
def Gf (l:List ByteArray) (f:Nat->Int) (m:Nat):List ByteArray:=(List.range m).map fun j=>Xf l (f j).toNat
theorem Xdp {L L':Nat->List VN}:∀m,(∀i,i<m->L i=L' i)->X8 L m=X8 L' m:=by
 intro m
 induction m with
 |zero=>intro _;rfl
 |succ m ih=>intro h;rw[X8,X8,ih (fun i hi=>h i (by omega)),h m (by omega)]
theorem Xt4 {L L':Nat->List VN}:∀m,(∀i,i<m->L i=L' i)->Y7 L m=Y7 L' m:=by
 intro m
 induction m with
 |zero=>intro _;rfl
 |succ m ih=>intro h;rw[Y7,Y7,ih (fun i hi=>h i (by omega)),Xdp (m+1) h]
theorem Xq4 {L L':Nat->List VN} {m:Nat} (h:∀i,i<m->L i=L' i) (kind:Int) (keys:List ByteArray):Yi kind keys L m=Yi kind keys L' m:=by
 unfold Yi;rw[Xdp m h,Xt4 m h]
theorem Xn5 {l:List ByteArray} {f:Nat->Int} {m j:Nat} (h:j<m):Xf (Gf l f m) j=Xf l (f j).toNat:=by simp[Gf,Xf,h]


theorem Xgl (x:VN):X5 0 x=x:=by cases x;simp[X5]
theorem Xlx (a b:Int) (x:VN):X5 a (X5 b x)=X5 (a+b) x:=by
 cases x
 simp only[X5,List.map_map]
 congr 1
 apply List.map_congr_left
 intro k _
 simp only[Function.comp]
 omega
theorem Xm9 {vs:List VN} (hok:okB vs=true) {f m:Nat} (hf:m<f) (hm:m<vs.length) (sh:Nat):Yb f (Xt vs f m) sh=(Ys vs m).map (X5 (sh:Int)):=by
 obtain ⟨j,_,d,_⟩:=Xm hok
 obtain ⟨⟨c,g⟩,b⟩:=d m hm
 have e:Ys vs m=run vs (-(c:Int)) c (m+1-c):=by rw[Ys,b];simp[trF]
 rw[<-We,Xa7 vs f m sh c g hf b,e]
 unfold run
 rw[List.map_map]
 apply List.map_congr_left
 intro k _
 simp only[Function.comp]
 rw[Xlx]
 rfl
theorem Xv5 {vs:List VN} (hok:okB vs=true):Yb 81 (Xt vs 81 (vs.length-1)) 0=vs:=by
 obtain ⟨d,_,_,_⟩:=Xm hok
 obtain ⟨h,b⟩:=Xa3 hok
 rw[<-We,Xa7 vs 81 (vs.length-1) 0 0 h (by omega) b]
 have e:vs.length-1+1-0=vs.length:=by omega
 rw[e]
 have c:(((0:Nat):Int)-((0:Nat):Int))=0:=by omega
 rw[c,Xj8]
 have:(X5 0)=id:=by funext x;exact Xgl x
 rw[this,List.map_id]
def Vu (vs:List VN):List VT:=(Xe vs).map fun k=>Xt vs 80 k.toNat
theorem Xv6 {vs:List VN} (hok:okB vs=true):∀k,k<=(Xe vs).length->Xx 80 0 (Vu vs) k=X8 (PL vs) k/\ksT 80 0 (Vu vs) k=Y7 (PL vs) k:=by
 have f:(Vu vs).length=(Xe vs).length:=by simp[Vu]
 have p:=(Xm hok).1
 intro k
 induction k with
 |zero=>intro _;exact ⟨Qk _ _ _,Q0 _ _ _⟩
 |succ k ih=>
  intro s
  obtain ⟨j,l⟩:=ih (by omega)
  have b:k<(Vu vs).length:=by omega
  obtain ⟨q,g,o⟩:=Zh hok (k:=k) (by omega)
  have c:Yf (Vu vs) k=Xt vs 80 q:=by unfold Vu;rw[G7 (by omega),g];simp
  have d:PL vs k=Ys vs q:=by unfold PL;rw[g];simp
  have e:Xx 80 0 (Vu vs) (k+1)=X8 (PL vs) (k+1):=by
   rw[Zg 80 0 b,j,c,Xm9 hok (by omega) (by omega),Nat.zero_add,X8,d]
  refine ⟨e, ?_⟩
  rw[Qp 80 0 b,l,e,Nat.zero_add]
  rfl
theorem Xth {vs:List VN} (hok:okB vs=true) (hk:(Xb vs (vs.length-1)).kind=5\/(Xb vs (vs.length-1)).kind=6):Yi (Xb vs (vs.length-1)).kind (Xb vs (vs.length-1)).keys (PL vs) (Xe vs).length=vs:=by
 have c:=Xv5 hok
 rw[Xt,Qt] at c
 have b:(Vu vs).length=(Xe vs).length:=by simp[Vu]
 obtain ⟨c1,j⟩:=Xv6 hok _ (Nat.le_refl _)
 have l:((Xb vs (vs.length-1)).kids.map fun k=>Xt vs 80 k.toNat)=Vu vs:=rfl
 rw[l,b,c1,j] at c
 have q:=(Xm hok).1
 have f:=((Xm hok).2.1 (vs.length-1) (by omega)).1
 have g:(Xb vs (vs.length-1)).n=0/\(Xb vs (vs.length-1)).s=ByteArray.empty:=by
  unfold Xz Yr at f
  have o:∀s:ByteArray,s.toList= []->s=ByteArray.empty:=fun s h=>by
   cases s with|mk d=>rw[ByteArray.toList_eq] at h;simp at h;subst h;rfl
  simp only[Bool.and_eq_true,Bool.not_eq_true',Bool.and_eq_false_iff,decide_eq_false_iff_not,Decidable.not_not,Nat.not_lt,Nat.le_zero,List.length_eq_zero_iff] at f
  obtain ⟨⟨⟨⟨t,p⟩,y⟩,z⟩,_⟩:=f
  exact ⟨by omega,o _ (by rcases p with h|h;omega;exact h)⟩
 rw[g.1,g.2] at c
 exact c
theorem Zv {vs:List VN} (hok:okB vs=true):Xqe (PL vs) (Xe vs).length=true/\(Xe vs).length<=80:=by
 have p:=Xm hok
 refine ⟨X3v fun i hi=> ?_,(K7 hok (vs.length-1) (by have:=p.1;omega)).2.1⟩
 obtain ⟨q,b,c⟩:=Zh hok hi
 have e:PL vs i=Ys vs q:=by unfold PL;rw[b];simp
 rw[e]
 exact Xds hok (by omega)


theorem Xt8 {T:Nat->Option (Nat×Nat)} (hT:∀m p,T m=some p->p.1<=m):∀(l:List Int) (b h:Nat) (q:Nat×Nat),l.foldl (Xy T) (some (b,h))=some q->∀k∈l,(q.1:Int)<=k/\k<(b:Int):=by
 intro l
 induction l with
 |nil=>intro b h q _ k c;cases c
 |cons x l ih=>
  intro b h q e k c
  obtain ⟨p,g,j,f,d⟩:=Qa e
  have o:=hT _ _ f
  have s:=Xjz hT _ _ _ _ d
  rcases List.mem_cons.1 c with rfl|c
  ·omega
  ·have:=ih _ _ _ d k c
   omega
theorem X0l {K:Nat->List Int} {n:Nat} {p:Nat×Nat} (h:tr K n=some p):∀k∈K n,(p.1:Int)<=k/\k<(n:Int):=by
 obtain ⟨q,b,rfl⟩:=Xjy h
 intro k c
 exact Xt8 (fun m p h=>Ko h) _ _ _ _ b k (List.mem_reverse.2 c)
theorem X0m {vs:List VN} {q a h:Nat} (ht:tr (Yc vs) q=some (a,h)):∀f i,a+i<=q->Xt (run vs (-(a:Int)) a (q+1-a)) f i=Xt vs f (a+i):=by
 intro f
 induction f with
 |zero=>intro i _;rfl
 |succ f ih=>
  intro i d
  have b:=Ko ht
  simp only at b
  obtain ⟨r,g,j,_⟩:=Xob _ _ _ (Nat.lt_succ_self _) ht (a+i) (by simp only;omega) d
  have l:=X0l g
  rw[Xt,Xt,Xdr (by omega)]
  simp only[X5,VT.mk.injEq,true_and,List.map_map]
  apply List.map_congr_left
  intro k c
  have o:=l k c
  simp only at j
  simp only[Function.comp]
  have e:(k+ -(a:Int)).toNat=k.toNat-a:=by omega
  rw[e,ih (k.toNat-a) (by omega)]
  congr 1
  omega
theorem Xk6 {vs:List VN} (hok:okB vs=true) {n:Nat} (hn:n<vs.length) (f:Nat):Xt (Ys vs n) f ((Ys vs n).length-1)=Xt vs f n:=by
 obtain ⟨j,_,d,_⟩:=Xm hok
 obtain ⟨⟨c,l⟩,b⟩:=d n hn
 have e:Ys vs n=run vs (-(c:Int)) c (n+1-c):=by rw[Ys,b];simp[trF]
 have g:=Ko b
 simp only at g
 rw[e,K6,X0m b f (n+1-c-1) (by omega)]
 congr 1
 omega
theorem Xt9 {α:Type} {R:Int->Int->Int} {g g':Int->α} (hR:∀a b,g a=g' b->R a b=0):∀l m,l.map g=m.map g'->Ye R l m=0:=by
 intro l
 induction l with
 |nil=>
  intro m h
  cases m with
  |nil=>rfl
  |cons b m=>simp at h
 |cons a l ih=>
  intro m h
  cases m with
  |nil=>simp at h
  |cons b m=>
   simp only[List.map_cons,List.cons.injEq] at h
   have c:=hR a b h.1
   have d:=ih m h.2
   simp only[Ye,c,d]
   simp
theorem Xoe:∀l,Ya l l=0:=by
 intro l
 induction l with
 |nil=>rfl
 |cons a l ih=>
  have b:Yw a a=0:=(Xag _ _).2 rfl
  simp only[Ya,b,ih]
  simp
theorem X0n (us vs:List VN):∀f n m,Xt us f n=Xt vs f m->ord us vs f n m=0:=by
 intro f
 induction f with
 |zero=>intro n m _;rfl
 |succ f ih=>
  intro n m h
  rw[Xt,Xt] at h
  simp only[VT.mk.injEq] at h
  obtain ⟨c,d,j,l,o⟩:=h
  rw[Ws,Jt,Jt,Jt,Jt]
  refine ⟨(Ud _ _).2 c,(Ud _ _).2 d, ?_, ?_,Xt9 (g:=fun k=>Xt us f k.toNat) (g':=fun k=>Xt vs f k.toNat) (fun a b hab=>ih _ _ hab) _ _ o⟩
  ·rw[j];exact (Xag _ _).2 rfl
  ·rw[l];exact Xoe _
theorem Xw1 {us vs:List VN} (h1:okB us=true) (h2:okB vs=true) {n k f:Nat} (hn:n<us.length) (hk:k<vs.length) (hf:n<f):ord us vs f n k=0↔Ys us n=Ys vs k:=by
 have e:ord us vs f n k=ord us vs (f+vs.length) n k:=Xpz h1 _ _ _ _ hf (by omega) hn
 rw[e]
 constructor
 ·intro h
  have b:=Xnj Xsd us vs _ _ _ h
  rw[<-(G0 h1 (show n<f+vs.length by omega) hn).1,<-(G0 h2 (show k<f+vs.length by omega) hk).1,b]
 ·intro h
  apply X0n
  rw[<-Xk6 h1 hn,<-Xk6 h2 hk,h]
def Wo (us vs:List VN) (i k:Nat):Bool:=decide (Y9 (PL us i) (PL vs k)=0)
def Yg (us vs:List VN) (i:Nat):List Nat:=Yt (fun i=>Za (Wo us vs i) (Xe vs).length) i
def U5 (us vs:List VN) (j:Nat):List VN:=PL us ((Yg us vs (Xe us).length).getD j 0)
def Vj (us vs:List VN):List VN:=Yi 5 [] (U5 us vs) (Yg us vs (Xe us).length).length
theorem Vy (us vs:List VN) (i:Nat):(Yg us vs i).length<=i/\∀x∈Yg us vs i,x<i:=V4 _ i
theorem U6 {l:List Nat} {x j:Nat} (h:j<l.length):(l++ [x]).getD j 0=l.getD j 0:=by
 rw[List.getD_eq_getElem?_getD,List.getD_eq_getElem?_getD,List.getElem?_append_left h]
theorem Xec {l:List Nat} {x:Nat}:(l++ [x]).getD l.length 0=x:=by
 rw[List.getD_eq_getElem?_getD];simp
theorem X25 (us vs:List VN) (L:Nat->List VN):∀i,(X8 (fun j=>L ((Yg us vs i).getD j 0)) (Yg us vs i).length).length<=(X8 L i).length:=by
 intro i
 induction i with
 |zero=>exact Nat.le_refl _
 |succ i ih=>
  rw[show Yg us vs (i+1)=if Za (Wo us vs i) (Xe vs).length=true then Yg us vs i else Yg us vs i++ [i] from rfl,K4]
  split
  ·omega
  ·rw[List.length_append,List.length_singleton,K4,Xec]
   rw[Xdp (L':=fun j=>L ((Yg us vs i).getD j 0)) _ (fun j hj=>by rw[U6 hj])]
   omega
theorem Xsi {us:List VN} (hok:okB us=true) (vs:List VN):∀j,j<(Yg us vs (Xe us).length).length->okB (U5 us vs j)=true:=by
 intro j b
 have c:=(Vy us vs (Xe us).length).2 _ (show (Yg us vs (Xe us).length).getD j 0∈_ by
  rw[List.getD_eq_getElem?_getD,List.getElem?_eq_getElem b];exact List.getElem_mem b)
 exact Ua (Zv hok).1 _ c
theorem Xof {us:List VN} (hok:okB us=true) (hk:(Xd us).kind=5) (vs:List VN) (hf:∀i,i<us.length->Fits (Xb us i)):Few (Vj us vs)/\∀i,i<(Vj us vs).length->Fits (Xb (Vj us vs) i):=by
 have o:=Vy us vs (Xe us).length
 have p:=(Zv hok).2
 have b:=Ks hf
 have d:Zl us=(Xe us).length:=by unfold Zl;rw[if_pos hok]
 rw[d] at b
 have f:∀j,j<(Yg us vs (Xe us).length).length->(Yg us vs (Xe us).length).getD j 0<(Xe us).length:=fun j hj=>o.2 _ (by
  rw[List.getD_eq_getElem?_getD,List.getElem?_eq_getElem hj];exact List.getElem_mem hj)
 have g:=Xx7 (L:=U5 us vs) (m:=(Yg us vs (Xe us).length).length) (by omega) (Xsi hok vs) (fun j hj=>(b.2 _ (f j hj)).2) (kind:=5) (by omega) (by omega) (keys:= []) (by simp) (fun i hi=>absurd hi (by simp))
 have c:(Vj us vs).length<=80:=by
  have q:=X25 us vs (PL us) (Xe us).length
  have l:=congrArg List.length (Xth hok (Or.inl hk))
  have s:=(Xm hok).1
  unfold Yi at l
  unfold Vj Yi
  simp only[List.length_append,List.length_singleton] at l|-
  unfold U5
  omega
 exact ⟨⟨c,fun i hi=>⟨(g.2 i hi).2.1,(g.2 i hi).2.2.1⟩⟩,fun i hi=>(g.2 i hi).1⟩
def Zs (us vs:List VN) (F:Nat):List VT:=(Yg us vs (Xe us).length).map fun i=>Xt us F (Xj (Xe us) i).toNat
theorem Xog {us:List VN} (hok:okB us=true) (vs:List VN) {F:Nat} (hF:us.length<=F):Yb (F+1) (.mk 5 0 ByteArray.empty [] (Zs us vs F)) 0=Vj us vs:=by
 have l:=Vy us vs (Xe us).length
 have b:(Zs us vs F).length=(Yg us vs (Xe us).length).length:=by simp[Zs]
 have c:∀k,k<=(Yg us vs (Xe us).length).length->Xx F 0 (Zs us vs F) k=X8 (U5 us vs) k/\ksT F 0 (Zs us vs F) k=Y7 (U5 us vs) k:=by
  intro k
  induction k with
  |zero=>intro _;exact ⟨Qk _ _ _,Q0 _ _ _⟩
  |succ k ih=>
   intro z
   obtain ⟨o,p⟩:=ih (by omega)
   have d:k<(Zs us vs F).length:=by omega
   have s:=l.2 _ (show (Yg us vs (Xe us).length).getD k 0∈_ by
    rw[List.getD_eq_getElem?_getD,List.getElem?_eq_getElem (by omega)];exact List.getElem_mem (by omega))
   obtain ⟨q,f,t⟩:=Zh hok (k:=(Yg us vs (Xe us).length).getD k 0) s
   have g:Yf (Zs us vs F) k=Xt us F q:=by
    unfold Zs Yf
    rw[List.getD_eq_getElem?_getD,List.getElem?_map,List.getElem?_eq_getElem (show k<(Yg us vs (Xe us).length).length by omega)]
    simp only[Option.map_some,Option.getD_some]
    rw[List.getD_eq_getElem?_getD,List.getElem?_eq_getElem (show k<(Yg us vs (Xe us).length).length by omega),Option.getD_some] at f
    rw[f];simp
   have j:U5 us vs k=Ys us q:=by unfold U5 PL;rw[f];simp
   have e:Xx F 0 (Zs us vs F) (k+1)=X8 (U5 us vs) (k+1):=by
    rw[Zg F 0 d,o,g,Xm9 hok (by omega) (by omega),Nat.zero_add,X8,j]
   refine ⟨e, ?_⟩
   rw[Qp F 0 d,p,e,Nat.zero_add]
   rfl
 rw[Qt,b]
 obtain ⟨c1,y⟩:=c _ (Nat.le_refl _)
 rw[c1,y]
 rfl
def Gr (us vs:List VN):List VN:=Xr 3 ((Xd us).n-(Xd vs).n) ByteArray.empty
def Vz (us vs:List VN):Int:=
 if okB us=true/\okB vs=true then
  if (Xd us).kind=3/\(Xd vs).kind=3 then (if okB (Gr us vs)=true then 0 else 3)
  else if (Xd us).kind=5/\(Xd vs).kind=5 then 0 else 2
 else 1
def Kg (us vs:List VN):List VN:=
 if okB us=true/\okB vs=true then
  if (Xd us).kind=3/\(Xd vs).kind=3 then (if okB (Gr us vs)=true then Gr us vs else [])
  else if (Xd us).kind=5/\(Xd vs).kind=5 then Vj us vs else []
 else []
theorem Xe6 {us vs:List VN} (h1:okB us=true) (h2:okB vs=true) (a:¬((Xd us).kind=3/\(Xd vs).kind=3)) (b:¬((Xd us).kind=5/\(Xd vs).kind=5)):Vz us vs=2/\Kg us vs= []:=by
 unfold Vz Kg
 simp only[h1,h2,and_self,if_true,if_neg a,if_neg b]
theorem Xoh {us vs:List VN} (h1:okB us=true) (h2:okB vs=true) (a:(Xd us).kind=3/\(Xd vs).kind=3):Vz us vs=(if okB (Gr us vs)=true then 0 else 3)/\Kg us vs=(if okB (Gr us vs)=true then Gr us vs else []):=by
 unfold Vz Kg
 simp only[h1,h2,and_self,if_true,if_pos a]
theorem Xoi {us vs:List VN} (h1:okB us=true) (h2:okB vs=true) (b:(Xd us).kind=5/\(Xd vs).kind=5):Vz us vs=0/\Kg us vs=Vj us vs:=by
 have a:¬((Xd us).kind=3/\(Xd vs).kind=3):=by omega
 unfold Vz Kg
 simp only[h1,h2,and_self,if_true,if_neg a,if_pos b]
theorem Xak {us:List VN} (hok:okB us=true) (hk:(Xd us).kind=3): -1000000000000000<=(Xd us).n/\(Xd us).n<=1000000000000000:=by
 rcases Ju hok with k|k|⟨k,a,b⟩|⟨k,a⟩|⟨k,a⟩|⟨k,a⟩
 ·omega
 ·omega
 ·exact ⟨a,b⟩
 ·omega
 ·omega
 ·omega


def Xi6 (us vs:List VN):List VN:=Xr 3 ((Xd us).n+(Xd vs).n) ByteArray.empty
def Xi7 (us vs:List VN):List VN:=Xr 4 0 ((Xd us).s++(Xd vs).s)
def Wa (us vs:List VN) (j:Nat):List VN:=if j<(Xe us).length then PL us j else PL vs (j-(Xe us).length)
def Gv (us vs:List VN):List VN:=Yi 5 [] (Wa us vs) ((Xe us).length+(Xe vs).length)
def Y5 (us vs:List VN) (i:Nat):List Nat:=Yt (fun i=>Yz (Xd vs).keys (Xf (Xd us).keys i)) i
def Zb (us vs:List VN):List ByteArray:=(Xd vs).keys++(Y5 us vs (Xd us).keys.length).map (Xf (Xd us).keys)
def Js (us vs:List VN) (j:Nat):List VN:=if j<(Xe vs).length then PL vs j else PL us ((Y5 us vs (Xd us).keys.length).getD (j-(Xe vs).length) 0)
def Yx (us vs:List VN):Nat:=(Xe vs).length+(Y5 us vs (Xd us).keys.length).length
def Z6 (us vs:List VN):List VN:=match Zf (Zb us vs) (Zb us vs).length with
 |some (ns,ps)=>Yi 6 ns (fun j=>Js us vs (ps.getD j 0)) (Yx us vs)
 |none=> []
def Q3 (us vs:List VN):List VN:=
 if (Xd us).kind=3 then Xi6 us vs else if (Xd us).kind=4 then Xi7 us vs else if (Xd us).kind=5 then Gv us vs else Z6 us vs
def Qg (us vs:List VN):Int:=
 if okB us=true/\okB vs=true then
  if (Xd us).kind=1 then 0 else if (Xd vs).kind=1 then 0
  else if (Xd us).kind=(Xd vs).kind/\(Xd us).kind≠2 then (if okB (Q3 us vs)=true then 0 else 3) else 2
 else 1
def Zt (us vs:List VN):List VN:=
 if okB us=true/\okB vs=true then
  if (Xd us).kind=1 then vs else if (Xd vs).kind=1 then us
  else if (Xd us).kind=(Xd vs).kind/\(Xd us).kind≠2 then (if okB (Q3 us vs)=true then Q3 us vs else []) else []
 else []
theorem Y0 {us:List VN} (h:okB us=true) (hk:(Xd us).kind=6):(Xd us).keys.length=(Xe us).length/\Qs (Xd us).keys=true:=by
 have c:=(Xm h).1
 have b:=((Xm h).2.1 (us.length-1) (by omega)).1
 change Xz (Xd us)=true at b
 unfold Xz Zi at b
 simp[hk] at b
 exact b.2
theorem Xd2 {us vs:List VN} (h2:okB vs=true) (hk2:(Xd vs).kind=6):(Zb us vs).length=Yx us vs:=by
 unfold Zb Yx
 rw[List.length_append,List.length_map,(Y0 h2 hk2).1]
theorem Xkh {l:List ByteArray} (h:Qs l=true) {i j:Nat} (hij:i<j) (hj:j<l.length):(Xf l i).toList≠(Xf l j).toList:=Xs0 (Q7 h i j hij hj)
theorem Xyz (g:Nat->Bool):∀n,∀i j,i<j->j<(Yt g n).length->(Yt g n).getD i 0<(Yt g n).getD j 0:=by
 intro n
 induction n with
 |zero=>intro i j _ b;simp[Yt] at b
 |succ n ih=>
  intro i j c b
  rw[Yt] at b|-
  split at b
  ·rename_i e;rw[if_pos e];exact ih i j c b
  ·rename_i e
   rw[if_neg e]
   rw[List.length_append,List.length_singleton] at b
   by_cases ej:j=(Yt g n).length
   ·subst ej
    rw[Xec,U6 (by omega)]
    refine (V4 g n).2 _ ?_
    rw[List.getD_eq_getElem?_getD,List.getElem?_eq_getElem (by omega)]
    exact List.getElem_mem _
   ·rw[U6 (by omega),U6 (by omega)]
    exact ih i j c (by omega)
theorem X16 (g:Nat->Bool):∀n,∀x∈Yt g n,g x=false:=by
 intro n
 induction n with
 |zero=>intro x b;cases b
 |succ n ih=>
  intro x b
  rw[Yt] at b
  split at b
  ·exact ih x b
  ·rename_i e
   rcases List.mem_append.1 b with b|b
   ·exact ih x b
   ·simp at b;subst b;simpa using e
theorem Xrv {us vs:List VN} (h1:okB us=true) (h2:okB vs=true) (hk1:(Xd us).kind=6) (hk2:(Xd vs).kind=6):∀i j,i<j->j<(Zb us vs).length->(Xf (Zb us vs) i).toList≠(Xf (Zb us vs) j).toList:=by
 obtain ⟨z,s⟩:=Y0 h1 hk1
 obtain ⟨B,d⟩:=Y0 h2 hk2
 have f:=V4 (fun i=>Yz (Xd vs).keys (Xf (Xd us).keys i)) (Xd us).keys.length
 have b:∀k,k<(Y5 us vs (Xd us).keys.length).length->(Y5 us vs (Xd us).keys.length).getD k 0∈Y5 us vs (Xd us).keys.length:=fun k hk=>by
  rw[List.getD_eq_getElem?_getD,List.getElem?_eq_getElem hk];exact List.getElem_mem _
 have g:∀i,i<(Xd vs).keys.length->Xf (Zb us vs) i=Xf (Xd vs).keys i:=fun i hi=>by
  unfold Zb Xf;rw[List.getD_eq_getElem?_getD,List.getD_eq_getElem?_getD,List.getElem?_append_left hi]
 have kr:∀i,(Xd vs).keys.length<=i->i<(Zb us vs).length->Xf (Zb us vs) i=Xf (Xd us).keys ((Y5 us vs (Xd us).keys.length).getD (i-(Xd vs).keys.length) 0):=fun i hi hl=>by
  have c:i-(Xd vs).keys.length<(Y5 us vs (Xd us).keys.length).length:=by unfold Zb at hl;simp at hl;omega
  unfold Zb
  rw[Xf,List.getD_eq_getElem?_getD,List.getElem?_append_right hi,List.getElem?_map,List.getElem?_eq_getElem c,List.getD_eq_getElem?_getD,List.getElem?_eq_getElem c]
  rfl
 intro i j l q
 have o:(Zb us vs).length=(Xd vs).keys.length+(Y5 us vs (Xd us).keys.length).length:=by unfold Zb;simp
 by_cases ej:j<(Xd vs).keys.length
 ·rw[g i (by omega),g j ej];exact Xkh d l ej
 ·by_cases ei:i<(Xd vs).keys.length
  ·rw[g i ei,kr j (by omega) q]
   have t:=b (j-(Xd vs).keys.length) (by omega)
   have p:Yz (Xd vs).keys (Xf (Xd us).keys ((Y5 us vs (Xd us).keys.length).getD (j-(Xd vs).keys.length) 0))=false:=X16 _ _ _ t
   intro e
   have:=(Xje (key:=Xf (Xd us).keys ((Y5 us vs (Xd us).keys.length).getD (j-(Xd vs).keys.length) 0)) (Q7 d) ei e (fun k hk e2=>Xkh d hk ei (e2.trans e.symm))).1
   rw[p] at this
   cases this
  ·rw[kr i (by omega) (by omega),kr j (by omega) q]
   have y:=Xyz (fun i=>Yz (Xd vs).keys (Xf (Xd us).keys i)) (Xd us).keys.length (i-(Xd vs).keys.length) (j-(Xd vs).keys.length) (by omega) (by unfold Y5 at o;omega)
   exact Xkh s y (f.2 _ (b _ (by omega)))
theorem Xcl {us vs:List VN} (h1:okB us=true) (h2:okB vs=true) (hk1:(Xd us).kind=6) (hk2:(Xd vs).kind=6):∃ns ps,Zf (Zb us vs) (Zb us vs).length=some (ns,ps)/\Z6 us vs=Yi 6 ns (fun j=>Js us vs (ps.getD j 0)) (Yx us vs):=by
 obtain ⟨ns,ps,b⟩:=Xq2 (ks:=Zb us vs) (Zb us vs).length (Xrv h1 h2 hk1 hk2)
 exact ⟨ns,ps,b,by unfold Z6;rw[b]⟩
theorem Xlo {l:List ByteArray} {L:Nat->List VN} {m:Nat} {f:Nat->Int} {ns:List ByteArray} {ps:List Nat} (hl:l.length=m) (hs:Zf l l.length=some (ns,ps)) (hf:Blk (RK l) (fun p=>(p:Int)) f 0 l.length):
  Yi 6 (Gf l f m) (Xmh L f) m=Yi 6 ns (fun j=>L (ps.getD j 0)) m:=by
 have c:=Xty hs hf
 have d:=(Gl hs).2
 have g:Gf l f m=ns:=by
  rw[Xa1 hs,<-hl]
  have:=congrArg (List.map fun x:Int=>Xf l x.toNat) c
  rw[List.map_map,List.map_map] at this
  unfold Gf
  refine (Eq.trans ?_ this).trans ?_
  ·rfl
  ·apply List.map_congr_left;intro n _;simp
 have o:∀i,i<m->Xmh L f i=(fun j=>L (ps.getD j 0)) i:=fun i hi=>by
  have b:((List.range l.length).map f)[i]? =some (f i):=by rw[List.getElem?_map,List.getElem?_range (by omega)];rfl
  rw[c,List.getElem?_map] at b
  rw[List.getElem?_eq_getElem (by omega)] at b
  simp at b
  unfold Xmh
  simp only
  rw[List.getD_eq_getElem?_getD,List.getElem?_eq_getElem (by omega),<-b]
  simp
 rw[g,Xq4 o]
theorem Xi8 {us vs:List VN} (h1:okB us=true) (h2:okB vs=true) (k:(Xd us).kind=1):Qg us vs=0/\Zt us vs=vs:=by
 unfold Qg Zt
 simp only[h1,h2,and_self,if_true,if_pos k]
theorem Xi9 {us vs:List VN} (h1:okB us=true) (h2:okB vs=true) (k1:(Xd us).kind≠1) (k:(Xd vs).kind=1):Qg us vs=0/\Zt us vs=us:=by
 unfold Qg Zt
 simp only[h1,h2,and_self,if_true,if_neg k1,if_pos k]
theorem Xcm {us vs:List VN} (h1:okB us=true) (h2:okB vs=true) (k1:(Xd us).kind≠1) (k2:(Xd vs).kind≠1) (a:¬((Xd us).kind=(Xd vs).kind/\(Xd us).kind≠2)):Qg us vs=2/\Zt us vs= []:=by
 unfold Qg Zt
 simp only[h1,h2,and_self,if_true,if_neg k1,if_neg k2,if_neg a]
theorem G9 {us vs:List VN} (h1:okB us=true) (h2:okB vs=true) (k1:(Xd us).kind≠1) (k:(Xd us).kind=(Xd vs).kind) (k3:(Xd us).kind≠2):Qg us vs=(if okB (Q3 us vs)=true then 0 else 3)/\Zt us vs=(if okB (Q3 us vs)=true then Q3 us vs else []):=by
 unfold Qg Zt
 have b:(Xd vs).kind≠1:=by omega
 have a:(Xd us).kind=(Xd vs).kind/\(Xd us).kind≠2:=⟨k,k3⟩
 simp only[h1,h2,and_self,if_true,if_neg k1,if_neg b,if_pos a]
theorem Xsz {us vs:List VN} (k:(Xd us).kind=3):Q3 us vs=Xi6 us vs:=by unfold Q3;rw[if_pos k]
theorem Xp5 {us vs:List VN} (k:(Xd us).kind=4):Q3 us vs=Xi7 us vs:=by unfold Q3;rw[if_neg (by omega),if_pos k]
theorem Xp6 {us vs:List VN} (k:(Xd us).kind=5):Q3 us vs=Gv us vs:=by unfold Q3;rw[if_neg (by omega),if_neg (by omega),if_pos k]
theorem Xp7 {us vs:List VN} (k:(Xd us).kind=6):Q3 us vs=Z6 us vs:=by unfold Q3;rw[if_neg (by omega),if_neg (by omega),if_neg (by omega)]


abbrev Xs:=Nat×List (List VN)
abbrev X6:=List VN->Xs->Int×Xs
structure OcR where
 c:Int
 l:List (List VN)
 fu:Nat
abbrev OcM:=Nat->List VN->Nat->OcR
def Xq (h:X6):List (List VN)->Xs->Int×Xs
 |[],st=>(0,st)
 |x::r,st=>if (h x st).1=0 then Xq h r (h x st).2 else h x st
def Xp (oc:OcM) (n:Int) (v:List VN) (h:X6) (st:Xs):Int×Xs:=
 if (oc n.toNat v st.1).c=0 then Xq h (oc n.toNat v st.1).l ((oc n.toNat v st.1).fu,st.2) else ((oc n.toNat v st.1).c,((oc n.toNat v st.1).fu,st.2))
def Yk (r:Int×List VN) (h:X6) (st:Xs):Int×Xs:=if r.1=0 then h r.2 st else (r.1,st)
def Zp (r:OcR):OcR:=if r.c=2 then ⟨0,[],r.fu⟩ else r
def Xl:X6:=fun x st=>if st.2.length=40 then (3,st) else (0,(st.1,st.2++ [x]))
def Q9 (b:Bool):List VN:=Xr 2 (if b=true then 1 else 0) ByteArray.empty
def Ja:List VN:=Xr 1 0 ByteArray.empty
def Xu (v:List VN):Bool:= !(decide ((Xd v).kind=1))&&(!(decide ((Xd v).kind=2))||decide ((Xd v).n=1))
def Yo (ns:List VN):Int×List VN:=if okB ns=true then (0,ns) else (3,[])
def Yn (v:List VN):List (List VN):=(List.range (Xe v).length).map (PL v)
def Xn (l:List (List VN)) (j:Nat):List VN:=l.getD j []
def Zo (l:List (List VN)):List VN:=Yi 5 [] (Xn l) l.length
def Xcs (names:List ByteArray) (l:List (List VN)):List VN:=Yi 6 names (Xn l) l.length
def K8 (v:List VN) (name:ByteArray):Int×List VN:=
 if (Xd v).kind=1 then (0,Ja)
 else if (Xd v).kind=6 then (if Yz (Xd v).keys name=true then (0,PL v (Zz (Xd v).keys name)) else (0,Ja))
 else (2,[])
def Z8 (v:List VN) (p:Int):Int:=if p<0 then p+((Xe v).length:Int) else p
def atR (v:List VN) (p:Int):Int×List VN:=
 if (Xd v).kind=1 then (0,Ja)
 else if (Xd v).kind=5 then (if 0<=Z8 v p/\Z8 v p<((Xe v).length:Int) then (0,PL v (Z8 v p).toNat) else (0,Ja))
 else (2,[])
def Vv (v:List VN):List (List VN):=
 if (Xd v).kind=6 then (Xd v).keys.map (fun k=>Xr 4 0 k) else (List.range (Xe v).length).map (fun i:Nat=>Xr 3 (i:Int) ByteArray.empty)
def K9 (v:List VN):Int×List VN:=if (Xd v).kind=5\/(Xd v).kind=6 then Yo (Zo (Vv v)) else (2,[])
def Yp (x:FN) (v:List VN):Int×List VN:=
 if x.kind=2 then K8 v x.name
 else if x.kind=3 then atR v x.place
 else if x.kind=5 then (0,x.cst)
 else if x.kind=11 then (Xas v,Gx v)
 else if x.kind=12 then K9 v
 else if x.kind=13 then (0,Q9 (!Xu v))
 else (0,v)
def Xne (kind:Int) (o:Int):Bool:=if kind=17 then decide (o=0) else if kind=18 then !decide (o=0) else if kind=19 then decide (o<0) else decide (o<=0)
def Yy (kind:Int) (a b:List VN):Int×List VN:=
 if kind=15 then (Qg a b,Zt a b) else if kind=16 then (Vz a b,Kg a b) else (0,Q9 (Xne kind (Y9 a b)))
def Z3 (oc:OcM) (names:List ByteArray) (v:List VN) (h:X6):List Int->List (List VN)->Xs->Int×Xs
 |[],done,st=>Yk (Yo (Xcs names done)) h st
 |k::ks,done,st=>Xp oc k v (fun y=>Z3 oc names v h ks (done++ [y])) st
def Va (h:X6):X6:=fun x st=>if Xu x=true then h x st else (0,st)
def Gn (oc:OcM) (k1:Int) (v:List VN) (h:X6) (r:OcR) (outs:List (List VN)):Int×Xs:=
 if r.c=0 then (if r.l.any Xu=true then Xq (Va h) r.l (r.fu,outs) else Xp oc k1 v h (r.fu,outs)) else (r.c,(r.fu,outs))
def Xar (h:X6) (r:OcR) (outs:List (List VN)):Int×Xs:=
 if r.c=0 then Xq h r.l (r.fu,outs) else (r.c,(r.fu,outs))
def Xk (x:FN) (j:Nat):Int:=Xj x.kids j
def Gq (oc:OcM) (x:FN) (v:List VN) (h:X6) (st:Xs):Int×Xs:=
 if (Xp oc (Xk x 0) v h st).1=0 then Xp oc (Xk x 1) v h (Xp oc (Xk x 0) v h st).2 else Xp oc (Xk x 0) v h st
def Kc (oc:OcM) (x:FN) (v:List VN) (h:X6) (st:Xs):Int×Xs:=
 if x.kids.length=0 then h (Zo []) st
 else if (oc (Xk x 0).toNat v st.1).c=0 then Yk (Yo (Zo (oc (Xk x 0).toNat v st.1).l)) h ((oc (Xk x 0).toNat v st.1).fu,st.2)
 else ((oc (Xk x 0).toNat v st.1).c,((oc (Xk x 0).toNat v st.1).fu,st.2))
def evM (oc:OcM) (x:FN) (v:List VN) (h:X6) (st:Xs):Int×Xs:=
 if x.kind=14 then (0,st)
 else if x.kind=4 then (if (Xd v).kind=5\/(Xd v).kind=6 then Xq h (Yn v) st else (2,st))
 else if x.kind=6 then Xp oc (Xk x 0) v (fun y=>Xp oc (Xk x 1) y h) st
 else if x.kind=7 then Gq oc x v h st
 else if x.kind=8 then Kc oc x v h st
 else if x.kind=9 then Z3 oc x.names v h x.kids [] st
 else if x.kind=10 then Xp oc (Xk x 0) v (fun y st=>if Xu y=true then h v st else (0,st)) st
 else if 15<=x.kind/\x.kind<=20 then Xp oc (Xk x 0) v (fun a=>Xp oc (Xk x 1) v (fun b=>Yk (Yy x.kind a b) h)) st
 else if x.kind=21 then Gn oc (Xk x 1) v h (Zp (oc (Xk x 0).toNat v st.1)) st.2
 else if x.kind=22 then Xp oc (Xk x 0) v (fun y=>if Xu y=true then Xp oc (Xk x 1) v h else Xp oc (Xk x 2) v h) st
 else if x.kind=23 then Xar h (Zp (oc (Xk x 0).toNat v st.1)) st.2
 else Yk (Yp x v) h st
def Xh (F:List FN):Nat->OcM
 |0,n,v,fu=>⟨4,[],fu⟩
 |d+1,n,v,fu=>
  if fu=0 then ⟨4,[],0⟩
  else if (evM (Xh F d) (Xo F n) v Xl (fu-1,[])).1=0 then ⟨0,(evM (Xh F d) (Xo F n) v Xl (fu-1,[])).2.2,(evM (Xh F d) (Xo F n) v Xl (fu-1,[])).2.1⟩
  else ⟨(evM (Xh F d) (Xo F n) v Xl (fu-1,[])).1,[],(evM (Xh F d) (Xo F n) v Xl (fu-1,[])).2.1⟩
def G8 (G:Xs->Xs->Prop) (h:X6):Prop:=∀x st,okB x=true->G st (h x st).2
structure OcGood (oc:OcM):Prop where
 ok:∀n v fu,okB v=true->∀x∈(oc n v fu).l,okB x=true
 few:∀n v fu,okB v=true->(oc n v fu).l.length<=40
 le:∀n v fu,okB v=true->(oc n v fu).fu<=fu
def Goes (st st':Xs):Prop:=st'.1<=st.1/\((∀x∈st.2,okB x=true)->∀x∈st'.2,okB x=true)/\(st.2.length<=40->st'.2.length<=40)
theorem Goes.refl (st:Xs):Goes st st:=⟨Nat.le_refl _,id,id⟩
theorem Goes.trans {a b c:Xs} (h:Goes a b) (k:Goes b c):Goes a c:=⟨Nat.le_trans k.1 h.1,fun x=>k.2.1 (h.2.1 x),fun x=>k.2.2 (h.2.2 x)⟩
theorem Ur {h:X6} (hh:G8 Goes h):∀(l:List (List VN)) (st:Xs),(∀x∈l,okB x=true)->Goes st (Xq h l st).2:=by
 intro l
 induction l with
 |nil=>intro st _;exact Goes.refl _
 |cons x r ih=>
  intro st b
  rw[Xq]
  have c:=hh x st (b x (by simp))
  split
  ·exact c.trans (ih _ fun y hy=>b y (by simp[hy]))
  ·exact c
theorem Xaf {oc:OcM} (ho:OcGood oc) {h:X6} (hh:G8 Goes h) (n:Int) {v:List VN} (hv:okB v=true) (st:Xs):Goes st (Xp oc n v h st).2:=by
 unfold Xp
 have b:Goes st ((oc n.toNat v st.1).fu,st.2):=⟨ho.le _ _ _ hv,id,id⟩
 split
 ·exact b.trans (Ur hh _ _ (ho.ok _ _ _ hv))
 ·exact b
theorem Xti {h:X6} (hh:G8 Goes h) {r:Int×List VN} (hr:r.1=0->okB r.2=true) (st:Xs):Goes st (Yk r h st).2:=by
 unfold Yk
 split
 ·rename_i e;exact hh _ _ (hr e)
 ·exact Goes.refl _
theorem Xdh {ns:List VN} (h:(Yo ns).1=0):okB (Yo ns).2=true:=by
 unfold Yo at h|-
 split<;>simp_all
theorem Xv9:G8 Goes Xl:=by
 intro x c b
 unfold Xl
 split
 ·exact Goes.refl _
 ·rename_i e
  refine ⟨Nat.le_refl _,fun h y hy=> ?_,fun h=> ?_⟩
  ·simp only[List.mem_append,List.mem_singleton] at hy
   rcases hy with hy|rfl
   ·exact h y hy
   ·exact b
  ·simp only[List.length_append,List.length_singleton];omega


theorem Xcy {k n:Int} {s:ByteArray} (h:Xz ⟨k,n,s,[],[]⟩=true):okB (Xr k n s)=true:=by
 unfold okB Gz
 have b:(List.range (Xr k n s).length)= [0]:=by unfold Xr;rfl
 rw[b]
 have c:Xb (Xr k n s) 0=⟨k,n,s,[],[]⟩:=rfl
 have d:Z5 (Xr k n s) 0=true:=rfl
 have f:Jo (Xr k n s)=true:=rfl
 rw[f,Bool.and_true]
 simp only[List.all_cons,List.all_nil,c,h,d,Bool.and_self,Bool.and_true]
 rfl
theorem U3:ByteArray.empty.toList= []:=by rw[ByteArray.toList_eq];rfl
theorem Xba:okB Ja=true:=Xcy (by unfold Xz Yr Zi;simp[U3])
theorem Xf5 (b:Bool):okB (Q9 b)=true:=Xcy (by unfold Xz Yr Zi;cases b<;>simp[U3])
theorem Xf6 {v:List VN} (h:okB v=true) {j:Nat} (hj:j<(Xe v).length):okB (PL v j)=true:=by
 obtain ⟨q,b,c⟩:=Zh h hj
 unfold PL
 rw[b,Int.toNat_natCast]
 exact Xds h (by omega)
theorem Xwn {v:List VN} (h:okB v=true):∀x∈Yn v,okB x=true:=by
 intro x b
 unfold Yn at b
 obtain ⟨j,c,rfl⟩:=List.mem_map.1 b
 exact Xf6 h (List.mem_range.1 c)
theorem Xju {l:List ByteArray} {key:ByteArray} (h:Yz l key=true):Zz l key<l.length:=by
 unfold Yz at h
 simp only[Bool.and_eq_true,decide_eq_true_eq] at h
 exact h.1
theorem X20 {v:List VN} (h:okB v=true) (s:ByteArray) (he:(K8 v s).1=0):okB (K8 v s).2=true:=by
 unfold K8 at he|-
 by_cases k1:(Xd v).kind=1
 ·rw[if_pos k1];exact Xba
 ·rw[if_neg k1] at he|-
  by_cases k6:(Xd v).kind=6
  ·rw[if_pos k6]
   by_cases hk:Yz (Xd v).keys s=true
   ·rw[if_pos hk]
    have:=Xju hk
    exact Xf6 h (by rw[<-(Y0 h k6).1];exact this)
   ·rw[if_neg hk];exact Xba
  ·rw[if_neg k6] at he;simp at he
theorem X4e {v:List VN} (h:okB v=true) (p:Int) (he:(atR v p).1=0):okB (atR v p).2=true:=by
 unfold atR at he|-
 by_cases k1:(Xd v).kind=1
 ·rw[if_pos k1];exact Xba
 ·rw[if_neg k1] at he|-
  by_cases k5:(Xd v).kind=5
  ·rw[if_pos k5]
   by_cases hp:0<=Z8 v p/\Z8 v p<((Xe v).length:Int)
   ·rw[if_pos hp];exact Xf6 h (by omega)
   ·rw[if_neg hp];exact Xba
  ·rw[if_neg k5] at he;simp at he
theorem X0f {v:List VN} (he:(K9 v).1=0):okB (K9 v).2=true:=by
 unfold K9 at he|-
 split
 ·rename_i h;rw[if_pos h] at he;exact Xdh he
 ·rename_i h;rw[if_neg h] at he;simp at he
theorem Xih {n:Int} (h1: -1000000000000000<=n) (h2:n<=1000000000000000):okB (Xr 3 n ByteArray.empty)=true:=Xcy (by unfold Xz Yr Zi;simp[U3,h1,h2])
theorem Xwo {v:List VN} (h:okB v=true) (he:Xas v=0):okB (Gx v)=true:=by
 unfold Xas at he
 unfold Gx
 rw[if_pos h] at he|-
 cases hl:Zm (Xd v) with
 |none=>rw[hl] at he;simp[Xij] at he
 |some n=>
  have:=Xk5 h hl
  exact Xih (by omega) this.2
theorem X21 {x:FN} {v:List VN} (hx:x.kind=5->okB x.cst=true) (h:okB v=true) (he:(Yp x v).1=0):okB (Yp x v).2=true:=by
 unfold Yp at he|-
 by_cases k2:x.kind=2
 ·rw[if_pos k2] at he|-;exact X20 h _ he
 rw[if_neg k2] at he|-
 by_cases k3:x.kind=3
 ·rw[if_pos k3] at he|-;exact X4e h _ he
 rw[if_neg k3] at he|-
 by_cases k5:x.kind=5
 ·rw[if_pos k5] at he|-;exact hx k5
 rw[if_neg k5] at he|-
 by_cases k11:x.kind=11
 ·rw[if_pos k11] at he|-;exact Xwo h he
 rw[if_neg k11] at he|-
 by_cases k12:x.kind=12
 ·rw[if_pos k12] at he|-;exact X0f he
 rw[if_neg k12] at he|-
 by_cases k13:x.kind=13
 ·rw[if_pos k13];exact Xf5 _
 rw[if_neg k13];exact h
theorem Xjv {a b:List VN} (he:Qg a b=0):okB (Zt a b)=true:=by
 unfold Qg at he
 unfold Zt
 by_cases h:okB a=true/\okB b=true
 ·rw[if_pos h] at he|-
  by_cases k1:(Xd a).kind=1
  ·rw[if_pos k1];exact h.2
  rw[if_neg k1] at he|-
  by_cases k2:(Xd b).kind=1
  ·rw[if_pos k2];exact h.1
  rw[if_neg k2] at he|-
  by_cases k3:(Xd a).kind=(Xd b).kind/\(Xd a).kind≠2
  ·rw[if_pos k3] at he|-
   by_cases r:okB (Q3 a b)=true
   ·rw[if_pos r];exact r
   ·rw[if_neg r] at he;simp at he
  ·rw[if_neg k3] at he;simp at he
 ·rw[if_neg h] at he;simp at he
theorem Uf {vs:List VN} (h:okB vs=true):∀j,j<vs.length->Fits (Xb vs j):=by
 have p:=(Xm h).1
 have:=Xw8 (V0 h vs.length (vs.length-1) (by omega) (by omega)) (by rw[Ku h];omega)
 rwa [Ku h] at this
theorem Xt3 {us:List VN} (hok:okB us=true) (hk:(Xd us).kind=5) (vs:List VN):okB (Vj us vs)=true:=by
 have p:=(Xm hok).1
 have f:=Xog hok vs (F:=us.length) (Nat.le_refl _)
 have g:goodT (us.length+1) (.mk 5 0 ByteArray.empty [] (Zs us vs us.length)):=by
  refine ⟨by unfold Xdl Xz Yr Zi;simp,fun j hj=> ?_⟩
  have b:j<(Yg us vs (Xe us).length).length:=by simpa [Zs] using hj
  have c:=(Vy us vs (Xe us).length).2 _ (List.getElem_mem b)
  obtain ⟨q,s,t⟩:=Zh hok c
  have e:Yf (Zs us vs us.length) j=Xt us us.length q:=by
   unfold Zs Yf
   rw[List.getD_eq_getElem?_getD,List.getElem?_map,List.getElem?_eq_getElem b]
   simp[s]
  rw[e]
  exact V0 hok _ _ (by omega) (by omega)
 rw[<-f]
 refine (Xwf g.full).2 ⟨?_,g, ?_⟩
 ·rw[f];exact (Xof hok hk vs (Uf hok)).1.1
 ·have d:=V0 hok (us.length+1) (us.length-1) (by omega) (by omega)
  have y:Yb (us.length+1) (Xt us (us.length+1) (us.length-1)) 0=us:=by
   have l:=Xe9 (V0 hok us.length (us.length-1) (by omega) (by omega)).full us 0 (us.length+1) (by omega) (fun j hj=>by rw[Nat.zero_add,Ku hok])
   rw[Ku hok,Nat.zero_add] at l
   rw[l,Xx4 (V0 hok us.length (us.length-1) (by omega) (by omega)).full (by omega),Ku hok]
  have z:=((Xwf d.full).1 (by rw[y];exact hok)).2.2
  rw[Xt,hiT] at z
  rw[hiT]
  have C:hiK (hiT us.length) (Zs us vs us.length) (Zs us vs us.length).length<=7:=Xx5 fun j hj=>by
   have b:j<(Yg us vs (Xe us).length).length:=by simpa [Zs] using hj
   have c:=(Vy us vs (Xe us).length).2 _ (List.getElem_mem b)
   have e:Yf (Zs us vs us.length) j=Xt us us.length (Xj (Xe us) ((Yg us vs (Xe us).length)[j])).toNat:=by
    unfold Zs Yf
    rw[List.getD_eq_getElem?_getD,List.getElem?_map,List.getElem?_eq_getElem b]
    rfl
   have o:=X4q (F:=hiT us.length) (kids:=(Xb us (us.length-1)).kids.map fun k=>Xt us us.length k.toNat) (m:=((Xb us (us.length-1)).kids.map fun k=>Xt us us.length k.toNat).length) (j:=(Yg us vs (Xe us).length)[j]) (by rw[List.length_map];exact c)
   rw[G7 (by exact c)] at o
   rw[e]
   have B:hiT us.length (Xt us us.length (Xj (Xe us) ((Yg us vs (Xe us).length)[j])).toNat)<=hiK (hiT us.length) ((Xb us (us.length-1)).kids.map fun k=>Xt us us.length k.toNat) ((Xb us (us.length-1)).kids.map fun k=>Xt us us.length k.toNat).length:=o
   omega
  omega
theorem Xn2 {a b:List VN} (he:Vz a b=0):okB (Kg a b)=true:=by
 unfold Vz at he
 unfold Kg
 by_cases h:okB a=true/\okB b=true
 ·rw[if_pos h] at he|-
  by_cases k3:(Xd a).kind=3/\(Xd b).kind=3
  ·rw[if_pos k3] at he|-
   by_cases r:okB (Gr a b)=true
   ·rw[if_pos r];exact r
   ·rw[if_neg r] at he;simp at he
  ·rw[if_neg k3] at he|-
   by_cases k5:(Xd a).kind=5/\(Xd b).kind=5
   ·rw[if_pos k5];exact Xt3 h.1 k5.1 b
   ·rw[if_neg k5] at he;simp at he
 ·rw[if_neg h] at he;simp at he


theorem Xau:okB (Zo [])=true:=by
 have e:Zo []=Xr 5 0 ByteArray.empty:=rfl
 rw[e]
 exact Xcy (by unfold Xz Yr Zi;simp[U3])
structure Closed (oc:OcM) (Pr:(Xs->Int×Xs)->Prop):Prop where
 pure:∀c,Pr (fun st=>(c,st))
 all:∀h l,(∀x∈l,okB x=true)->(∀x,okB x=true->Pr (h x))->Pr (Xq h l)
 each:∀n v h,okB v=true->(∀x,okB x=true->Pr (h x))->Pr (Xp oc n v h)
 comma:∀x v h,okB v=true->(∀y,okB y=true->Pr (h y))->Pr (Gq oc x v h)
 list:∀x v h,okB v=true->(∀y,okB y=true->Pr (h y))->Pr (Kc oc x v h)
 alt:∀k0 k1 v h,okB v=true->(∀y,okB y=true->Pr (h y))->Pr (fun st=>Gn oc k1 v h (Zp (oc k0 v st.1)) st.2)
 tri:∀k0 v h,okB v=true->(∀y,okB y=true->Pr (h y))->Pr (fun st=>Xar h (Zp (oc k0 v st.1)) st.2)
theorem Xbt {oc:OcM} {Pr:(Xs->Int×Xs)->Prop} (C:Closed oc Pr) {h:X6} (hh:∀y,okB y=true->Pr (h y)) {r:Int×List VN} (hr:r.1=0->okB r.2=true):Pr (Yk r h):=by
 by_cases e:r.1=0
 ·have:Yk r h=h r.2:=by funext st;unfold Yk;rw[if_pos e]
  rw[this];exact hh _ (hr e)
 ·have:Yk r h=fun st=>(r.1,st):=by funext st;unfold Yk;rw[if_neg e]
  rw[this];exact C.pure _
theorem Xuf {oc:OcM} {Pr:(Xs->Int×Xs)->Prop} (C:Closed oc Pr) {h:X6} (hh:∀y,okB y=true->Pr (h y)) (names:List ByteArray) {v:List VN} (hv:okB v=true):∀(ks:List Int) (done:List (List VN)),Pr (Z3 oc names v h ks done):=by
 intro ks
 induction ks with
 |nil=>intro done;exact Xbt C hh Xdh
 |cons k ks ih=>intro done;exact C.each k v _ hv fun y _=>ih _
theorem Xhh {k:Int} {a b:List VN} (ha:okB a=true) (hb:okB b=true) (he:(Yy k a b).1=0):okB (Yy k a b).2=true:=by
 unfold Yy at he|-
 by_cases k1:k=15
 ·rw[if_pos k1] at he|-;exact Xjv he
 rw[if_neg k1] at he|-
 by_cases k2:k=16
 ·rw[if_pos k2] at he|-;exact Xn2 he
 rw[if_neg k2] at he|-
 exact Xf5 _
theorem Xxb {oc:OcM} {Pr:(Xs->Int×Xs)->Prop} (C:Closed oc Pr) {x:FN} {v:List VN} {h:X6} (hx:x.kind=5->okB x.cst=true) (hv:okB v=true) (hh:∀y,okB y=true->Pr (h y)):Pr (evM oc x v h):=by
 by_cases k14:x.kind=14
 ·have:evM oc x v h=fun st=>(0,st):=by funext st;unfold evM;rw[if_pos k14]
  rw[this];exact C.pure 0
 by_cases k4:x.kind=4
 ·by_cases hn:(Xd v).kind=5\/(Xd v).kind=6
  ·have:evM oc x v h=Xq h (Yn v):=by funext st;unfold evM;rw[if_neg k14,if_pos k4,if_pos hn]
   rw[this];exact C.all _ _ (Xwn hv) hh
  ·have:evM oc x v h=fun st=>(2,st):=by funext st;unfold evM;rw[if_neg k14,if_pos k4,if_neg hn]
   rw[this];exact C.pure 2
 by_cases k6:x.kind=6
 ·have:evM oc x v h=Xp oc (Xk x 0) v (fun y=>Xp oc (Xk x 1) y h):=by funext st;unfold evM;rw[if_neg k14,if_neg k4,if_pos k6]
  rw[this];exact C.each _ _ _ hv fun y hy=>C.each _ _ _ hy hh
 by_cases k7:x.kind=7
 ·have:evM oc x v h=Gq oc x v h:=by funext st;unfold evM;rw[if_neg k14,if_neg k4,if_neg k6,if_pos k7]
  rw[this];exact C.comma _ _ _ hv hh
 by_cases k8:x.kind=8
 ·have:evM oc x v h=Kc oc x v h:=by funext st;unfold evM;rw[if_neg k14,if_neg k4,if_neg k6,if_neg k7,if_pos k8]
  rw[this];exact C.list _ _ _ hv hh
 by_cases k9:x.kind=9
 ·have:evM oc x v h=Z3 oc x.names v h x.kids []:=by funext st;unfold evM;rw[if_neg k14,if_neg k4,if_neg k6,if_neg k7,if_neg k8,if_pos k9]
  rw[this];exact Xuf C hh _ hv _ _
 by_cases k10:x.kind=10
 ·have:evM oc x v h=Xp oc (Xk x 0) v (fun y st=>if Xu y=true then h v st else (0,st)):=by funext st;unfold evM;rw[if_neg k14,if_neg k4,if_neg k6,if_neg k7,if_neg k8,if_neg k9,if_pos k10]
  rw[this]
  refine C.each _ _ _ hv fun y hy=> ?_
  by_cases t:Xu y=true
  ·simp only[t,if_true];exact hh v hv
  ·simp only[t];exact C.pure 0
 by_cases k15:15<=x.kind/\x.kind<=20
 ·have:evM oc x v h=Xp oc (Xk x 0) v (fun a=>Xp oc (Xk x 1) v (fun b=>Yk (Yy x.kind a b) h)):=by funext st;unfold evM;rw[if_neg k14,if_neg k4,if_neg k6,if_neg k7,if_neg k8,if_neg k9,if_neg k10,if_pos k15]
  rw[this];exact C.each _ _ _ hv fun a ha=>C.each _ _ _ hv fun b hb=>Xbt C hh (Xhh ha hb)
 by_cases k21:x.kind=21
 ·have:evM oc x v h=fun st=>Gn oc (Xk x 1) v h (Zp (oc (Xk x 0).toNat v st.1)) st.2:=by funext st;unfold evM;rw[if_neg k14,if_neg k4,if_neg k6,if_neg k7,if_neg k8,if_neg k9,if_neg k10,if_neg k15,if_pos k21]
  rw[this];exact C.alt _ _ _ _ hv hh
 by_cases k22:x.kind=22
 ·have:evM oc x v h=Xp oc (Xk x 0) v (fun y=>if Xu y=true then Xp oc (Xk x 1) v h else Xp oc (Xk x 2) v h):=by funext st;unfold evM;rw[if_neg k14,if_neg k4,if_neg k6,if_neg k7,if_neg k8,if_neg k9,if_neg k10,if_neg k15,if_neg k21,if_pos k22]
  rw[this]
  refine C.each _ _ _ hv fun y hy=> ?_
  by_cases t:Xu y=true
  ·rw[if_pos t];exact C.each _ _ _ hv hh
  ·rw[if_neg t];exact C.each _ _ _ hv hh
 by_cases k23:x.kind=23
 ·have:evM oc x v h=fun st=>Xar h (Zp (oc (Xk x 0).toNat v st.1)) st.2:=by funext st;unfold evM;rw[if_neg k14,if_neg k4,if_neg k6,if_neg k7,if_neg k8,if_neg k9,if_neg k10,if_neg k15,if_neg k21,if_neg k22,if_pos k23]
  rw[this];exact C.tri _ _ _ hv hh
 have:evM oc x v h=Yk (Yp x v) h:=by funext st;unfold evM;rw[if_neg k14,if_neg k4,if_neg k6,if_neg k7,if_neg k8,if_neg k9,if_neg k10,if_neg k15,if_neg k21,if_neg k22,if_neg k23]
 rw[this];exact Xbt C hh (X21 hx hv)
def X2b (F:List FN):Prop:=∀n,(Xo F n).kind=5->okB (Xo F n).cst=true
theorem Xug {h:X6} (hh:G8 Goes h):G8 Goes (Va h):=by
 intro x b c
 unfold Va
 split
 ·exact hh x b c
 ·exact Goes.refl _
theorem Xam {oc:OcM} (ho:OcGood oc) (n:Nat) {v:List VN} (hv:okB v=true) (fu:Nat):(∀x∈(Zp (oc n v fu)).l,okB x=true)/\(Zp (oc n v fu)).fu<=fu:=by
 unfold Zp
 split
 ·exact ⟨fun x hx=>by simp at hx,ho.le _ _ _ hv⟩
 ·exact ⟨ho.ok _ _ _ hv,ho.le _ _ _ hv⟩
theorem Xrh {oc:OcM} (ho:OcGood oc):Closed oc (fun g=>∀st,Goes st (g st).2):=by
 have b:∀{h:X6},(∀y,okB y=true->∀st,Goes st (h y st).2)->G8 Goes h:=fun hh x st hx=>hh x hx st
 refine ⟨fun c st=>Goes.refl _,fun h l hl hh st=>Ur (b hh) l st hl,fun n v h hv hh st=>Xaf ho (b hh) n hv st,fun x v h hv hh st=> ?_,fun x v h hv hh st=> ?_,fun k0 k1 v h hv hh st=> ?_,fun k0 v h hv hh st=> ?_⟩
 ·unfold Gq
  split
  ·exact (Xaf ho (b hh) _ hv st).trans (Xaf ho (b hh) _ hv _)
  ·exact Xaf ho (b hh) _ hv st
 ·unfold Kc
  have d:Goes st ((oc (Xk x 0).toNat v st.1).fu,st.2):=⟨ho.le _ _ _ hv,id,id⟩
  split
  ·exact hh _ Xau st
  ·split
   ·exact d.trans (Xti (b hh) Xdh _)
   ·exact d
 ·obtain ⟨f,j⟩:=Xam ho k0 hv st.1
  have d:Goes st ((Zp (oc k0 v st.1)).fu,st.2):=⟨j,id,id⟩
  show Goes st (Gn oc k1 v h (Zp (oc k0 v st.1)) st.2).2
  unfold Gn
  split
  ·split
   ·exact d.trans (Ur (Xug (b hh)) _ _ f)
   ·exact d.trans (Xaf ho (b hh) _ hv _)
  ·exact d
 ·obtain ⟨f,j⟩:=Xam ho k0 hv st.1
  have d:Goes st ((Zp (oc k0 v st.1)).fu,st.2):=⟨j,id,id⟩
  show Goes st (Xar h (Zp (oc k0 v st.1)) st.2).2
  unfold Xar
  split
  ·exact d.trans (Ur (b hh) _ _ f)
  ·exact d
theorem X07 {F:List FN} (hF:X2b F):∀d,OcGood (Xh F d):=by
 intro d
 induction d with
 |zero=>exact ⟨fun n v fu _ x hx=>by simp[Xh] at hx,fun n v fu _=>by simp[Xh],fun n v fu _=>by simp[Xh]⟩
 |succ d ih=>
  have key:∀n v fu,okB v=true->Goes (fu-1,[]) (evM (Xh F d) (Xo F n) v Xl (fu-1,[])).2:=fun n v fu hv=>Xxb (Xrh ih) (hF n) hv (fun y hy st=>Xv9 y st hy) (fu-1,[])
  refine ⟨fun n v fu hv x hx=> ?_,fun n v fu hv=> ?_,fun n v fu hv=> ?_⟩
  ·have:=key n v fu hv
   rw[Xh] at hx
   split at hx
   ·simp at hx
   ·split at hx
    ·exact this.2.1 (by simp) x hx
    ·simp at hx
  ·have:=key n v fu hv
   rw[Xh]
   split
   ·simp
   ·split
    ·exact this.2.2 (by simp)
    ·simp
  ·have:=(key n v fu hv).1
   rw[Xh]
   split
   ·simp
   ·split
    ·simp at this|-;omega
    ·simp at this|-;omega


structure NodeOk (fs:List FN) (x:FN):Prop where
 fit:Xv x=true
 kid:∀j,j<x.kids.length->0<=Xk x j/\(Xk x j).toNat<fs.length
theorem Xkf {fs:List FN} (h:okF fs=true) {n:Nat} (hn:n<fs.length):NodeOk fs (Xo fs n):=by
 unfold okF at h
 simp only[Bool.and_eq_true,List.all_eq_true,List.mem_range] at h
 have c:=h.1.2 n hn
 refine ⟨c.1,fun j hj=> ?_⟩
 have b:=c.2
 unfold Jw at b
 simp only[List.all_eq_true,Bool.and_eq_true,decide_eq_true_eq] at b
 have d:=b (Xj (Xo fs n).kids j) (by unfold Qx;rw[Y8 hj];exact List.getElem_mem _)
 unfold Xk
 omega
theorem NodeOk.parts {fs:List FN} {x:FN} (h:NodeOk fs x):J1 x=true/\Jm x=true:=by
 have:=h.fit
 unfold Xv at this
 simp only[Bool.and_eq_true] at this
 exact ⟨this.1.2,this.2⟩
theorem NodeOk.range {fs:List FN} {x:FN} (h:NodeOk fs x):1<=x.kind/\x.kind<=23:=by
 have:=h.parts.2
 unfold Jm at this
 by_cases k8:x.kind=8
 ·omega
 rw[if_neg k8] at this
 by_cases k9:x.kind=9
 ·omega
 rw[if_neg k9] at this
 simp only[Bool.and_eq_true,decide_eq_true_eq] at this
 omega
theorem NodeOk.many {fs:List FN} {x:FN} (h:NodeOk fs x) (k8:x.kind≠8) (k9:x.kind≠9):(x.kids.length:Int)=kidsN x.kind:=by
 have:=h.parts.2
 unfold Jm at this
 rw[if_neg k8,if_neg k9] at this
 simp only[Bool.and_eq_true,decide_eq_true_eq] at this
 exact this.2
theorem NodeOk.two {fs:List FN} {x:FN} (h:NodeOk fs x) (k:x.kind=6\/x.kind=7\/(15<=x.kind/\x.kind<=21)):x.kids.length=2:=by
 have b:=h.many (by omega) (by omega)
 have e:kidsN x.kind=2:=by unfold kidsN;rw[if_pos (by omega)]
 omega
theorem NodeOk.one {fs:List FN} {x:FN} (h:NodeOk fs x) (k:x.kind=10\/x.kind=23):x.kids.length=1:=by
 have b:=h.many (by omega) (by omega)
 have e:kidsN x.kind=1:=by unfold kidsN;rw[if_neg (by omega),if_pos k]
 omega
theorem NodeOk.three {fs:List FN} {x:FN} (h:NodeOk fs x) (k:x.kind=22):x.kids.length=3:=by
 have b:=h.many (by omega) (by omega)
 have e:kidsN x.kind=3:=by unfold kidsN;rw[if_neg (by omega),if_neg (by omega),if_pos k]
 omega
theorem NodeOk.list {fs:List FN} {x:FN} (h:NodeOk fs x) (k:x.kind=8):x.kids.length<=1:=by
 have:=h.parts.2
 unfold Jm at this
 rw[if_pos k] at this
 simpa using this
theorem NodeOk.map {fs:List FN} {x:FN} (h:NodeOk fs x) (k:x.kind=9):x.kids.length=x.names.length/\x.names.length<=5:=by
 have c:=h.parts.2
 have b:=h.parts.1
 unfold Jm at c
 rw[if_neg (by omega),if_pos k] at c
 unfold J1 at b
 rw[if_neg (by omega),if_neg (by omega),if_neg (by omega),if_pos k] at b
 unfold Qz at b
 simp only[Bool.and_eq_true,decide_eq_true_eq] at b
 exact ⟨by simpa using c,b.1⟩
theorem NodeOk.key {fs:List FN} {x:FN} (h:NodeOk fs x) (k:x.kind=2):x.name.size<=60:=by
 have b:=h.parts.1
 unfold J1 at b
 rw[if_pos k] at b
 unfold Y1 at b
 simp only[Bool.and_eq_true,decide_eq_true_eq] at b
 exact b.1.1.2
theorem NodeOk.place {fs:List FN} {x:FN} (h:NodeOk fs x) (k:x.kind=3): -80<=x.place/\x.place<=80:=by
 have b:=h.parts.1
 unfold J1 at b
 rw[if_neg (by omega),if_pos k] at b
 simpa using b
theorem NodeOk.cst {fs:List FN} {x:FN} (h:NodeOk fs x) (k:x.kind=5):x.cst.length=1/\okB x.cst=true:=by
 have b:=h.parts.1
 unfold J1 at b
 rw[if_neg (by omega),if_neg (by omega),if_pos k] at b
 unfold Vn at b
 simp only[Bool.and_eq_true,decide_eq_true_eq] at b
 exact ⟨b.1.1.1,b.1.1.2⟩
theorem X4s {fs:List FN} (h:okF fs=true):X2b fs:=by
 intro n k
 by_cases hn:n<fs.length
 ·exact ((Xkf h hn).cst k).2
 ·have e:Xo fs n=FN.zero:=by unfold Xo;rw[List.getD_eq_getElem?_getD,List.getElem?_eq_none (by omega)];rfl
  rw[e] at k
  exact absurd k (by decide)
theorem Ze {fs:List FN} (h:okF fs=true) (d:Nat):OcGood (Xh fs d):=X07 (X4s h) d


theorem X1o:∀(l:List (List VN)) (fu:Nat) (out:List (List VN)),out.length<=40->Xq Xl l (fu,out)=if out.length+l.length<=40 then (0,(fu,out++l)) else (3,(fu,(out++l).take 40)):=by
 intro l
 induction l with
 |nil=>intro fu out h;rw[if_pos (by simpa using h)];simp[Xq]
 |cons x r ih=>
  intro fu out h
  rw[Xq]
  by_cases e:out.length=40
  ·have b:Xl x (fu,out)=(3,(fu,out)):=by unfold Xl;rw[if_pos e]
   rw[b,if_neg (show ¬((3:Int)=0) by decide),if_neg (by simp;omega)]
   have c:(out++x::r).take 40=out:=by rw[<-e];exact List.take_left' rfl
   rw[c]
  ·have b:Xl x (fu,out)=(0,(fu,out++ [x])):=by unfold Xl;rw[if_neg e]
   rw[b,if_pos rfl,ih fu (out++ [x]) (by simp;omega)]
   have d:(out++ [x]).length+r.length=out.length+(x::r).length:=by simp;omega
   rw[d,List.append_assoc]
   rfl
theorem Xu2 (r:Int×List VN) (st:Xs):Yk r Xl st=if r.1=0 then Xq Xl [r.2] st else (r.1,st):=by
 unfold Yk
 split
 ·rw[Xq]
  split
  ·rename_i h1 h2
   show Xl r.2 st=(0,(Xl r.2 st).2)
   rw[<-h2]
  ·rfl
 ·rfl
def Now (R:Int×Xs) (k:Xs->Int×Xs) (c:Int) (fu:Nat) (out:List (List VN)):Prop:=(c=0->k (fu,out)=R/\out.length<=40)/\(c≠0->R.1=c/\R.2.1=fu)
theorem Now.start {R:Int×Xs} {k:Xs->Int×Xs} {fu:Nat} {out:List (List VN)} (h:k (fu,out)=R) (hl:out.length<=40):Now R k 0 fu out:=⟨fun _=>⟨h,hl⟩,fun h=>absurd rfl h⟩
theorem Now.dead {R:Int×Xs} {k:Xs->Int×Xs} {c:Int} {fu:Nat} {out:List (List VN)} (h:Now R k c fu out) (hc:c≠0) (k':Xs->Int×Xs) (out':List (List VN)):Now R k' c fu out':=⟨fun e=>absurd e hc,h.2⟩
theorem Now.fin {R:Int×Xs} {c:Int} {fu:Nat} {out:List (List VN)} (h:Now R (fun st=>(0,st)) c fu out):c=R.1/\fu=R.2.1/\(c=0->out=R.2.2):=by
 by_cases e:c=0
 ·obtain ⟨b,_⟩:=h.1 e
  subst e
  rw[<-b]
  exact ⟨rfl,rfl,fun _=>rfl⟩
 ·exact ⟨(h.2 e).1.symm,(h.2 e).2.symm,fun e2=>absurd e2 e⟩
def Zj (c:Int) (n:Nat):Int:=if c=0/\40<n then 3 else c
theorem Xbd {c:Int} {n:Nat} (h:c≠0):Zj c n=c:=by unfold Zj;rw[if_neg (by omega)]
theorem Wq {c:Int} {n:Nat} (h:n<=40):Zj c n=c:=by unfold Zj;rw[if_neg (by omega)]
def Y3 (a:Int×Xs) (k:Xs->Int×Xs):Int×Xs:=if a.1=0 then k a.2 else a
theorem Xan (a:Int×Xs):Y3 a (fun st=>(0,st))=a:=by
 unfold Y3
 split
 ·rename_i h;rw[<-h]
 ·rfl
theorem Xpe (h:X6) (x:List VN) (r:List (List VN)) (st:Xs):Xq h (x::r) st=Y3 (h x st) (Xq h r):=rfl
theorem Ui {R:Int×Xs} {k:Xs->Int×Xs} {c0:Int} {l m out:List (List VN)} {fu:Nat} (hl:out.length<=40) (hm:c0=0->m=l) (h:R=Y3 (if c0=0 then Xq Xl l (fu,out) else (c0,(fu,out))) k):Now R k (Zj c0 (out.length+m.length)) fu (out++m):=by
 by_cases e:c0=0
 ·obtain rfl:=hm e
  subst e
  rw[if_pos rfl,X1o m fu out hl] at h
  by_cases e1:out.length+m.length<=40
  ·rw[if_pos e1] at h
   rw[Wq e1]
   exact ⟨fun _=>⟨by rw[h];rfl,by simpa using e1⟩,fun e=>absurd rfl e⟩
  ·rw[if_neg e1] at h
   have b:Zj 0 (out.length+m.length)=3:=by unfold Zj;rw[if_pos ⟨rfl,by omega⟩]
   rw[b]
   refine ⟨fun e=>by omega,fun _=> ?_⟩
   rw[h]
   exact ⟨rfl,rfl⟩
 ·rw[Xbd e]
  rw[if_neg e] at h
  refine ⟨fun b=>absurd b e,fun _=> ?_⟩
  have c:Y3 (c0,(fu,out)) k=(c0,(fu,out)):=by unfold Y3;rw[if_neg e]
  rw[h,c]
  exact ⟨rfl,rfl⟩
def Zd (r:Int×List VN):List (List VN):=if r.1=0 then [r.2] else []
theorem V5 (r:Int×List VN):(Zd r).length<=1:=by unfold Zd;split<;>simp
theorem Xj9 {R:Int×Xs} {k:Xs->Int×Xs} {r:Int×List VN} {out:List (List VN)} {fu:Nat} (hl:out.length<=40) (h:R=Y3 (Yk r Xl (fu,out)) k):Now R k (Zj r.1 (out.length+(Zd r).length)) fu (out++Zd r):=
 Ui (l:= [r.2]) hl (fun e=>by unfold Zd;rw[if_pos e]) (by rw[h,Xu2])
theorem Uj {oc:OcM} {n:Int} {v:List VN} {fu:Nat} {out:List (List VN)} {r:OcR} (hr:oc n.toNat v fu=r):Xp oc n v Xl (fu,out)=if r.c=0 then Xq Xl r.l (r.fu,out) else (r.c,(r.fu,out)):=by
 unfold Xp
 show (if (oc n.toNat v fu).c=0 then _ else _)=_
 rw[hr]
theorem Xpf {oc:OcM} {n:Int} {v:List VN} {h:X6} {fu:Nat} {out:List (List VN)} {r:OcR} (hr:oc n.toNat v fu=r):Xp oc n v h (fu,out)=if r.c=0 then Xq h r.l (r.fu,out) else (r.c,(r.fu,out)):=by
 unfold Xp
 show (if (oc n.toNat v fu).c=0 then _ else _)=_
 rw[hr]
theorem Xka {oc:OcM} {n:Int} {v:List VN} {h:X6} {fu:Nat} {out:List (List VN)} {r:OcR} {m:List (List VN)} {R:Int×Xs} {k:Xs->Int×Xs} (hr:oc n.toNat v fu=r) (hm:r.c=0->m=r.l) (hl:out.length<=40) (hR:R=Y3 (Xp oc n v h (fu,out)) k):Now R (fun st=>Y3 (Xq h (m.drop 0) st) k) r.c r.fu out:=by
 rw[Xpf hr] at hR
 by_cases e:r.c=0
 ·rw[if_pos e] at hR
  refine ⟨fun _=>⟨?_,hl⟩,fun e2=>absurd e e2⟩
  rw[hR,hm e,List.drop_zero]
 ·rw[if_neg e] at hR
  refine ⟨fun e2=>absurd e2 e,fun _=> ?_⟩
  have b:Y3 (r.c,(r.fu,out)) k=(r.c,(r.fu,out)):=by unfold Y3;rw[if_neg e]
  rw[hR,b]
  exact ⟨rfl,rfl⟩
theorem Xyc {l:List (List VN)} {k:Nat} (h:k<l.length):l.drop k=Xn l k::l.drop (k+1):=by
 rw[List.drop_eq_getElem_cons h]
 congr 1
 unfold Xn
 rw[List.getD_eq_getElem?_getD,List.getElem?_eq_getElem h]
 rfl
theorem Xu3 (a:Int×Xs) (k k':Xs->Int×Xs):Y3 (Y3 a k) k'=Y3 a fun st=>Y3 (k st) k':=by
 unfold Y3
 by_cases e:a.1=0
 ·simp only[e,if_true]
 ·simp only[e,if_false]
theorem Now.next {R:Int×Xs} {h:X6} {m out:List (List VN)} {i fu:Nat} {c:Int} {k:Xs->Int×Xs} (hn:Now R (fun st=>Y3 (Xq h (m.drop i) st) k) c fu out) (hc:c=0) (hi:i<m.length):R=Y3 (h (Xn m i) (fu,out)) (fun st=>Y3 (Xq h (m.drop (i+1)) st) k)/\out.length<=40:=by
 obtain ⟨b,d⟩:=hn.1 hc
 refine ⟨?_,d⟩
 rw[<-b]
 show Y3 (Xq h (m.drop i) (fu,out)) k=_
 rw[Xyc hi,Xpe,Xu3]
theorem Now.over {R:Int×Xs} {h:X6} {m out:List (List VN)} {i fu:Nat} {c:Int} {k:Xs->Int×Xs} (hn:Now R (fun st=>Y3 (Xq h (m.drop i) st) k) c fu out) (hi:m.length<=i):Now R k c fu out:=by
 by_cases e:c=0
 ·obtain ⟨b,d⟩:=hn.1 e
  refine ⟨fun _=>⟨?_,d⟩,fun e2=>absurd e e2⟩
  rw[<-b,List.drop_eq_nil_of_le hi]
  rfl
 ·exact hn.dead e _ _
theorem X3l (fs:List FN) (d n k:Nat) (ns:List VN) {R:Int×Xs} (hR:evM (Xh fs d) (Xo fs n) ns Xl (k,[])=R):(Xh fs (d+1) n ns (k+1)).c=R.1/\(Xh fs (d+1) n ns (k+1)).fu=R.2.1/\(R.1=0->(Xh fs (d+1) n ns (k+1)).l=R.2.2):=by
 have e:Xh fs (d+1) n ns (k+1)=if R.1=0 then ⟨0,R.2.2,R.2.1⟩ else ⟨R.1,[],R.2.1⟩:=by
  rw[Xh,if_neg (by omega)]
  show (if (evM (Xh fs d) (Xo fs n) ns Xl (k+1-1,[])).1=0 then _ else _)=_
  rw[Nat.add_sub_cancel,hR]
 rw[e]
 by_cases e0:R.1=0
 ·rw[if_pos e0];exact ⟨e0.symm,rfl,fun _=>rfl⟩
 ·rw[if_neg e0];exact ⟨rfl,rfl,fun h=>absurd h e0⟩
theorem Xyd (h:X6):∀(l:List (List VN)) (st:Xs),Xq (Va h) l st=Xq h (l.filter Xu) st:=by
 intro l
 induction l with
 |nil=>intro st;rfl
 |cons x r ih=>
  intro st
  by_cases e:Xu x=true
  ·rw[List.filter_cons_of_pos e,Xq,Xq]
   have b:Va h x st=h x st:=by unfold Va;rw[if_pos e]
   rw[b,ih]
  ·rw[List.filter_cons_of_neg e,Xq]
   have b:Va h x st=(0,st):=by unfold Va;rw[if_neg e]
   rw[b,if_pos rfl,ih]
theorem Xu4 (v:List VN):∀(l:List (List VN)) (st:Xs),Xq (fun y st=>if Xu y=true then Xl v st else (0,st)) l st=Xq Xl ((l.filter Xu).map fun _=>v) st:=by
 intro l
 induction l with
 |nil=>intro st;rfl
 |cons x r ih=>
  intro st
  by_cases e:Xu x=true
  ·rw[List.filter_cons_of_pos e,List.map_cons,Xq,Xq]
   simp only[e,if_true]
   split
   ·exact ih _
   ·rfl
  ·rw[List.filter_cons_of_neg e,Xq]
   simp only[e]
   exact ih _
theorem Vg {l:List (List VN)} {k:Nat} (hk:k<l.length):(l.take (k+1)).filter Xu=(l.take k).filter Xu++(if Xu (Xn l k)=true then [Xn l k] else []):=by
 rw[List.take_succ_eq_append_getElem hk,List.filter_append]
 have e:Xn l k=l[k]:=by unfold Xn;rw[List.getD_eq_getElem?_getD,List.getElem?_eq_getElem hk];rfl
 rw[e]
 by_cases h:Xu l[k]=true
 ·rw[if_pos h,List.filter_cons_of_pos h];rfl
 ·rw[if_neg h,List.filter_cons_of_neg h];rfl
theorem Xix (l:List (List VN)):l.any Xu= !(decide ((l.filter Xu).length=0)):=by
 induction l with
 |nil=>rfl
 |cons x r ih=>
  by_cases e:Xu x=true
  ·rw[List.any_cons,e,List.filter_cons_of_pos e];simp
  ·rw[List.any_cons,List.filter_cons_of_neg e,ih]
   cases h:Xu x
   ·simp
   ·exact absurd h e


abbrev Yh:Xs->Int×Xs:=fun st=>(0,st)
theorem Now.many {R:Int×Xs} {k:Xs->Int×Xs} {c:Int} {fu:Nat} {out:List (List VN)} (h:Now R k c fu out):Zj c out.length=c:=by
 by_cases e:c=0
 ·exact Wq (h.1 e).2
 ·exact Xbd e
theorem Wp {R:Int×Xs} {c0:Int} {l m out:List (List VN)} {fu:Nat} (hl:out.length<=40) (hm:c0=0->m=l) (h:R=if c0=0 then Xq Xl l (fu,out) else (c0,(fu,out))):Now R Yh (Zj c0 (out.length+m.length)) fu (out++m):=
 Ui hl hm (by rw[Xan];exact h)
theorem Xov {R:Int×Xs} {c:Int} {fu:Nat} {out out':List (List VN)} {k:Xs->Int×Xs} (hc:c≠0) (h:R=(c,(fu,out))):Now R k c fu out':=⟨fun e=>absurd e hc,fun _=>by rw[h];exact ⟨rfl,rfl⟩⟩
theorem Kh {R:Int×Xs} {r:Int×List VN} {fu:Nat} (h:Yk r Xl (fu,[])=R):Now R Yh r.1 fu (Zd r):=by
 have b:=Xj9 (R:=R) (k:=Yh) (r:=r) (out:= []) (fu:=fu) (by simp) (by rw[Xan,h])
 have c:=V5 r
 rw[Wq (by simpa using by omega)] at b
 simpa using b
theorem Xbu {oc:OcM} {x:FN} {v:List VN} {h:X6} {st:Xs} (hk:x.kind=1\/x.kind=2\/x.kind=3\/x.kind=5\/x.kind=11\/x.kind=12\/x.kind=13):evM oc x v h st=Yk (Yp x v) h st:=by
 unfold evM
 rw[if_neg (by omega),if_neg (by omega),if_neg (by omega),if_neg (by omega),if_neg (by omega),if_neg (by omega),if_neg (by omega),if_neg (by omega),if_neg (by omega),if_neg (by omega),if_neg (by omega)]
theorem Xow {oc:OcM} {x:FN} {v:List VN} {h:X6} {st:Xs} (hk:x.kind=14):evM oc x v h st=(0,st):=by unfold evM;rw[if_pos hk]
theorem Xsk {oc:OcM} {x:FN} {v:List VN} {h:X6} {st:Xs} (hk:x.kind=4):evM oc x v h st=if (Xd v).kind=5\/(Xd v).kind=6 then Xq h (Yn v) st else (2,st):=by unfold evM;rw[if_neg (by omega),if_pos hk]
theorem Xsl {oc:OcM} {x:FN} {v:List VN} {h:X6} {st:Xs} (hk:x.kind=6):evM oc x v h st=Xp oc (Xk x 0) v (fun y=>Xp oc (Xk x 1) y h) st:=by unfold evM;rw[if_neg (by omega),if_neg (by omega),if_pos hk]
theorem Xox {oc:OcM} {x:FN} {v:List VN} {h:X6} {st:Xs} (hk:x.kind=7):evM oc x v h st=Gq oc x v h st:=by unfold evM;rw[if_neg (by omega),if_neg (by omega),if_neg (by omega),if_pos hk]
theorem Xga {oc:OcM} {x:FN} {v:List VN} {h:X6} {st:Xs} (hk:x.kind=8):evM oc x v h st=Kc oc x v h st:=by unfold evM;rw[if_neg (by omega),if_neg (by omega),if_neg (by omega),if_neg (by omega),if_pos hk]
theorem Xxc {oc:OcM} {x:FN} {v:List VN} {h:X6} {st:Xs} (hk:x.kind=9):evM oc x v h st=Z3 oc x.names v h x.kids [] st:=by unfold evM;rw[if_neg (by omega),if_neg (by omega),if_neg (by omega),if_neg (by omega),if_neg (by omega),if_pos hk]
theorem Xla {oc:OcM} {x:FN} {v:List VN} {h:X6} {st:Xs} (hk:x.kind=10):evM oc x v h st=Xp oc (Xk x 0) v (fun y st=>if Xu y=true then h v st else (0,st)) st:=by unfold evM;rw[if_neg (by omega),if_neg (by omega),if_neg (by omega),if_neg (by omega),if_neg (by omega),if_neg (by omega),if_pos hk]
theorem Xxd {oc:OcM} {x:FN} {v:List VN} {h:X6} {st:Xs} (h1:15<=x.kind) (h2:x.kind<=20):evM oc x v h st=Xp oc (Xk x 0) v (fun a=>Xp oc (Xk x 1) v (fun b=>Yk (Yy x.kind a b) h)) st:=by
 unfold evM
 rw[if_neg (by omega),if_neg (by omega),if_neg (by omega),if_neg (by omega),if_neg (by omega),if_neg (by omega),if_neg (by omega),if_pos ⟨h1,h2⟩]
theorem Xxe {oc:OcM} {x:FN} {v:List VN} {h:X6} {st:Xs} (hk:x.kind=21):evM oc x v h st=Gn oc (Xk x 1) v h (Zp (oc (Xk x 0).toNat v st.1)) st.2:=by
 unfold evM
 rw[if_neg (by omega),if_neg (by omega),if_neg (by omega),if_neg (by omega),if_neg (by omega),if_neg (by omega),if_neg (by omega),if_neg (by omega),if_pos hk]
theorem X2c {oc:OcM} {x:FN} {v:List VN} {h:X6} {st:Xs} (hk:x.kind=22):evM oc x v h st=Xp oc (Xk x 0) v (fun y=>if Xu y=true then Xp oc (Xk x 1) v h else Xp oc (Xk x 2) v h) st:=by
 unfold evM
 rw[if_neg (by omega),if_neg (by omega),if_neg (by omega),if_neg (by omega),if_neg (by omega),if_neg (by omega),if_neg (by omega),if_neg (by omega),if_neg (by omega),if_pos hk]
theorem Xxf {oc:OcM} {x:FN} {v:List VN} {h:X6} {st:Xs} (hk:x.kind=23):evM oc x v h st=Xar h (Zp (oc (Xk x 0).toNat v st.1)) st.2:=by
 unfold evM
 rw[if_neg (by omega),if_neg (by omega),if_neg (by omega),if_neg (by omega),if_neg (by omega),if_neg (by omega),if_neg (by omega),if_neg (by omega),if_neg (by omega),if_neg (by omega),if_pos hk]
theorem Xdv {oc:OcM} {n:Int} {v:List VN} {h:X6} {fu:Nat} {r:OcR} {m:List (List VN)} {R:Int×Xs} (hr:oc n.toNat v fu=r) (hm:r.c=0->m=r.l) (hR:Xp oc n v h (fu,[])=R):Now R (fun st=>Y3 (Xq h (m.drop 0) st) Yh) r.c r.fu []:=
 Xka hr hm (by simp) (by rw[Xan,hR])
theorem Xxg {oc:OcM} {x:FN} {v:List VN} {fu:Nat} {r:OcR} {m:List (List VN)} {R:Int×Xs} (hr:oc (Xk x 0).toNat v fu=r) (hm:r.c=0->m=r.l) (hf:r.c=0->r.l.length<=40) (hR:Gq oc x v Xl (fu,[])=R):Now R (Xp oc (Xk x 1) v Xl) r.c r.fu m:=by
 have d:R=Y3 (if r.c=0 then Xq Xl r.l (r.fu,[]) else (r.c,(r.fu,[]))) (Xp oc (Xk x 1) v Xl):=by
  rw[<-hR]
  unfold Gq
  rw[Uj hr]
  rfl
 have b:=Ui (m:=m) (by simp) hm d
 by_cases e:r.c=0
 ·rw[Wq (by rw[hm e];simpa using hf e)] at b
  simpa using b
 ·rw[Xbd e] at b
  exact b.dead e _ _
theorem Xxh {oc:OcM} {x:FN} {v:List VN} {c:Int} {fu:Nat} {out:List (List VN)} {r:OcR} {m:List (List VN)} {R:Int×Xs} (h:Now R (Xp oc (Xk x 1) v Xl) c fu out) (hc:c=0) (hr:oc (Xk x 1).toNat v fu=r) (hm:r.c=0->m=r.l):Now R Yh (Zj r.c (out++m).length) r.fu (out++m):=by
 obtain ⟨b,d⟩:=h.1 hc
 rw[List.length_append]
 exact Wp d hm (by rw[<-b,Uj hr])
theorem Xxi {oc:OcM} {x:FN} {v:List VN} {fu:Nat} {R:Int×Xs} (hx:x.kids.length=0) (hR:Kc oc x v Xl (fu,[])=R):Now R Yh (Yo (Zo [])).1 fu (Zd (Yo (Zo []))):=by
 refine Kh ?_
 rw[<-hR]
 unfold Kc
 rw[if_pos hx]
 unfold Yk Yo
 rw[if_pos Xau,if_pos rfl]
theorem Xxj {oc:OcM} {x:FN} {v:List VN} {fu:Nat} {R:Int×Xs} {r:OcR} (hx:x.kids.length≠0) (hr:oc (Xk x 0).toNat v fu=r) (hR:Kc oc x v Xl (fu,[])=R) (hc:r.c≠0):R=(r.c,(r.fu,[])):=by
 rw[<-hR]
 unfold Kc
 rw[if_neg hx]
 show (if (oc (Xk x 0).toNat v fu).c=0 then _ else _)=_
 rw[hr,if_neg hc]
theorem Xxk {oc:OcM} {x:FN} {v:List VN} {fu:Nat} {R:Int×Xs} {r:OcR} (hx:x.kids.length≠0) (hr:oc (Xk x 0).toNat v fu=r) (hR:Kc oc x v Xl (fu,[])=R) (hc:r.c=0):Now R Yh (Yo (Zo r.l)).1 r.fu (Zd (Yo (Zo r.l))):=by
 refine Kh ?_
 rw[<-hR]
 unfold Kc
 rw[if_neg hx]
 show _=(if (oc (Xk x 0).toNat v fu).c=0 then _ else _)
 rw[hr,if_pos hc]
theorem Xuh {oc:OcM} {n:Int} {v:List VN} {fu:Nat} {r:OcR} {m:List (List VN)} {R:Int×Xs} (hr:oc n.toNat v fu=r) (hm:r.c=0->m=r.l) (hR:Xp oc n v (fun y st=>if Xu y=true then Xl v st else (0,st)) (fu,[])=R):Now R Yh (Zj r.c ((m.filter Xu).map fun _=>v).length) r.fu ((m.filter Xu).map fun _=>v):=by
 have b:R=if r.c=0 then Xq Xl ((r.l.filter Xu).map fun _=>v) (r.fu,[]) else (r.c,(r.fu,[])):=by
  rw[<-hR,Xpf hr]
  by_cases e:r.c=0
  ·rw[if_pos e,if_pos e,Xu4]
  ·rw[if_neg e,if_neg e]
 have d:=Wp (m:=(m.filter Xu).map fun _=>v) (by simp) (fun e=>by rw[hm e]) b
 simpa using d
theorem X3a {v:List VN} {r:OcR} {m:List (List VN)} {R:Int×Xs} (hm:r.c=0->m=r.l) (hR:Xar Xl r []=R):Now R Yh (Zj r.c m.length) r.fu m:=by
 have b:R=if r.c=0 then Xq Xl r.l (r.fu,[]) else (r.c,(r.fu,[])):=by rw[<-hR];rfl
 have d:=Wp (m:=m) (by simp) hm b
 simpa using d
theorem X08 {oc:OcM} {n:Int} {v:List VN} {r:OcR} {m:List (List VN)} {R:Int×Xs} (hm:r.c=0->m=r.l) (hR:Gn oc n v Xl r []=R) (ht:(m.filter Xu).length≠0):Now R Yh (Zj r.c (m.filter Xu).length) r.fu (m.filter Xu):=by
 have b:R=if r.c=0 then Xq Xl (r.l.filter Xu) (r.fu,[]) else (r.c,(r.fu,[])):=by
  rw[<-hR]
  unfold Gn
  by_cases e:r.c=0
  ·rw[if_pos e,if_pos e,if_pos (by rw[Xix,<-hm e];simp[ht]),Xyd]
  ·rw[if_neg e,if_neg e]
 have d:=Wp (m:=m.filter Xu) (by simp) (fun e=>by rw[hm e]) b
 simpa using d
theorem Xxl {oc:OcM} {n:Int} {v:List VN} {r:OcR} {m:List (List VN)} {R:Int×Xs} (hm:r.c=0->m=r.l) (hR:Gn oc n v Xl r []=R) (ht:(m.filter Xu).length=0):Now R (Xp oc n v Xl) r.c r.fu []:=by
 rw[<-hR]
 unfold Gn
 by_cases e:r.c=0
 ·rw[if_pos e,if_neg (by rw[Xix,<-hm e];simp[ht])]
  exact ⟨fun _=>⟨rfl,by simp⟩,fun h=>absurd e h⟩
 ·rw[if_neg e]
  exact ⟨fun h=>absurd h e,fun _=>⟨rfl,rfl⟩⟩
theorem X09 {oc:OcM} {n:Int} {v:List VN} {c:Int} {fu:Nat} {r:OcR} {m:List (List VN)} {R:Int×Xs} (h:Now R (Xp oc n v Xl) c fu []) (hc:c=0) (hr:oc n.toNat v fu=r) (hm:r.c=0->m=r.l):Now R Yh (Zj r.c m.length) r.fu m:=by
 obtain ⟨b,_⟩:=h.1 hc
 have d:=Wp (R:=R) (m:=m) (out:= []) (by simp) hm (by rw[<-b,Uj hr])
 simpa using d
end Go.Proofs.YtdjddneidbddpaaGreatDoor
