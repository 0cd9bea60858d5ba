import Derived.Test.YtehihemfepbmfaaGreatDoorFSpc3
import Derived.Test.YtehihemfepbmfaaGreatDoorUneP
import Derived.Test.YtehihemfepbmfaaGreatDoorSJt
import Derived.BigQuiet
namespace Go.Proofs.YtehihemfepbmfaaGreatDoor
set_option linter.unusedSectionVars false
set_option maxHeartbeats 6400000
open Go.RowKit
set_option linter.unusedSimpArgs false
set_option linter.unusedVariables false
def Xp (k:Int):Int:=
 if k=6 then 1 else if k=7 then 2 else if k=21 then 3 else if k=17∨k=18∨k=19∨k=20 then 4 else if k=15∨k=16 then 5 else if k=23 then 6 else 7
def Yl (k:Int):List UInt8:=
 if k=6 then [32,124,32] else if k=7 then [44,32] else if k=21 then [32,47,47,32] else if k=17 then [32,61,61,32] else if k=18 then [32,33,61,32]
 else if k=19 then [32,60,32] else if k=20 then [32,60,61,32] else if k=15 then [32,43,32] else [32,45,32]
def Ji (k:Int):Int:=if k=6 then 2 else if k=7 then 2 else if k=21 then 4 else 5
def Qh (k:Int):Int:=if k=6 then 1 else if k=7 then 3 else if k=21 then 3 else if k=15∨k=16 then 6 else 5
def J1 (c:List VN):List UInt8:=Yn false 1 0 (Yp c 1 0)
def K6 (k:Nat):List UInt8:=if k=0 then [] else [44,32]
def Yf (R:Int→Int→List UInt8) (names:List ByteArray) (kids:List Int):Nat→List UInt8
 |0=> []
 |k+1=>Yf R names kids k++K6 k++(Xt names k).data.toList++ [58,32]++R (Xk kids k) 3
def Xg (R:Int→Int→List UInt8) (x:FN):List UInt8:=
 if x.kind=1 then [46]
 else if x.kind=2 then 46::x.name.data.toList
 else if x.kind=3 then [46,91]++Lib.itoa x.place++ [93]
 else if x.kind=4 then [46,91,93]
 else if x.kind=5 then J1 x.cst
 else if x.kind=8 then [91]++(if x.kids.length=0 then [] else R (Xk x.kids 0) 1)++ [93]
 else if x.kind=9 then [123]++Yf R x.names x.kids x.kids.length++ [125]
 else if x.kind=10 then [115,101,108,101,99,116,40]++R (Xk x.kids 0) 1++ [41]
 else if x.kind=11 then [108,101,110,103,116,104]
 else if x.kind=12 then [107,101,121,115]
 else if x.kind=13 then [110,111,116]
 else if x.kind=14 then [101,109,112,116,121]
 else if x.kind=22 then [105,102,32]++R (Xk x.kids 0) 1++ [32,116,104,101,110,32]++R (Xk x.kids 1) 1++ [32,101,108,115,101,32]++R (Xk x.kids 2) 1++ [32,101,110,100]
 else if x.kind=23 then R (Xk x.kids 0) 6++ [63]
 else R (Xk x.kids 0) (Ji x.kind)++Yl x.kind++R (Xk x.kids 1) (Qh x.kind)
def Xf (fs:List FN):Nat→Int→Int→List UInt8
 |0,_,_=> []
 |f+1,n,least=>if Xp (Xi fs n.toNat).kind<least then [40]++Xg (Xf fs f) (Xi fs n.toNat)++ [41] else Xg (Xf fs f) (Xi fs n.toNat)
def Yz (fs:List FN):List UInt8:=if okF fs=true then Xf fs fs.length ((fs.length:Int)-1) 1 else []
def Xb3 (T:Nat→Option (Nat×Nat)) (k:Int):Nat:=match T k.toNat with
 |some p=>k.toNat+1-p.1
 |none=>0
theorem Xs3 {T:Nat→Option (Nat×Nat)} (hT:∀m p,T m=some p→p.1≤m):∀(l:List Int) (b h:Nat) (q:Nat×Nat),l.foldl (Xv T) (some (b,h))=some q→q.1≤b∧(l.map (Xb3 T)).sum=b-q.1:=by
 intro l
 induction l with
 |nil=>intro b h q e;simp at e;rw[←e];simp
 | cons k l ih =>
  intro b h q e
  obtain ⟨p,h1,h2,h3,h4⟩:=Qz e
  have hp:=hT _ _ h3
  obtain ⟨g1,g2⟩:=ih _ _ _ h4
  have e1:Xb3 T k=b-p.1:=by
   have:k.toNat=b-1:=by omega
   unfold Xb3
   rw[this,h3]
   simp only
   omega
  rw[List.map_cons,List.sum_cons,g2,e1]
  omega
theorem Xyh {K:Nat→List Int} {n:Nat} {p:Nat×Nat} (h:tr K n=some p):p.1≤n∧((K n).map (Xb3 (tr K))).sum=n-p.1:=by
 rw[Un] at h
 cases hf:(K n).reverse.foldl (Xv (tr K)) (some (n,0)) with
 |none=>simp[hf] at h
 | some q =>
  rw[hf] at h
  simp at h
  have:=Xs3 (fun m p hp=>Gw hp) _ _ _ _ hf
  rw[List.map_reverse,List.sum_reverse] at this
  rw[←h]
  exact this
theorem Xwk (W:Int→Nat):∀(l:List Int) (k:Int),k∈l→W k≤(l.map W).sum:=by
 intro l
 induction l with
 |nil=>intro k h;cases h
 | cons a l ih =>
  intro k h
  rw[List.map_cons,List.sum_cons]
  rcases List.mem_cons.1 h with rfl|h
  ·omega
  ·have:=ih k h;omega
theorem Xge (W:Int→Nat) (l:List Int) (j:Nat) (hj:j<l.length):W (Xk l j)≤(l.map W).sum:=by
 rw[Qj hj]
 exact Xwk W l _ (List.getElem_mem hj)
theorem Xeg (k:Nat):(K6 k).length≤2:=by unfold K6;split<;>simp
theorem Xgy (R:Int→Int→List UInt8) (names:List ByteArray) (kids:List Int) {j k:Nat} (h:j≤k):(Yf R names kids j).length≤(Yf R names kids k).length:=by
 induction k with
 | zero => obtain rfl : j = 0 := by omega
           exact Nat.le_refl _
 | succ k ih =>
  by_cases e:j=k+1
  ·subst e;exact Nat.le_refl _
  ·have:=ih (by omega)
   rw[Yf];simp only[List.length_append];omega
theorem Xs4 {R:Int→Int→List UInt8} {names:List ByteArray} {kids:List Int} {W:Int→Nat} (hR:∀k∈kids,∀l,(R k l).length≤W k) (hn:∀j,j<kids.length→(Xt names j).size≤60):
  ∀k,k≤kids.length→(Yf R names kids k).length≤64 *k+((kids.take k).map W).sum:=by
 intro k
 induction k with
 |zero=>intro _;simp[Yf]
 | succ k ih =>
  intro hk
  have h1:=ih (by omega)
  have h2:=hn k (by omega)
  have h3:=hR (Xk kids k) (by rw[Qj (show k<kids.length by omega)];exact List.getElem_mem _) 3
  have h4:=Xeg k
  have h5:(Xt names k).data.toList.length=(Xt names k).size:=Xm _
  rw[Yf]
  simp only[List.length_append,List.length_cons,List.length_nil]
  rw[List.take_succ_eq_append_getElem (show k<kids.length by omega),List.map_append,List.sum_append]
  rw[Qj (show k<kids.length by omega)] at h3⊢
  simp only[List.map_cons,List.map_nil,List.sum_cons,List.sum_nil]
  omega
theorem Xeh {c:List VN} (h:Q9 c=true):1≤(J1 c).length∧(J1 c).length≤362:=by
 unfold Q9 at h
 simp only[Bool.and_eq_true,decide_eq_true_eq] at h
 obtain ⟨⟨⟨h1,h2⟩,h3⟩,h4⟩:=h
 refine ⟨Xgx h2 false 0 0 (i:=0) (by omega), ?_⟩
 unfold J1
 rw[Yp]
 have hl:=Zz false 0 0 (kind:=(Xc c 0).kind) (n:=(Xc c 0).n) (s:=(Xc c 0).s) (keys:=(Xc c 0).keys) (kids:=(Xc c 0).kids.map fun k=>Yp c 0 k.toNat)
 rcases Wx h2 (show 0<c.length by omega) with k|⟨k,_⟩|⟨k,q1,q2⟩|⟨k,q1⟩|k|⟨k,_⟩
 ·rw[hl.1 k];simp
 ·rw[hl.2.1 k];split<;>simp
 ·rw[hl.2.2.1 k];have:=Lib.itoa_length_le (Xc c 0).n (by omega) (by omega);omega
 ·rw[hl.2.2.2.1 k];have:=(Wc (Xc c 0).s).2;omega
 ·exact absurd k h3
 ·exact absurd k h4
theorem Ko (k:Int):(Yl k).length≤4:=by
 unfold Yl
 repeat (split;· simp)
 simp
theorem Xk0 {l:List ByteArray} (h:Z2 l=true):l.length≤5∧∀j,j<l.length→(Xt l j).size≤60:=by
 unfold Z2 Gt at h
 simp only[Bool.and_eq_true,decide_eq_true_eq,List.all_eq_true,List.mem_range] at h
 refine ⟨h.1,fun j hj=> ?_⟩
 have:=h.2 j hj
 unfold Q4 Ya at this
 simp only[Bool.and_eq_true,decide_eq_true_eq] at this
 exact this.1.1.1.2
theorem Yg {x:FN} (h:Xn x=true):(x.kind=8→x.kids.length≤1)∧(x.kind=9→x.kids.length=x.names.length∧x.names.length≤5∧∀j,j<x.names.length→(Xt x.names j).size≤60)∧(x.kind≠8→x.kind≠9→1≤x.kind∧x.kind≤23∧(x.kids.length:Int)=kidsN x.kind)∧
  (x.kind=2→Ya x.name=true)∧(x.kind=3→-80≤x.place∧x.place≤80)∧(x.kind=5→Q9 x.cst=true)∧(x.kind≠2→x.name.size=0)∧(x.kind≠9→x.names.length=0):=by
 unfold Xn at h
 simp only[Bool.and_eq_true] at h
 obtain ⟨⟨h0,h1⟩,h2⟩:=h
 refine ⟨fun k=> ?_,fun k=> ?_,fun k8 k9=> ?_,fun k=> ?_,fun k=> ?_,fun k=> ?_,fun k=> ?_,fun k=> ?_⟩
 ·unfold Jk at h2;rw[if_pos k] at h2;simpa using h2
 ·unfold Jk at h2;rw[if_neg (by omega),if_pos k] at h2
  unfold Ja at h1;rw[if_neg (by omega),if_neg (by omega),if_neg (by omega),if_pos k] at h1
  exact ⟨by simpa using h2,Xk0 h1⟩
 ·unfold Jk at h2;rw[if_neg k8,if_neg k9] at h2
  simp only[Bool.and_eq_true,decide_eq_true_eq] at h2
  exact ⟨h2.1.1,h2.1.2,h2.2⟩
 ·unfold Ja at h1;rw[if_pos k] at h1;exact h1
 ·unfold Ja at h1;rw[if_neg (by omega),if_pos k] at h1;simpa using h1
 ·unfold Ja at h1;rw[if_neg (by omega),if_neg (by omega),if_pos k] at h1;exact h1
 ·unfold Gf at h0
  simp only[Bool.and_eq_true,Bool.not_eq_true',Bool.and_eq_false_iff,decide_eq_false_iff_not] at h0
  have:=h0.1.1.1
  have hh:x.name.toList= []:=by
   rcases this with t|t
   ·exact absurd k t
   ·exact Classical.not_not.1 t
  exact G7.1 hh
 ·unfold Gf at h0
  simp only[Bool.and_eq_true,Bool.not_eq_true',Bool.and_eq_false_iff,decide_eq_false_iff_not] at h0
  have:=h0.2
  omega
theorem Xpy {R:Int→Int→List UInt8} {x:FN} (hx:Xn x=true) {W:Int→Nat} (hR:∀k∈x.kids,∀l,(R k l).length≤W k):(Xg R x).length≤500+(x.kids.map W).sum:=by
 obtain ⟨f8,f9,fo,f2,f3,f5,_,_⟩:=Yg hx
 have hk:∀j,j<x.kids.length→∀l,(R (Xk x.kids j) l).length≤W (Xk x.kids j):=fun j hj l=>hR _ (by rw[Qj hj];exact List.getElem_mem _) l
 have two:∀l m,2≤x.kids.length→(R (Xk x.kids 0) l).length+(R (Xk x.kids 1) m).length≤(x.kids.map W).sum:=by
  intro l m h2
  have a:=hk 0 (by omega) l
  have b:=hk 1 (by omega) m
  match hh:x.kids,h2 with
  | p :: q :: r, _ =>
   rw[hh] at a b
   simp only[List.map_cons,List.sum_cons]
   simp[Xk] at a b⊢
   omega
 unfold Xg
 by_cases g1:x.kind=1
 ·rw[if_pos g1]
  simp only[List.length_cons,List.length_nil];omega
 rw[if_neg g1]
 by_cases g2:x.kind=2
 ·rw[if_pos g2]
  have:=(show x.name.size≤60 by have:=f2 g2;unfold Ya at this;simp only[Bool.and_eq_true,decide_eq_true_eq] at this;exact this.1.1.2);have:=Xm x.name;simp only[List.length_cons];omega
 rw[if_neg g2]
 by_cases g3:x.kind=3
 ·rw[if_pos g3]
  have:=f3 g3;have:=Lib.itoa_length_le x.place (by omega) (by omega);simp only[List.length_append,List.length_cons,List.length_nil];omega
 rw[if_neg g3]
 by_cases g4:x.kind=4
 ·rw[if_pos g4]
  simp only[List.length_cons,List.length_nil];omega
 rw[if_neg g4]
 by_cases g5:x.kind=5
 ·rw[if_pos g5]
  have:=(Xeh (f5 g5)).2;omega
 rw[if_neg g5]
 by_cases g8:x.kind=8
 ·rw[if_pos g8]
  split
  ·simp only[List.length_append,List.length_cons,List.length_nil];omega
  ·have a:=hk 0 (by omega) 1
   have b:=Xge W x.kids 0 (by omega)
   simp only[List.length_append,List.length_cons,List.length_nil];omega
 rw[if_neg g8]
 by_cases g9:x.kind=9
 ·rw[if_pos g9]
  obtain ⟨e1,e2,e3⟩:=f9 g9
  have:=Xs4 hR (fun j hj=>e3 j (by omega)) x.kids.length (Nat.le_refl _)
  rw[List.take_length] at this
  simp only[List.length_append,List.length_cons,List.length_nil];omega
 rw[if_neg g9]
 by_cases g10:x.kind=10
 ·rw[if_pos g10]
  have e:=(fo (by omega) (by omega)).2.2
  rw[g10] at e;simp[kidsN] at e
  have a:=hk 0 (by omega) 1
  have b:=Xge W x.kids 0 (by omega)
  simp only[List.length_append,List.length_cons,List.length_nil];omega
 rw[if_neg g10]
 by_cases g11:x.kind=11
 ·rw[if_pos g11]
  simp only[List.length_cons,List.length_nil];omega
 rw[if_neg g11]
 by_cases g12:x.kind=12
 ·rw[if_pos g12]
  simp only[List.length_cons,List.length_nil];omega
 rw[if_neg g12]
 by_cases g13:x.kind=13
 ·rw[if_pos g13]
  simp only[List.length_cons,List.length_nil];omega
 rw[if_neg g13]
 by_cases g14:x.kind=14
 ·rw[if_pos g14]
  simp only[List.length_cons,List.length_nil];omega
 rw[if_neg g14]
 by_cases g22:x.kind=22
 ·rw[if_pos g22]
  have e:=(fo (by omega) (by omega)).2.2
  rw[g22] at e;simp[kidsN] at e
  have e3:x.kids.length=3:=by omega
  have a:=hk 0 (by omega) 1
  have b:=hk 1 (by omega) 1
  have c:=hk 2 (by omega) 1
  match hh:x.kids,e3 with
  | [p,q,r],_=>
   rw[hh] at a b c
   simp only[List.map_cons,List.sum_cons,List.length_append,List.length_cons,List.length_nil,List.map_nil,List.sum_nil]
   simp[Xk] at a b c⊢
   omega
 rw[if_neg g22]
 by_cases g23:x.kind=23
 ·rw[if_pos g23]
  have e:=(fo (by omega) (by omega)).2.2
  rw[g23] at e;simp[kidsN] at e
  have a:=hk 0 (by omega) 6
  have b:=Xge W x.kids 0 (by omega)
  simp only[List.length_append,List.length_cons,List.length_nil];omega
 rw[if_neg g23]
 obtain ⟨k1,k2,k3⟩:=fo g8 g9
 have e:x.kids.length=2:=by
  unfold kidsN at k3
  rw[if_pos (by omega)] at k3
  omega
 have a:=two (Ji x.kind) (Qh x.kind) (by omega)
 have b:=Ko x.kind
 simp only[List.length_append];omega
theorem Kh {fs:List FN} (h:okF fs=true):(1≤fs.length∧fs.length≤40)∧(∀i,i<fs.length→Xn (Xi fs i)=true∧Jl fs i=true)∧(∀i,i<fs.length→∃p,tr (Yx fs) i=some p):=by
 have ht:=h
 rw[←Xjn] at ht
 unfold okF V1 at h
 unfold Xes Jz at ht
 simp only[Bool.and_eq_true,List.all_eq_true,List.mem_range,decide_eq_true_eq] at h ht
 exact ⟨h.1.1,fun i hi=>h.1.2 i hi,fun i hi=>Option.isSome_iff_exists.1 (ht.2.1 i hi)⟩
theorem Xc5 {fs:List FN} {k j:Nat} (h:Jl fs k=true) (hj:j<(Xi fs k).kids.length):0≤Xk (Xi fs k).kids j∧Xk (Xi fs k).kids j<(k:Int):=by
 unfold Jl Yx at h
 simp only[List.all_eq_true,Bool.and_eq_true,decide_eq_true_eq] at h
 rw[Qj hj]
 have:=h _ (List.getElem_mem hj)
 omega
theorem Xs5 {fs:List FN} (hok:okF fs=true):∀(f n:Nat) (least:Int) (p:Nat×Nat),n<fs.length→n<f→tr (Yx fs) n=some p→(Xf fs f n least).length≤600 *(n+1-p.1):=by
 obtain ⟨_,h2,h3⟩:=Kh hok
 intro f
 induction f with
 |zero=>intro n l p _ h;omega
 | succ f ih =>
  intro n least p hn hf hp
  obtain ⟨w1,w2⟩:=Xyh hp
  obtain ⟨hx,hki⟩:=h2 n hn
  have hb:=Xpy (R:=Xf fs f) hx (W:=fun k=>600 *Xb3 (tr (Yx fs)) k) (fun k hk l=>by
   obtain ⟨j,hj,rfl⟩:=List.getElem_of_mem hk
   have hj':j<(Xi fs n).kids.length:=hj
   have hg:=Xc5 hki hj'
   rw[Qj hj'] at hg
   obtain ⟨q,hq⟩:∃q:Nat,(Xi fs n).kids[j]=(q:Int):=⟨((Xi fs n).kids[j]).toNat,by omega⟩
   rw[hq] at hg⊢
   obtain ⟨r,hr⟩:=h3 q (by omega)
   have:=ih q l r (by omega) (by omega) hr
   have e:Xb3 (tr (Yx fs)) (q:Int)=q+1-r.1:=by unfold Xb3;rw[Int.toNat_natCast,hr]
   simp only[e]
   exact this)
  have e:((Xi fs n).kids.map fun k=>600 *Xb3 (tr (Yx fs)) k).sum=600 *(n-p.1):=by
   rw[←w2]
   show _=600 *((Xi fs n).kids.map (Xb3 (tr (Yx fs)))).sum
   generalize (Xi fs n).kids=l
   induction l with
   |nil=>rfl
   |cons a l ihl=>simp only[List.map_cons,List.sum_cons,ihl];omega
  rw[e] at hb
  rw[Xf,Int.toNat_natCast]
  split
  ·simp only[List.length_append,List.length_cons,List.length_nil];omega
  ·omega
theorem Xdu {fs:List FN} (hok:okF fs=true) (f n:Nat) (least:Int) (hn:n<fs.length) (hf:n<f):(Xf fs f n least).length≤24600:=by
 obtain ⟨h1,_,h3⟩:=Kh hok
 obtain ⟨p,hp⟩:=h3 n hn
 have:=Xs5 hok f n least p hn hf hp
 have:n+1-p.1≤41:=by omega
 omega

def Xb4 (c:Nat):Bool:=decide (c=32∨c=10)
abbrev skF (L:List UInt8) (p:Nat):Nat:=Ky Xb4 L p
def nmC (c:Nat):Bool:=Yt c||Zk c
abbrev nmJ (L:List UInt8) (p:Nat):Nat:=Ky nmC L p
def Yu (L:List UInt8) (p:Nat):Bool:=decide (p<L.length)&&Yt (Xh L p)
def K7 (L:List UInt8) (p:Nat):Bool:=decide (p<L.length)&&Zk (Xh L p)
def X9 (L:List UInt8) (p:Nat):List UInt8:=(L.drop p).take (nmJ L p-p)
abbrev RF:=Option (Int×List FN×Nat)
def Xy (a:RF) (k:Int→List FN→Nat→RF):RF:=match a with
 |none=>none
 |some (n,fs,q)=>k n fs q
theorem X2 {n:Int} {fs:List FN} {q:Nat} {k:Int→List FN→Nat→RF}:Xy (some (n,fs,q)) k=k n fs q:=rfl
theorem Jm {k:Int→List FN→Nat→RF}:Xy none k=none:=rfl
structure WP where
 dec:List UInt8→Option Int
 nam:List UInt8→Nat→Nat
 tex:List UInt8→Nat→Option (List UInt8×Nat)
 cap:Bool
def Xu (W:WP) (x:FN) (fs:List FN) (q:Nat):RF:=if W.cap=true∧40<fs.length+1 then none else some ((fs.length:Int),fs++ [x],q)
def Yj (L:List UInt8) (q c:Nat) (k:Nat→RF):RF:=if Xe L q c=true then k (skF L (q+1)) else none
def Jn (L:List UInt8) (w:List UInt8) (q:Nat) (k:Nat→RF):RF:=if X9 L q=w then k (skF L (nmJ L q)) else none
def Qx (W:WP) (L:List UInt8) (q:Nat) (k:Int→Nat→RF):RF:=match W.dec (Jb L q) with
 |none=>none
 |some n=>k n (skF L (dgJ L (Yc L q)))
def Qw (k:Int):FN:=⟨k,ByteArray.empty,0,[],[],[]⟩
def Yw (k:Int) (kids:List Int):FN:=⟨k,ByteArray.empty,0,[],[],kids⟩
def Zt (v:VN):FN:=⟨5,ByteArray.empty,0,[v],[],[]⟩
def Vv (names:List ByteArray) (kids:List Int):FN:=⟨9,ByteArray.empty,0,[],names,kids⟩
def Qo (W:WP) (L:List UInt8) (fs:List FN) (p:Nat):RF:=
 if Xe L p 93=true then Xu W (Qw 4) fs (skF L (p+1))
 else Qx W L p fun n q=>Yj L q 93 fun q=>Xu W ⟨3,ByteArray.empty,n,[],[],[]⟩ fs q
def Ym (W:WP) (L:List UInt8) (fs:List FN) (p:Nat):RF:=
 if Yu L p=true then Xu W ⟨2,txt (X9 L p),0,[],[],[]⟩ fs (skF L (nmJ L p))
 else if Xe L p 91=true then Qo W L fs (skF L (p+1))
 else Xu W (Qw 1) fs (skF L p)
abbrev RD:=Int→List FN→Nat→RF
def Zl (R:RD) (L:List UInt8) (c:Nat) (fs:List FN) (p:Nat):RF:=Xy (R 1 fs p) fun n fs q=>Yj L q c fun q=>some (n,fs,q)
def Jo (W:WP) (R:RD) (L:List UInt8) (fs:List FN) (p:Nat):RF:=
 if Xe L p 93=true then Xu W (Qw 8) fs (skF L (p+1))
 else Xy (R 1 fs p) fun n fs q=>Yj L q 93 fun q=>Xu W (Yw 8 [n]) fs q
def Zm (W:WP) (R:RD) (L:List UInt8):Nat→List ByteArray→List Int→List FN→Nat→RF
 |0,_,_,_,_=>none
 | g + 1, names, kids, fs, p =>
  Yj L (skF L (W.nam L p)) 58 fun q=>Xy (R 3 fs q) fun n fs q=>
   if Xe L q 125=true then Xu W (Vv (names++ [txt ((L.drop p).take (W.nam L p-p))]) (kids++ [n])) fs (skF L (q+1))
   else Yj L q 44 fun q=>Zm W R L g (names++ [txt ((L.drop p).take (W.nam L p-p))]) (kids++ [n]) fs q
def Jf (W:WP) (R:RD) (L:List UInt8) (fs:List FN) (p:Nat):RF:=
 if Xe L p 125=true then Xu W (Qw 9) fs (skF L (p+1)) else Zm W R L (L.length+1) [] [] fs p
def Vy (W:WP) (R:RD) (L:List UInt8) (fs:List FN) (p:Nat):RF:=
 Yj L p 40 fun q=>Xy (Zl R L 41 fs q) fun n fs q=>Xu W (Yw 10 [n]) fs q
def ifF (W:WP) (R:RD) (L:List UInt8) (fs:List FN) (p:Nat):RF:=
 Xy (R 1 fs p) fun a fs q=>Jn L [116,104,101,110] q fun q=>
 Xy (R 1 fs q) fun b fs q=>Jn L [101,108,115,101] q fun q=>
 Xy (R 1 fs q) fun c fs q=>Jn L [101,110,100] q fun q=>Xu W (Yw 22 [a,b,c]) fs q
def X4 (W:WP) (R:RD) (L:List UInt8) (w:List UInt8) (fs:List FN) (p:Nat):RF:=
 if w=Xic then Xu W (Zt ⟨1,0,ByteArray.empty,[],[]⟩) fs p
 else if w=Xid then Xu W (Zt ⟨2,1,ByteArray.empty,[],[]⟩) fs p
 else if w=Xfl then Xu W (Zt ⟨2,0,ByteArray.empty,[],[]⟩) fs p
 else if w= [115,101,108,101,99,116] then Vy W R L fs p
 else if w= [105,102] then ifF W R L fs p
 else if w= [108,101,110,103,116,104] then Xu W (Qw 11) fs p
 else if w= [107,101,121,115] then Xu W (Qw 12) fs p
 else if w= [110,111,116] then Xu W (Qw 13) fs p
 else if w= [101,109,112,116,121] then Xu W (Qw 14) fs p
 else none
def Xs (W:WP) (R:RD) (L:List UInt8) (fs:List FN) (p:Nat):RF:=
 if Xe L p 46=true then Ym W L fs (p+1)
 else if Xe L p 40=true then Zl R L 41 fs (skF L (p+1))
 else if Xe L p 91=true then Jo W R L fs (skF L (p+1))
 else if Xe L p 123=true then Jf W R L fs (skF L (p+1))
 else if Xe L p 34=true then (match W.tex L (p+1) with
  |none=>none
  |some (t,q)=>Xu W (Zt ⟨4,0,txt t,[],[]⟩) fs (skF L q))
 else if Yu L p=true then X4 W R L (X9 L p) fs (skF L (nmJ L p))
 else if Xe L p 45=true∨K7 L p=true then Qx W L p fun n q=>Xu W (Zt ⟨3,n,ByteArray.empty,[],[]⟩) fs q
 else none
def X0 (L:List UInt8) (p:Nat):Option (Int×Nat):=
 if Xe L p 124=true then some (6,1)
 else if Xe L p 44=true then some (7,1)
 else if Xe L p 47=true∧Xe L (p+1) 47=true then some (21,2)
 else if Xe L p 61=true∧Xe L (p+1) 61=true then some (17,2)
 else if Xe L p 33=true∧Xe L (p+1) 61=true then some (18,2)
 else if Xe L p 60=true∧Xe L (p+1) 61=true then some (20,2)
 else if Xe L p 60=true then some (19,1)
 else if Xe L p 43=true then some (15,1)
 else if Xe L p 45=true then some (16,1)
 else if Xe L p 63=true then some (23,1)
 else none
def Xei (k:Int):Int:=if k=23 then 6 else Ji k
def Jr (R:RD) (L:List UInt8) (W:WP) (k:Int) (len:Nat) (n:Int) (fs:List FN) (p:Nat):RF:=
 if k=23 then Xu W (Yw 23 [n]) fs (skF L (p+len))
 else Xy (R (Qh k) fs (skF L (p+len))) fun b fs q=>Xu W (Yw k [n,b]) fs q
def Zx (R:RD) (L:List UInt8) (W:WP):Nat→Int→Int→Int→List FN→Nat→RF
 |0,_,_,_,_,_=>none
 | g + 1, least, bind, n, fs, p => match X0 L p with
  |none=>some (n,fs,p)
  | some (k, len) => if Xp k < least then some (n, fs, p) else if bind < Xei k then none
   else Xy (Jr R L W k len n fs p) fun n fs q=>Zx R L W g least (Xp k) n fs q
def Ys (W:WP) (L:List UInt8):Nat→RD
 |0,_,_,_=>none
 |f+1,least,fs,p=>Xy (Xs W (Ys W L f) L fs p) fun n fs q=>Zx (Ys W L f) L W (L.length+1) least 7 n fs q
def J2 (S:RD) (L:List UInt8) (W:WP) (l:Nat):Nat→Int→List FN→Nat→RF
 |0,_,_,_=>none
 | g + 1, n, fs, p => match X0 L p with
  |none=>some (n,fs,p)
  | some (k, len) => if Xp k = (l : Int) then Xy (Jr S L W k len n fs p) fun n fs q => if l = 6 ∨ l = 5 ∨ l = 2 then J2 S L W l g n fs q else some (n, fs, q)
   else some (n,fs,p)
def lvS (S:RD) (L:List UInt8) (W:WP):Nat→List FN→Nat→RF
 |0,fs,p=>Xy (Xs W S L fs p) (J2 S L W 6 (L.length+1))
 |d+1,fs,p=>Xy (lvS S L W d fs p) (J2 S L W (5-d) (L.length+1))
def Up (W:WP) (L:List UInt8):Nat→RD
 |0,_,_,_=>none
 |f+1,least,fs,p=>lvS (Up W L f) L W (6-least.toNat) fs p
def Xc6 (R:RD) (L:List UInt8):Option (List FN):=match R 1 [] (skF L 0) with
 |none=>none
 |some (_,fs,q)=>if q=L.length∧okF fs=true then some fs else none

structure Went (L:List UInt8) (fs:List FN) (p:Nat) (n:Int) (fs':List FN) (q:Nat):Prop where
 lt:p<q
 le:q≤L.length
 nb:skF L q=q
 pre:∃more,fs'=fs++more
 cnt:fs'.length+p≤fs.length+q
 n0:0≤n
 n1:n<(fs'.length:Int)
def Jw (L:List UInt8) (R:RD):Prop:=∀least fs p n fs' q,p≤L.length→R least fs p=some (n,fs',q)→Went L fs p n fs' q
structure WGood (W:WP) (L:List UInt8):Prop where
 nam:∀p,p≤L.length→p≤W.nam L p∧W.nam L p≤L.length
 tex:∀p t q,p≤L.length→W.tex L p=some (t,q)→p≤q∧q≤L.length
theorem X5 {a:RF} {k:Int→List FN→Nat→RF} {n:Int} {fs:List FN} {q:Nat} (h:Xy a k=some (n,fs,q)):∃n1 fs1 q1,a=some (n1,fs1,q1)∧k n1 fs1 q1=some (n,fs,q):=by
 cases a with
 |none=>cases h
 |some r=>obtain ⟨n1,fs1,q1⟩:=r;exact ⟨n1,fs1,q1,rfl,h⟩
theorem Zi {L:List UInt8} {p c:Nat} {k:Nat→RF} {n:Int} {fs:List FN} {q:Nat} (h:Yj L p c k=some (n,fs,q)):Xe L p c=true∧k (skF L (p+1))=some (n,fs,q):=by
 unfold Yj at h
 split at h
 ·rename_i e;exact ⟨e,h⟩
 ·cases h
theorem V4 {L:List UInt8} {w:List UInt8} {p:Nat} {k:Nat→RF} {n:Int} {fs:List FN} {q:Nat} (h:Jn L w p k=some (n,fs,q)):X9 L p=w∧k (skF L (nmJ L p))=some (n,fs,q):=by
 unfold Jn at h
 split at h
 ·rename_i e;exact ⟨e,h⟩
 ·cases h
theorem Xay {W:WP} {L:List UInt8} {p:Nat} {k:Int→Nat→RF} {n:Int} {fs:List FN} {q:Nat} (h:Qx W L p k=some (n,fs,q)):∃v,W.dec (Jb L p)=some v∧k v (skF L (dgJ L (Yc L p)))=some (n,fs,q):=by
 unfold Qx at h
 split at h
 ·cases h
 ·rename_i v e;exact ⟨v,e,h⟩
theorem V5 {W:WP} {x:FN} {fs:List FN} {p:Nat} {n:Int} {fs':List FN} {q:Nat} (h:Xu W x fs p=some (n,fs',q)):n=(fs.length:Int)∧fs'=fs++ [x]∧q=p:=by
 unfold Xu at h
 split at h
 ·cases h
 ·simp only[Option.some.injEq,Prod.mk.injEq] at h
  exact ⟨h.1.symm,h.2.1.symm,h.2.2.symm⟩
theorem Xw (L:List UInt8) (p:Nat):p≤skF L p:=Zh _ _ _
theorem X1 {L:List UInt8} {p:Nat} (h:p≤L.length):skF L p≤L.length:=U7 h
theorem Gz {L:List UInt8} {p:Nat} (h:p≤L.length):nmJ L p≤L.length:=U7 h
theorem Yh (L:List UInt8) (p:Nat):skF L (skF L p)=skF L p:=Xqk _ _ _
theorem Z0 {W:WP} {L:List UInt8} {x:FN} {fs fs1:List FN} {p q:Nat} {n:Int} {fs':List FN} {q':Nat} (h:Xu W x fs1 (skF L q)=some (n,fs',q')) (hp:∃more,fs1=fs++more) (hc:fs1.length+1+p≤fs.length+q) (hl:p<q) (hq:q≤L.length):Went L fs p n fs' q':=by
 obtain ⟨rfl,rfl,rfl⟩:=V5 h
 obtain ⟨more,rfl⟩:=hp
 have h1:=Xw L q
 have h2:=X1 hq
 rw[List.length_append] at hc
 refine ⟨by omega,h2,Yh L q,⟨more++ [x],by simp⟩, ?_,by omega, ?_⟩
 ·simp only[List.length_append,List.length_singleton];omega
 ·simp only[List.length_append,List.length_singleton];omega
theorem Xn8 {W:WP} {L:List UInt8} {fs:List FN} {p0 p:Nat} {n:Int} {fs':List FN} {q:Nat} (hp0:p0<p) (hp:p≤L.length) (h:Qo W L fs p=some (n,fs',q)):Went L fs p0 n fs' q:=by
 unfold Qo at h
 split at h
 ·rename_i e
  have:=(Xl.1 e).1
  exact Z0 h ⟨[],by simp⟩ (by omega) (by omega) (by omega)
 ·obtain ⟨v,-,h⟩:=Xay h
  obtain ⟨e,h⟩:=Zi h
  have h1:=(Xl.1 e).1
  have h2:=Xw L (dgJ L (Yc L p))
  have h3:Yc L p≤dgJ L (Yc L p):=Zh _ _ _
  have h4:=Wb L p
  exact Z0 h ⟨[],by simp⟩ (by omega) (by omega) (by omega)
theorem Xdf {L:List UInt8} {p:Nat} (h:Yu L p=true):p<nmJ L p∧p<L.length:=by
 unfold Yu at h
 simp only[Bool.and_eq_true,decide_eq_true_eq] at h
 have h1:nmC (Xh L p)=true:=by unfold nmC;rw[h.2];rfl
 have h2:nmJ L p=nmJ L (p+1):=Kb h.1 h1
 have h3:p+1≤nmJ L (p+1):=Zh _ _ _
 exact ⟨by omega,h.1⟩
theorem Xn9 {W:WP} {L:List UInt8} {fs:List FN} {p:Nat} {n:Int} {fs':List FN} {q:Nat} (hp:p<L.length) (h:Ym W L fs (p+1)=some (n,fs',q)):Went L fs p n fs' q:=by
 unfold Ym at h
 split at h
 ·rename_i e
  have h1:=Xdf e
  exact Z0 h ⟨[],by simp⟩ (by omega) (by omega) (U7 (by omega))
 ·split at h
  ·rename_i e
   have h1:=(Xl.1 e).1
   have h2:=Xw L (p+1+1)
   exact Xn8 (by omega) (X1 (by omega)) h
  ·exact Z0 h ⟨[],by simp⟩ (by omega) (by omega) (by omega)
theorem Xbn {R:RD} {L:List UInt8} (HR:Jw L R) {c:Nat} {fs:List FN} {p0 p:Nat} {n:Int} {fs':List FN} {q:Nat} (hp0:p0<p) (hp:p≤L.length) (h:Zl R L c fs p=some (n,fs',q)):Went L fs p0 n fs' q∧fs'.length+1+p0≤fs.length+q:=by
 unfold Zl at h
 obtain ⟨n1,fs1,q1,h1,h2⟩:=X5 h
 have w1:=HR _ _ _ _ _ _ hp h1
 obtain ⟨e,h3⟩:=Zi h2
 simp only[Option.some.injEq,Prod.mk.injEq] at h3
 obtain ⟨rfl,rfl,rfl⟩:=h3
 have e1:=(Xl.1 e).1
 have e2:=Xw L (q1+1)
 have:=w1.lt
 have:=w1.cnt
 exact ⟨⟨by omega,X1 (by omega),Yh _ _,w1.pre,by omega,w1.n0,w1.n1⟩,by omega⟩
theorem V6 {a b c:List FN} (h1:∃m,b=a++m) (h2:∃m,c=b++m):∃m,c=a++m:=by
 obtain ⟨m1,rfl⟩:=h1;obtain ⟨m2,rfl⟩:=h2;exact ⟨m1++m2,by simp⟩
theorem Xrs {W:WP} {R:RD} {L:List UInt8} (HR:Jw L R) {fs:List FN} {p0 p:Nat} {n:Int} {fs':List FN} {q:Nat} (hp0:p0<p) (hp:p≤L.length) (h:Jo W R L fs p=some (n,fs',q)):Went L fs p0 n fs' q:=by
 unfold Jo at h
 split at h
 ·rename_i e
  have:=(Xl.1 e).1
  exact Z0 h ⟨[],by simp⟩ (by omega) (by omega) (by omega)
 ·obtain ⟨n1,fs1,q1,h1,h2⟩:=X5 h
  have w1:=HR _ _ _ _ _ _ hp h1
  obtain ⟨e,h3⟩:=Zi h2
  have e1:=(Xl.1 e).1
  have:=w1.lt
  have:=w1.cnt
  exact Z0 h3 w1.pre (by omega) (by omega) (by omega)
theorem Xrt {W:WP} {R:RD} {L:List UInt8} (HR:Jw L R) (HW:WGood W L):∀g names kids fs p p0 n fs' q,p0<p→p≤L.length→Zm W R L g names kids fs p=some (n,fs',q)→Went L fs p0 n fs' q:=by
 intro g
 induction g with
 |zero=>intro names kids fs p p0 n fs' q _ _ h;cases h
 | succ g ih =>
  intro names kids fs p p0 n fs' q hp0 hp h
  rw[Zm] at h
  obtain ⟨e,h⟩:=Zi h
  obtain ⟨n1,fs1,q1,h1,h2⟩:=X5 h
  have e1:=(Xl.1 e).1
  have e2:=Xw L (W.nam L p)
  have e3:=(HW.nam p hp).1
  have e4:=Xw L (skF L (W.nam L p)+1)
  have w1:=HR _ _ _ _ _ _ (X1 (by omega)) h1
  have:=w1.lt
  have:=w1.cnt
  have:=w1.le
  split at h2
  ·rename_i e5
   have e6:=(Xl.1 e5).1
   exact Z0 h2 w1.pre (by omega) (by omega) (by omega)
  ·obtain ⟨e5,h3⟩:=Zi h2
   have e6:=(Xl.1 e5).1
   have e7:=Xw L (q1+1)
   have w2:=ih _ _ _ _ q1 _ _ _ (by omega) (X1 (by omega)) h3
   have:=w2.lt
   have:=w2.cnt
   exact ⟨by omega,w2.le,w2.nb,V6 w1.pre w2.pre,by omega,w2.n0,w2.n1⟩
theorem Xul {W:WP} {R:RD} {L:List UInt8} (HR:Jw L R) (HW:WGood W L) {fs:List FN} {p0 p:Nat} {n:Int} {fs':List FN} {q:Nat} (hp0:p0<p) (hp:p≤L.length) (h:Jf W R L fs p=some (n,fs',q)):Went L fs p0 n fs' q:=by
 unfold Jf at h
 split at h
 ·rename_i e
  have:=(Xl.1 e).1
  exact Z0 h ⟨[],by simp⟩ (by omega) (by omega) (by omega)
 ·exact Xrt HR HW _ _ _ _ _ _ _ _ _ hp0 hp h
theorem Xum {W:WP} {R:RD} {L:List UInt8} (HR:Jw L R) {fs:List FN} {p0 p:Nat} {n:Int} {fs':List FN} {q:Nat} (hp0:p0<p) (hp:p≤L.length) (h:Vy W R L fs p=some (n,fs',q)):Went L fs p0 n fs' q:=by
 unfold Vy at h
 obtain ⟨e,h⟩:=Zi h
 have e1:=(Xl.1 e).1
 have e2:=Xw L (p+1)
 obtain ⟨n1,fs1,q1,h1,h2⟩:=X5 h
 obtain ⟨w1,w2⟩:=Xbn HR (p0:=p0) (by omega) (X1 (by omega)) h1
 obtain ⟨rfl,rfl,rfl⟩:=V5 h2
 have:=w1.lt
 refine ⟨by omega,w1.le,w1.nb,V6 w1.pre ⟨_,rfl⟩, ?_,by omega, ?_⟩
 ·simp only[List.length_append,List.length_singleton];omega
 ·simp only[List.length_append,List.length_singleton];omega
theorem Xxn {W:WP} {R:RD} {L:List UInt8} (HR:Jw L R) {fs:List FN} {p0 p:Nat} {n:Int} {fs':List FN} {q:Nat} (hp0:p0<p) (hp:p≤L.length) (h:ifF W R L fs p=some (n,fs',q)):Went L fs p0 n fs' q:=by
 unfold ifF at h
 obtain ⟨n1,fs1,q1,h1,h⟩:=X5 h
 have w1:=HR _ _ _ _ _ _ hp h1
 obtain ⟨-,h⟩:=V4 h
 have a1:q1≤nmJ L q1:=Zh _ _ _
 have a2:=Xw L (nmJ L q1)
 obtain ⟨n2,fs2,q2,h2,h⟩:=X5 h
 have w2:=HR _ _ _ _ _ _ (X1 (Gz w1.le)) h2
 obtain ⟨-,h⟩:=V4 h
 have b1:q2≤nmJ L q2:=Zh _ _ _
 have b2:=Xw L (nmJ L q2)
 obtain ⟨n3,fs3,q3,h3,h⟩:=X5 h
 have w3:=HR _ _ _ _ _ _ (X1 (Gz w2.le)) h3
 obtain ⟨-,h⟩:=V4 h
 have c1:q3≤nmJ L q3:=Zh _ _ _
 have:=w1.lt;have:=w1.cnt
 have:=w2.lt;have:=w2.cnt
 have:=w3.lt;have:=w3.cnt
 exact Z0 h (V6 w1.pre (V6 w2.pre w3.pre)) (by omega) (by omega) (Gz w3.le)
theorem Xoa {W:WP} {R:RD} {L:List UInt8} (HR:Jw L R) {w:List UInt8} {fs:List FN} {p0 p:Nat} {n:Int} {fs':List FN} {q:Nat} (hp0:p0<p) (hp:p≤L.length) (h:X4 W R L w fs (skF L p)=some (n,fs',q)):Went L fs p0 n fs' q:=by
 have hs:=Xw L p
 unfold X4 at h
 split at h
 ·exact Z0 h ⟨[],by simp⟩ (by omega) hp0 hp
 split at h
 ·exact Z0 h ⟨[],by simp⟩ (by omega) hp0 hp
 split at h
 ·exact Z0 h ⟨[],by simp⟩ (by omega) hp0 hp
 split at h
 ·exact Xum HR (by omega) (X1 hp) h
 split at h
 ·exact Xxn HR (by omega) (X1 hp) h
 split at h
 ·exact Z0 h ⟨[],by simp⟩ (by omega) hp0 hp
 split at h
 ·exact Z0 h ⟨[],by simp⟩ (by omega) hp0 hp
 split at h
 ·exact Z0 h ⟨[],by simp⟩ (by omega) hp0 hp
 split at h
 ·exact Z0 h ⟨[],by simp⟩ (by omega) hp0 hp
 ·cases h
theorem Xz0 {L:List UInt8} {p:Nat} (h:Xe L p 45=true∨K7 L p=true):p<dgJ L (Yc L p)∧p<L.length:=by
 rcases h with h|h
 ·have h1:=(Xl.1 h).1
  have h2:Yc L p=p+1:=by unfold Yc;rw[if_pos h]
  rw[h2]
  have:p+1≤dgJ L (p+1):=Zh _ _ _
  exact ⟨by omega,h1⟩
 ·unfold K7 at h
  simp only[Bool.and_eq_true,decide_eq_true_eq] at h
  have h3:¬Xh L p=45:=fun e=>by rw[e] at h;exact absurd h.2 (by decide)
  have h2:Yc L p=p:=by unfold Yc;rw[if_neg (fun e=>h3 (Xl.1 e).2)]
  rw[h2]
  have h4:Zn (Xh L p)=true:=by have:=h.2;unfold Zk at this;unfold Zn;simpa using this
  have h5:dgJ L p=dgJ L (p+1):=Kb h.1 h4
  have:p+1≤dgJ L (p+1):=Zh _ _ _
  exact ⟨by omega,h.1⟩
theorem Kl {W:WP} {R:RD} {L:List UInt8} (HR:Jw L R) (HW:WGood W L) {fs:List FN} {p:Nat} {n:Int} {fs':List FN} {q:Nat} (hp:p≤L.length) (h:Xs W R L fs p=some (n,fs',q)):Went L fs p n fs' q:=by
 have hs:=Xw L (p+1)
 unfold Xs at h
 split at h
 ·rename_i e;exact Xn9 (Xl.1 e).1 h
 split at h
 ·rename_i e;have:=(Xl.1 e).1;exact (Xbn HR (by omega) (X1 (by omega)) h).1
 split at h
 ·rename_i e;have:=(Xl.1 e).1;exact Xrs HR (by omega) (X1 (by omega)) h
 split at h
 ·rename_i e;have:=(Xl.1 e).1;exact Xul HR HW (by omega) (X1 (by omega)) h
 split at h
 ·rename_i e
  have h1:=(Xl.1 e).1
  split at h
  ·cases h
  ·rename_i t q1 et
   have h2:=HW.tex _ _ _ (by omega) et
   exact Z0 h ⟨[],by simp⟩ (by omega) (by omega) (by omega)
 split at h
 ·rename_i e
  have h1:=Xdf e
  exact Xoa HR h1.1 (U7 hp) h
 split at h
 ·rename_i e
  have h1:=Xz0 e
  obtain ⟨v,-,h⟩:=Xay h
  exact Z0 h ⟨[],by simp⟩ (by omega) h1.1 (U7 (Xcg hp))
 ·cases h
theorem Kr {L:List UInt8} {p:Nat} {k:Int} {len:Nat} (h:X0 L p=some (k,len)):1≤len∧p+len≤L.length∧1≤Xp k∧Xp k≤6:=by
 unfold X0 at h
 repeat' split at h
 all_goals first
  |(cases h;done)
  | (rename_i e; simp only [Option.some.injEq, Prod.mk.injEq] at h; obtain ⟨rfl, rfl⟩ := h
     first
      |(have h1:=(Xl.1 e.2).1;exact ⟨by omega,by omega,by decide,by decide⟩)
      |(have h1:=(Xl.1 e).1;exact ⟨by omega,by omega,by decide,by decide⟩))
theorem V7 {W:WP} {R:RD} {L:List UInt8} (HR:Jw L R) {k:Int} {len:Nat} {n:Int} {fs:List FN} {p:Nat} {n':Int} {fs':List FN} {q:Nat} (hl:1≤len) (hp:p+len≤L.length) (h:Jr R L W k len n fs p=some (n',fs',q)):Went L fs p n' fs' q:=by
 have hs:=Xw L (p+len)
 unfold Jr at h
 split at h
 ·exact Z0 h ⟨[],by simp⟩ (by omega) (by omega) hp
 ·obtain ⟨n1,fs1,q1,h1,h2⟩:=X5 h
  have w1:=HR _ _ _ _ _ _ (X1 hp) h1
  obtain ⟨rfl,rfl,rfl⟩:=V5 h2
  have:=w1.lt;have:=w1.cnt
  refine ⟨by omega,w1.le,w1.nb,V6 w1.pre ⟨_,rfl⟩, ?_,by omega, ?_⟩
  ·simp only[List.length_append,List.length_singleton];omega
  ·simp only[List.length_append,List.length_singleton];omega
structure Went0 (L:List UInt8) (fs:List FN) (p:Nat) (n:Int) (fs':List FN) (q:Nat):Prop where
 lt:p≤q
 le:q≤L.length
 nb:skF L q=q
 pre:∃more,fs'=fs++more
 cnt:fs'.length+p≤fs.length+q
 n0:0≤n
 n1:n<(fs'.length:Int)
theorem Went.on {L:List UInt8} {fs:List FN} {p:Nat} {n:Int} {fs':List FN} {q:Nat} {n2:Int} {fs2:List FN} {q2:Nat} (h:Went L fs p n fs' q) (h2:Went0 L fs' q n2 fs2 q2):Went L fs p n2 fs2 q2:=by
 have:=h.lt;have:=h.cnt;have:=h2.lt;have:=h2.cnt
 exact ⟨by omega,h2.le,h2.nb,V6 h.pre h2.pre,by omega,h2.n0,h2.n1⟩
theorem Went.wide {L:List UInt8} {fs:List FN} {p:Nat} {n:Int} {fs':List FN} {q:Nat} (h:Went L fs p n fs' q):Went0 L fs p n fs' q:=⟨Nat.le_of_lt h.lt,h.le,h.nb,h.pre,h.cnt,h.n0,h.n1⟩
theorem Xai {L:List UInt8} {fs:List FN} {p:Nat} {n:Int} (hp:p≤L.length) (hnb:skF L p=p) (h0:0≤n) (h1:n<(fs.length:Int)):Went0 L fs p n fs p:=⟨Nat.le_refl _,hp,hnb,⟨[],by simp⟩,Nat.le_refl _,h0,h1⟩
theorem Xob {W:WP} {R:RD} {L:List UInt8} (HR:Jw L R) (least:Int):∀g bind n fs p n' fs' q,p≤L.length→skF L p=p→0≤n→n<(fs.length:Int)→Zx R L W g least bind n fs p=some (n',fs',q)→Went0 L fs p n' fs' q:=by
 intro g
 induction g with
 |zero=>intro bind n fs p n' fs' q _ _ _ _ h;cases h
 | succ g ih =>
  intro bind n fs p n' fs' q hp hnb hn0 hn1 h
  rw[Zx] at h
  cases hj:X0 L p with
  | none =>
   simp only[hj,Option.some.injEq,Prod.mk.injEq] at h
   obtain ⟨rfl,rfl,rfl⟩:=h
   exact Xai hp hnb hn0 hn1
  | some kl =>
   obtain ⟨k,len⟩:=kl
   obtain ⟨j1,j2,-,-⟩:=Kr hj
   simp only[hj] at h
   split at h
   ·simp only[Option.some.injEq,Prod.mk.injEq] at h
    obtain ⟨rfl,rfl,rfl⟩:=h
    exact Xai hp hnb hn0 hn1
   split at h
   ·cases h
   ·obtain ⟨n1,fs1,q1,h1,h2⟩:=X5 h
    have w1:=V7 HR j1 j2 h1
    exact (w1.on (ih _ _ _ _ _ _ _ w1.le w1.nb w1.n0 w1.n1 h2)).wide
theorem Xhp {W:WP} {R:RD} {L:List UInt8} (HR:Jw L R) (l:Nat):∀g n fs p n' fs' q,p≤L.length→skF L p=p→0≤n→n<(fs.length:Int)→J2 R L W l g n fs p=some (n',fs',q)→Went0 L fs p n' fs' q:=by
 intro g
 induction g with
 |zero=>intro n fs p n' fs' q _ _ _ _ h;cases h
 | succ g ih =>
  intro n fs p n' fs' q hp hnb hn0 hn1 h
  rw[J2] at h
  cases hj:X0 L p with
  | none =>
   simp only[hj,Option.some.injEq,Prod.mk.injEq] at h
   obtain ⟨rfl,rfl,rfl⟩:=h
   exact Xai hp hnb hn0 hn1
  | some kl =>
   obtain ⟨k,len⟩:=kl
   obtain ⟨j1,j2,-,-⟩:=Kr hj
   simp only[hj] at h
   split at h
   ·obtain ⟨n1,fs1,q1,h1,h2⟩:=X5 h
    have w1:=V7 HR j1 j2 h1
    split at h2
    ·exact (w1.on (ih _ _ _ _ _ _ w1.le w1.nb w1.n0 w1.n1 h2)).wide
    ·simp only[Option.some.injEq,Prod.mk.injEq] at h2
     obtain ⟨rfl,rfl,rfl⟩:=h2
     exact w1.wide
   ·simp only[Option.some.injEq,Prod.mk.injEq] at h
    obtain ⟨rfl,rfl,rfl⟩:=h
    exact Xai hp hnb hn0 hn1
theorem Xjv {W:WP} {R:RD} {L:List UInt8} (HR:Jw L R) (HW:WGood W L):∀d fs p n fs' q,p≤L.length→lvS R L W d fs p=some (n,fs',q)→Went L fs p n fs' q:=by
 intro d
 induction d with
 | zero =>
  intro fs p n fs' q hp h
  rw[lvS] at h
  obtain ⟨n1,fs1,q1,h1,h2⟩:=X5 h
  have w1:=Kl HR HW hp h1
  exact w1.on (Xhp HR 6 _ _ _ _ _ _ _ w1.le w1.nb w1.n0 w1.n1 h2)
 | succ d ih =>
  intro fs p n fs' q hp h
  rw[lvS] at h
  obtain ⟨n1,fs1,q1,h1,h2⟩:=X5 h
  have w1:=ih _ _ _ _ _ hp h1
  exact w1.on (Xhp HR _ _ _ _ _ _ _ _ w1.le w1.nb w1.n0 w1.n1 h2)
theorem Xci {W:WP} {L:List UInt8} (HW:WGood W L):∀f,Jw L (Ys W L f):=by
 intro f
 induction f with
 |zero=>intro least fs p n fs' q _ h;cases h
 | succ f ih =>
  intro least fs p n fs' q hp h
  rw[Ys] at h
  obtain ⟨n1,fs1,q1,h1,h2⟩:=X5 h
  have w1:=Kl ih HW hp h1
  exact w1.on (Xob ih least _ _ _ _ _ _ _ _ w1.le w1.nb w1.n0 w1.n1 h2)
theorem Xfu {W:WP} {L:List UInt8} (HW:WGood W L):∀f,Jw L (Up W L f):=by
 intro f
 induction f with
 |zero=>intro least fs p n fs' q _ h;cases h
 | succ f ih =>
  intro least fs p n fs' q hp h
  rw[Up] at h
  exact Xjv ih HW _ _ _ _ _ _ hp h

def Gh (fs:List FN):Prop:=∀more,okF (fs++more)=false
theorem Xaj {fs more:List FN} (h:Gh fs):Gh (fs++more):=fun m=>by rw[List.append_assoc];exact h _
theorem Xog {fs:List FN} (h:40<fs.length):Gh fs:=fun more=>by
 unfold okF V1
 have:decide ((fs++more).length≤40)=false:=by rw[decide_eq_false_iff_not,List.length_append];omega
 rw[this];simp
theorem Xoh {fs:List FN} {x:FN} (h:Xn x=false):Gh (fs++ [x]):=fun more=>by
 rw[Bool.eq_false_iff]
 intro ho
 unfold okF at ho
 simp only[Bool.and_eq_true,List.all_eq_true,List.mem_range] at ho
 have h1:=(ho.1.2 fs.length (by simp)).1
 have h2:Xi (fs++ [x]++more) fs.length=x:=by unfold Xi;rw[List.getD_eq_getElem?_getD];simp
 rw[h2,h] at h1
 cases h1
def Qv (fs:List FN) (r:RF):Prop:=∀n fs' q,r=some (n,fs',q)→∃more,fs'=fs++more
theorem V8 {fs:List FN}:Qv fs none:=fun _ _ _ h=>by cases h
theorem Xbf {fs:List FN} {n:Int} {q:Nat}:Qv fs (some (n,fs,q)):=fun n' fs' q' h=>by
 simp only[Option.some.injEq,Prod.mk.injEq] at h;exact ⟨[],by rw[←h.2.1];simp⟩
theorem Yk {W:WP} {x:FN} {fs:List FN} {q:Nat}:Qv fs (Xu W x fs q):=fun n' fs' q' h=>⟨[x],(V5 h).2.1⟩
theorem Qs {fs:List FN} {a:RF} {k:Int→List FN→Nat→RF} (h:Qv fs a) (hk:∀n fs q,Qv fs (k n fs q)):Qv fs (Xy a k):=fun n' fs' q' e=>by
 obtain ⟨n1,fs1,q1,h1,h2⟩:=X5 e
 exact V6 (h _ _ _ h1) (hk _ _ _ _ _ _ h2)
theorem Km {fs:List FN} {L:List UInt8} {q c:Nat} {k:Nat→RF} (hk:∀q,Qv fs (k q)):Qv fs (Yj L q c k):=fun n' fs' q' e=>hk _ _ _ _ (Zi e).2
theorem Kn {fs:List FN} {L:List UInt8} {q:Nat} {w:List UInt8} {k:Nat→RF} (hk:∀q,Qv fs (k q)):Qv fs (Jn L w q k):=fun n' fs' q' e=>hk _ _ _ _ (V4 e).2
theorem Xj6 {fs:List FN} {W:WP} {L:List UInt8} {q:Nat} {k:Int→Nat→RF} (hk:∀n q,Qv fs (k n q)):Qv fs (Qx W L q k):=fun n' fs' q' e=>by
 obtain ⟨v,-,h⟩:=Xay e;exact hk _ _ _ _ _ h
theorem Yr {fs:List FN} {P:Prop} [Decidable P] {a b:RF} (ha:Qv fs a) (hb:Qv fs b):Qv fs (if P then a else b):=by split<;>assumption
def Jc (a b:RF):Prop:=match b with
 |some r=>a=some r
 |none=>∀n fs q,a=some (n,fs,q)→Gh fs
def Xcj (L:List UInt8) (q:Nat):Prop:=∃k len,X0 L q=some (k,len)∧Xp k=4
def Xrv (L:List UInt8) (least:Int) (q:Nat):Prop:=∀k len,X0 L q=some (k,len)→Xp k<least
def Xgo (L:List UInt8) (least:Int) (a b:RF):Prop:=match b with
 |some (n,fs,q)=>(a=some (n,fs,q)∧Xrv L least q)∨(a=none∧least≤4∧Xcj L q)
 |none=>∀n fs q,a=some (n,fs,q)→Gh fs
def Xfx (L:List UInt8) (R S:RD):Prop:=∀least fs p,1≤least→least≤6→p≤L.length→Xgo L least (R least fs p) (S least fs p)
def Uy (R:RD):Prop:=∀least fs p,Qv fs (R least fs p)
theorem K4:Jc none none:=fun _ _ _ h=>by cases h
theorem Xrw {r:Int×List FN×Nat}:Jc (some r) (some r):=rfl
theorem Y1 {P:Prop} [Decidable P] {a b c d:RF} (h1:P→Jc a c) (h2:¬P→Jc b d):Jc (if P then a else b) (if P then c else d):=by
 split
 ·exact h1 (by assumption)
 ·exact h2 (by assumption)
theorem Xrx {a b:RF} {k k':Int→List FN→Nat→RF} (h:Jc a b) (hk:∀n fs q,b=some (n,fs,q)→Jc (k n fs q) (k' n fs q)) (hp:∀n fs q,Qv fs (k n fs q)):Jc (Xy a k) (Xy b k'):=by
 cases b with
 |some r=>obtain ⟨n,fs,q⟩:=r;rw[show a=some (n,fs,q) from h,X2,X2];exact hk n fs q rfl
 | none =>
  rw[Jm]
  intro n' fs' q' e
  obtain ⟨n1,fs1,q1,h1,h2⟩:=X5 e
  obtain ⟨m,rfl⟩:=hp _ _ _ _ _ _ h2
  exact Xaj (h _ _ _ h1)
theorem Uh {L:List UInt8} {least:Int} {a b:RF} {k k':Int→List FN→Nat→RF} (h:Xgo L least a b) (hk:∀n fs q,b=some (n,fs,q)→Jc (k n fs q) (k' n fs q)) (hc:∀n fs q,Xcj L q→k' n fs q=none) (hp:∀n fs q,Qv fs (k n fs q)):Jc (Xy a k) (Xy b k'):=by
 cases b with
 | some r =>
  obtain ⟨n,fs,q⟩:=r
  rcases (show _∨_ from h) with ⟨h1,h2⟩|⟨h1,h2,h3⟩
  ·rw[h1,X2,X2];exact hk n fs q rfl
  ·rw[h1,Jm,X2,hc _ _ _ h3];exact K4
 | none =>
  rw[Jm]
  intro n' fs' q' e
  obtain ⟨n1,fs1,q1,h1,h2⟩:=X5 e
  obtain ⟨m,rfl⟩:=hp _ _ _ _ _ _ h2
  exact Xaj ((show∀n fs q,a=some (n,fs,q)→Gh fs from h) _ _ _ h1)
theorem Ui {L:List UInt8} {q c:Nat} {k k':Nat→RF} (h:Xe L q c=true→Jc (k (skF L (q+1))) (k' (skF L (q+1)))):Jc (Yj L q c k) (Yj L q c k'):=by
 unfold Yj
 exact Y1 h (fun _=>K4)
theorem Xdh {L:List UInt8} {q:Nat} {w:List UInt8} {k k':Nat→RF} (h:Jc (k (skF L (nmJ L q))) (k' (skF L (nmJ L q)))):Jc (Jn L w q k) (Jn L w q k'):=by
 unfold Jn
 exact Y1 (fun _=>h) (fun _=>K4)
structure WRel (W W':WP) (L:List UInt8):Prop where
 cap:W.cap=false
 cap':W'.cap=true
 dec:∀l v,W'.dec l=some v→W.dec l=some v
 dec':∀l v,W'.dec l=none→W.dec l=some v→v< -1000000000000000∨1000000000000000<v
 nam:∀p,W.nam L p=nmJ L p
 nam':∀p,W'.nam L p=if Yu L p=true then nmJ L p else p
 tex:∀p r,W'.tex L p=some r→W.tex L p=some r
 tex':∀p t q,W'.tex L p=none→W.tex L p=some (t,q)→60<t.length
theorem Z4 {W W':WP} {L:List UInt8} (H:WRel W W' L) (x:FN) (fs:List FN) (q:Nat):Jc (Xu W x fs q) (Xu W' x fs q):=by
 unfold Xu
 rw[H.cap,H.cap']
 by_cases h:40<fs.length+1
 ·simp only[h,true_and,and_true,if_true,Bool.false_eq_true,false_and,if_false]
  intro n fs' q' e
  simp only[Option.some.injEq,Prod.mk.injEq] at e
  rw[←e.2.1]
  exact Xog (by simp only[List.length_append,List.length_singleton];exact h)
 ·simp only[h,and_false,if_false,Bool.false_eq_true,false_and];rfl
theorem Xdi {a:RF} (h:∀n fs q,a=some (n,fs,q)→Gh fs):Jc a none:=h
theorem Xa1 {W:WP} {x:FN} {fs:List FN} {q:Nat} (h:Xn x=false):∀n fs' q',Xu W x fs q=some (n,fs',q')→Gh fs':=fun n fs' q' e=>by
 obtain ⟨-,rfl,-⟩:=V5 e;exact Xoh h
theorem Xck {L:List UInt8} {q:Nat} (h:Xcj L q):q<L.length∧(Xh L q=61∨Xh L q=33∨Xh L q=60):=by
 obtain ⟨k,len,hj,hl⟩:=h
 unfold X0 at hj
 repeat' split at hj
 all_goals first
  |(cases hj;done)
  | (simp only [Option.some.injEq, Prod.mk.injEq] at hj; obtain ⟨rfl, rfl⟩ := hj
     first
      |(exfalso;revert hl;decide)
      |(rename_i e;first|(have h1:=Xl.1 e.1;exact ⟨h1.1,by omega⟩)|(have h1:=Xl.1 e;exact ⟨h1.1,by omega⟩)))
theorem Xey {L:List UInt8} {q c:Nat} {k:Nat→RF} (h:Xcj L q) (hc:c≠61) (hc1:c≠33) (hc2:c≠60):Yj L q c k=none:=by
 unfold Yj
 rw[if_neg (fun e=> ?_)]
 have h1:=(Xl.1 e).2
 have h2:=(Xck h).2
 omega
theorem Xz1 {L:List UInt8} {q c:Nat} (h:Xcj L q) (hc:c≠61) (hc1:c≠33) (hc2:c≠60):Xe L q c=false:=by
 rw[X7];intro e;have h2:=(Xck h).2;omega
theorem Xez {L:List UInt8} {q:Nat} {w:List UInt8} {k:Nat→RF} (h:Xcj L q) (hw:w≠ []):Jn L w q k=none:=by
 unfold Jn
 rw[if_neg (fun e=> ?_)]
 have h2:=(Xck h).2
 have h3:nmJ L q=q:=Q1 (fun e=>by
  rcases h2 with h2|h2|h2<;>(rw[h2] at e;exact absurd e.2 (by decide)))
 unfold X9 at e
 rw[h3] at e
 simp at e
 exact hw e

theorem Xne {W:WP} {L:List UInt8} {fs:List FN} {p:Nat}:Qv fs (Qo W L fs p):=Yr Yk (Xj6 fun _ _=>Km fun _=>Yk)
theorem Xnf {W:WP} {L:List UInt8} {fs:List FN} {p:Nat}:Qv fs (Ym W L fs p):=Yr Yk (Yr Xne Yk)
theorem Xd5 {R:RD} {L:List UInt8} {c:Nat} {fs:List FN} {p:Nat} (HR:Uy R):Qv fs (Zl R L c fs p):=Qs (HR _ _ _) fun _ _ _=>Km fun _=>Xbf
theorem Xqf {W:WP} {R:RD} {L:List UInt8} {fs:List FN} {p:Nat} (HR:Uy R):Qv fs (Jo W R L fs p):=Yr Yk (Qs (HR _ _ _) fun _ _ _=>Km fun _=>Yk)
theorem Xhb {W:WP} {R:RD} {L:List UInt8} (HR:Uy R):∀g names kids fs p,Qv fs (Zm W R L g names kids fs p):=by
 intro g
 induction g with
 |zero=>intro names kids fs p;exact V8
 | succ g ih =>
  intro names kids fs p
  rw[Zm]
  exact Km fun _=>Qs (HR _ _ _) fun _ _ _=>Yr Yk (Km fun _=>ih _ _ _ _)
theorem Xti {W:WP} {R:RD} {L:List UInt8} {fs:List FN} {p:Nat} (HR:Uy R):Qv fs (Jf W R L fs p):=Yr Yk (Xhb HR _ _ _ _ _)
theorem Xtj {W:WP} {R:RD} {L:List UInt8} {fs:List FN} {p:Nat} (HR:Uy R):Qv fs (Vy W R L fs p):=Km fun _=>Qs (Xd5 HR) fun _ _ _=>Yk
theorem Xwu {W:WP} {R:RD} {L:List UInt8} {fs:List FN} {p:Nat} (HR:Uy R):Qv fs (ifF W R L fs p):=
 Qs (HR _ _ _) fun _ _ _=>Kn fun _=>Qs (HR _ _ _) fun _ _ _=>Kn fun _=>Qs (HR _ _ _) fun _ _ _=>Kn fun _=>Yk
theorem Xng {W:WP} {R:RD} {L:List UInt8} {w:List UInt8} {fs:List FN} {p:Nat} (HR:Uy R):Qv fs (X4 W R L w fs p):=
 Yr Yk (Yr Yk (Yr Yk (Yr (Xtj HR) (Yr (Xwu HR) (Yr Yk (Yr Yk (Yr Yk (Yr Yk V8))))))))
theorem Xqg {W:WP} {L:List UInt8} {fs:List FN} {p:Nat}:Qv fs (match W.tex L (p+1) with
  |none=>none
  |some (t,q)=>Xu W (Zt ⟨4,0,txt t,[],[]⟩) fs (skF L q)):=by
 split
 ·exact V8
 ·exact Yk
theorem Xnh {W:WP} {R:RD} {L:List UInt8} {fs:List FN} {p:Nat} (HR:Uy R):Qv fs (Xs W R L fs p):=
 Yr Xnf (Yr (Xd5 HR) (Yr (Xqf HR) (Yr (Xti HR) (Yr Xqg (Yr (Xng HR) (Yr (Xj6 fun _ _=>Yk) V8))))))
theorem Xtk {R:RD} {L:List UInt8} {W:WP} {k:Int} {len:Nat} {n:Int} {fs:List FN} {p:Nat} (HR:Uy R):Qv fs (Jr R L W k len n fs p):=Yr Yk (Qs (HR _ _ _) fun _ _ _=>Yk)
theorem Wo {R:RD} {L:List UInt8} {W:WP} (HR:Uy R) (least:Int):∀g bind n fs p,Qv fs (Zx R L W g least bind n fs p):=by
 intro g
 induction g with
 |zero=>intro bind n fs p;exact V8
 | succ g ih =>
  intro bind n fs p
  rw[Zx]
  split
  ·exact Xbf
  ·exact Yr Xbf (Yr V8 (Qs (Xtk HR) fun _ _ _=>ih _ _ _ _))
theorem Xni (W:WP) (L:List UInt8):∀f,Uy (Ys W L f):=by
 intro f
 induction f with
 |zero=>intro least fs p;exact V8
 |succ f ih=>intro least fs p;rw[Ys];exact Qs (Xnh ih) fun _ _ _=>Wo ih _ _ _ _ _ _
section
variable {W W':WP} {L:List UInt8} (H:WRel W W' L) {R S:RD} (HP:Uy R) (HR:Xfx L R S) (HG:Jw L S)
include H
theorem Xl6 {q:Nat} {k k':Int→Nat→RF} (hk:∀n q,Jc (k n q) (k' n q)) (hd:∀n q n' fs' q',n< -1000000000000000∨1000000000000000<n→k n q=some (n',fs',q')→Gh fs'):Jc (Qx W L q k) (Qx W' L q k'):=by
 unfold Qx
 cases h:W'.dec (Jb L q) with
 |some v=>rw[H.dec _ _ h];exact hk _ _
 | none =>
  cases h2:W.dec (Jb L q) with
  |none=>exact K4
  |some v=>exact Xdi fun n' fs' q' e=>hd _ _ _ _ _ (H.dec' _ _ h h2) e
theorem Xqh (fs:List FN) (p:Nat):Jc (Qo W L fs p) (Qo W' L fs p):=by
 unfold Qo
 refine Y1 (fun _=>Z4 H _ _ _) (fun _=>Xl6 H (fun n q=>Ui fun _=>Z4 H _ _ _) (fun n q n' fs' q' hn e=> ?_))
 have e:=(Zi e).2
 refine Xa1 ?_ _ _ _ e
 unfold Xn Ja
 have:(decide (-80≤n)&&decide (n≤80))=false:=by
  rw[Bool.and_eq_false_iff];simp only[decide_eq_false_iff_not];omega
 simp[this]
theorem Xqi (fs:List FN) (p:Nat):Jc (Ym W L fs p) (Ym W' L fs p):=by
 unfold Ym
 exact Y1 (fun _=>Z4 H _ _ _) (fun _=>Y1 (fun _=>Xqh H _ _) (fun _=>Z4 H _ _ _))
include HP HR HG
theorem Xfk {c:Nat} (hc:c≠61) (hc1:c≠33) (hc2:c≠60) (fs:List FN) {p:Nat} (hp:p≤L.length):Jc (Zl R L c fs p) (Zl S L c fs p):=by
 unfold Zl
 exact Uh (HR 1 fs p (by decide) (by decide) hp) (fun _ _ _ _=>Ui fun _=>Xrw) (fun _ _ _ h=>Xey h hc hc1 hc2) (fun _ _ _=>Km fun _=>Xbf)
theorem Xtl (fs:List FN) {p:Nat} (hp:p≤L.length):Jc (Jo W R L fs p) (Jo W' S L fs p):=by
 unfold Jo
 exact Y1 (fun _=>Z4 H _ _ _) (fun _=>Uh (HR 1 fs p (by decide) (by decide) hp) (fun _ _ _ _=>Ui fun _=>Z4 H _ _ _) (fun _ _ _ h=>Xey h (by decide) (by decide) (by decide)) (fun _ _ _=>Km fun _=>Yk))
theorem Xwv (fs:List FN) {p:Nat}:Jc (Vy W R L fs p) (Vy W' S L fs p):=by
 unfold Vy
 exact Ui fun e=>Xrx (Xfk H HP HR HG (by decide) (by decide) (by decide) fs (X1 (by have:=(Xl.1 e).1;omega))) (fun _ _ _ _=>Z4 H _ _ _) (fun _ _ _=>Yk)
theorem Xyx (fs:List FN) {p:Nat} (hp:p≤L.length):Jc (ifF W R L fs p) (ifF W' S L fs p):=by
 unfold ifF
 refine Uh (HR 1 fs p (by decide) (by decide) hp) (fun n1 fs1 q1 e1=>Xdh ?_) (fun _ _ _ h=>Xez h (by simp)) (fun _ _ _=>Kn fun _=>Qs (HP _ _ _) fun _ _ _=>Kn fun _=>Qs (HP _ _ _) fun _ _ _=>Kn fun _=>Yk)
 have w1:=HG _ _ _ _ _ _ hp e1
 have hp1:=X1 (Gz w1.le)
 refine Uh (HR 1 fs1 _ (by decide) (by decide) hp1) (fun n2 fs2 q2 e2=>Xdh ?_) (fun _ _ _ h=>Xez h (by simp)) (fun _ _ _=>Kn fun _=>Qs (HP _ _ _) fun _ _ _=>Kn fun _=>Yk)
 have w2:=HG _ _ _ _ _ _ hp1 e2
 have hp2:=X1 (Gz w2.le)
 exact Uh (HR 1 fs2 _ (by decide) (by decide) hp2) (fun n3 fs3 q3 e3=>Xdh (Z4 H _ _ _)) (fun _ _ _ h=>Xez h (by simp)) (fun _ _ _=>Kn fun _=>Yk)
theorem Xqj {w:List UInt8} (fs:List FN) {p:Nat} (hp:p≤L.length):Jc (X4 W R L w fs p) (X4 W' S L w fs p):=by
 unfold X4
 refine Y1 (fun _=>Z4 H _ _ _) (fun _=> ?_)
 refine Y1 (fun _=>Z4 H _ _ _) (fun _=> ?_)
 refine Y1 (fun _=>Z4 H _ _ _) (fun _=> ?_)
 refine Y1 (fun _=>Xwv H HP HR HG _) (fun _=> ?_)
 refine Y1 (fun _=>Xyx H HP HR HG _ hp) (fun _=> ?_)
 refine Y1 (fun _=>Z4 H _ _ _) (fun _=> ?_)
 refine Y1 (fun _=>Z4 H _ _ _) (fun _=> ?_)
 refine Y1 (fun _=>Z4 H _ _ _) (fun _=> ?_)
 exact Y1 (fun _=>Z4 H _ _ _) (fun _=>K4)
end

theorem Xmh {names:List ByteArray} {kids:List Int} (h:∃x,x∈names∧Ya x=false):Xn (Vv names kids)=false:=by
 obtain ⟨x,hx,hb⟩:=h
 obtain ⟨j,hj,rfl⟩:=List.mem_iff_getElem.1 hx
 have h1:Z2 names=false:=by
  rw[Bool.eq_false_iff]
  intro e
  unfold Z2 Gt at e
  simp only[Bool.and_eq_true,List.all_eq_true,List.mem_range] at e
  have h2:=e.2 j hj
  unfold Q4 at h2
  rw[Bool.and_eq_true] at h2
  have h3:Xt names j=names[j]:=by unfold Xt;rw[List.getD_eq_getElem?_getD,List.getElem?_eq_getElem hj];rfl
  rw[h3,hb] at h2
  cases h2.1
 unfold Xn Ja Vv
 simp[h1]
theorem Xug {W:WP} {R:RD} {L:List UInt8}:∀g names kids fs p n fs' q,(∃x,x∈names∧Ya x=false)→Zm W R L g names kids fs p=some (n,fs',q)→Gh fs':=by
 intro g
 induction g with
 |zero=>intro names kids fs p n fs' q _ h;cases h
 | succ g ih =>
  intro names kids fs p n fs' q hb h
  rw[Zm] at h
  obtain ⟨-,h⟩:=Zi h
  obtain ⟨n1,fs1,q1,-,h⟩:=X5 h
  have hb2:∀y,∃x,x∈names++ [y]∧Ya x=false:=fun y=>by obtain ⟨x,hx,hxb⟩:=hb;exact ⟨x,List.mem_append_left _ hx,hxb⟩
  split at h
  ·exact Xa1 (Xmh (hb2 _)) _ _ _ h
  ·exact ih _ _ _ _ _ _ _ (hb2 _) (Zi h).2
theorem Xuh {L:List UInt8} {p m:Nat} (h:Yt (Xh L p)=false):Ya (txt ((L.drop p).take m))=false:=by
 rw[Bool.eq_false_iff]
 intro e
 unfold Ya at e
 simp only[Bool.and_eq_true,decide_eq_true_eq] at e
 have h1:Yq (txt ((L.drop p).take m)) 0=Xh L p∨(txt ((L.drop p).take m)).size=0:=by
  cases m with
  |zero=>right;unfold txt;simp[ByteArray.size]
  | succ m =>
   left
   unfold Yq txt Xh
   simp[List.getElem?_take,List.getElem?_drop]
 rcases h1 with h1|h1
 ·rw[h1,h] at e;exact absurd e.1.2 (by simp)
 ·omega
section
variable {W W':WP} {L:List UInt8} (H:WRel W W' L) {R S:RD} (HP:Uy R) (HR:Xfx L R S) (HG:Jw L S)
include H HP HR HG
theorem Xui:∀g names kids fs p,p≤L.length→Jc (Zm W R L g names kids fs p) (Zm W' S L g names kids fs p):=by
 intro g
 induction g with
 |zero=>intro names kids fs p _;exact K4
 | succ g ih =>
  intro names kids fs p hp
  by_cases hn:W'.nam L p=nmJ L p
  ·rw[Zm,Zm,H.nam,hn]
   refine Ui fun e=> ?_
   have e1:=(Xl.1 e).1
   have hp1:skF L (skF L (nmJ L p)+1)≤L.length:=X1 (by omega)
   refine Uh (HR 3 fs _ (by decide) (by decide) hp1) (fun n1 fs1 q1 e2=> ?_) (fun n1 fs1 q1 hc=> ?_) (fun _ _ _=>Yr Yk (Km fun _=>Xhb HP _ _ _ _ _))
   ·exact Y1 (fun _=>Z4 H _ _ _) (fun _=>Ui fun e3=>ih _ _ _ _ (X1 (by have:=(Xl.1 e3).1;omega)))
   ·rw[Xz1 hc (by decide) (by decide) (by decide)]
    simp only[Bool.false_eq_true,if_false]
    exact Xey hc (by decide) (by decide) (by decide)
  ·have hl:Yu L p=false:=by
    rw[Bool.eq_false_iff];intro e;exact hn (by rw[H.nam',if_pos e])
   have hq:W'.nam L p=p:=by rw[H.nam',hl];simp
   have hr:p<L.length∧nmC (Xh L p)=true:=by
    by_cases hr:p<L.length∧nmC (Xh L p)=true
    ·exact hr
    ·exact absurd (hq.trans (Q1 hr).symm) hn
   have hlb:Yt (Xh L p)=false:=by
    unfold Yu at hl
    simpa [hr.1] using hl
   have hd:Zk (Xh L p)=true:=by have:=hr.2;unfold nmC at this;rw[hlb] at this;simpa using this
   have hd2:48≤Xh L p∧Xh L p≤57:=by unfold Zk at hd;simpa using hd
   have hsk:skF L p=p:=Q1 (fun e=>by have:=e.2;unfold Xb4 at this;simp at this;omega)
   have hs:Zm W' S L (g+1) names kids fs p=none:=by
    rw[Zm,hq,hsk]
    unfold Yj
    rw[if_neg (fun e=> ?_)]
    have:=(Xl.1 e).2
    omega
   rw[hs]
   refine Xdi fun n fs' q e=> ?_
   rw[Zm] at e
   obtain ⟨-,e⟩:=Zi e
   obtain ⟨n1,fs1,q1,-,e⟩:=X5 e
   have hb2:∃x,x∈names++ [txt ((L.drop p).take (W.nam L p-p))]∧Ya x=false:=⟨_,List.mem_append_right _ (List.mem_singleton.2 rfl),Xuh hlb⟩
   split at e
   ·exact Xa1 (Xmh hb2) _ _ _ e
   ·exact Xug _ _ _ _ _ _ _ _ hb2 (Zi e).2
theorem Xxk (fs:List FN) {p:Nat} (hp:p≤L.length):Jc (Jf W R L fs p) (Jf W' S L fs p):=by
 unfold Jf
 exact Y1 (fun _=>Z4 H _ _ _) (fun _=>Xui H HP HR HG _ _ _ _ _ hp)
theorem Xre (fs:List FN) {p:Nat} (hp:p≤L.length):Jc (Xs W R L fs p) (Xs W' S L fs p):=by
 unfold Xs
 refine Y1 (fun _=>Xqi H _ _) (fun _=> ?_)
 refine Y1 (fun e=>Xfk H HP HR HG (by decide) (by decide) (by decide) _ (X1 (by have:=(Xl.1 e).1;omega))) (fun _=> ?_)
 refine Y1 (fun e=>Xtl H HP HR HG _ (X1 (by have:=(Xl.1 e).1;omega))) (fun _=> ?_)
 refine Y1 (fun e=>Xxk H HP HR HG _ (X1 (by have:=(Xl.1 e).1;omega))) (fun _=> ?_)
 refine Y1 (fun e=> ?_) (fun _=> ?_)
 ·cases h:W'.tex L (p+1) with
  |some r=>rw[H.tex _ _ h];exact Z4 H _ _ _
  | none =>
   cases h2:W.tex L (p+1) with
   |none=>exact K4
   | some r =>
    obtain ⟨t,q⟩:=r
    have h3:=H.tex' _ _ _ h h2
    refine Xdi (Xa1 ?_)
    have h4:Yb ⟨4,0,txt t,[],[]⟩=false:=by
     have:Qi (txt t)=false:=by
      unfold Qi
      have:decide ((txt t).size≤60)=false:=by
       rw[decide_eq_false_iff_not]
       unfold txt
       simp[ByteArray.size]
       omega
      rw[this];rfl
     unfold Yb Qu
     simp[this]
    have h5:okB [⟨4,0,txt t,[],[]⟩]=false:=by
     rw[Bool.eq_false_iff]
     intro ho
     unfold okB at ho
     simp only[Bool.and_eq_true,List.all_eq_true,List.mem_range] at ho
     have:=(ho.1.2 0 (by simp)).1
     rw[show Xc [(⟨4,0,txt t,[],[]⟩:VN)] 0=⟨4,0,txt t,[],[]⟩ from rfl,h4] at this
     cases this
    unfold Xn Ja Q9 Zt
    simp[h5]
 refine Y1 (fun e=>Xqj H HP HR HG _ (X1 (Gz hp))) (fun _=> ?_)
 refine Y1 (fun e=>Xl6 H (fun _ _=>Z4 H _ _ _) (fun n q n' fs' q' hn e=> ?_)) (fun _=>K4)
 refine Xa1 ?_ _ _ _ e
 have h4:Yb ⟨3,n,ByteArray.empty,[],[]⟩=false:=by
  unfold Yb Qu
  simp
  omega
 have h5:okB [⟨3,n,ByteArray.empty,[],[]⟩]=false:=by
  rw[Bool.eq_false_iff]
  intro ho
  unfold okB at ho
  simp only[Bool.and_eq_true,List.all_eq_true,List.mem_range] at ho
  have:=(ho.1.2 0 (by simp)).1
  rw[show Xc [(⟨3,n,ByteArray.empty,[],[]⟩:VN)] 0=⟨3,n,ByteArray.empty,[],[]⟩ from rfl,h4] at this
  cases this
 unfold Xn Ja Q9 Zt
 simp[h5]
end

def Ve (m:Nat):Nat:=if m=6∨m=5∨m=2 then m else m-1
def Jq (S:RD) (L:List UInt8) (W:WP) (least:Nat):Nat→Nat→Int→List FN→Nat→RF
 |0,_,_,_,_=>none
 | G + 1, m, n, fs, p => if m < least then some (n, fs, p) else match X0 L p with
  |none=>Jq S L W least G (m-1) n fs p
  | some (k, len) => if Xp k = (m : Int) then Xy (Jr S L W k len n fs p) fun n fs q => Jq S L W least G (Ve m) n fs q
   else Jq S L W least G (m-1) n fs p
theorem Wh {a:RF} {k k':Int→List FN→Nat→RF} (h:∀n fs q,a=some (n,fs,q)→k n fs q=k' n fs q):Xy a k=Xy a k':=by
 cases a with
 |none=>rfl
 |some r=>obtain ⟨n,fs,q⟩:=r;exact h n fs q rfl
theorem Xbm {a:RF} {k k':Int→List FN→Nat→RF}:Xy (Xy a k) k'=Xy a fun n fs q=>Xy (k n fs q) k':=by cases a<;>rfl
section
variable {S:RD} {L:List UInt8} {W:WP}
theorem Gg {least G m:Nat} {n:Int} {fs:List FN} {p:Nat} (h:m<least) (hG:0<G):Jq S L W least G m n fs p=some (n,fs,p):=by
 cases G with
 |zero=>omega
 |succ G=>rw[Jq,if_pos h]
theorem Xah {least:Nat} (hl:1≤least) {n:Int} {fs:List FN} {p:Nat}:∀(m G:Nat),m<G→(∀k len,X0 L p=some (k,len)→Xp k<(least:Int)∨(m:Int)<Xp k)→Jq S L W least G m n fs p=some (n,fs,p):=by
 intro m
 induction m with
 |zero=>intro G hG _;exact Gg (by omega) hG
 | succ m ih =>
  intro G hG hk
  by_cases h:m+1<least
  ·exact Gg h (by omega)
  ·obtain ⟨G',rfl⟩:∃G',G=G'+1:=⟨G-1,by omega⟩
   rw[Jq,if_neg h]
   cases hj:X0 L p with
   |none=>exact ih _ (by omega) (fun k len e=>by rw[hj] at e;cases e)
   | some kl =>
    obtain ⟨k,len⟩:=kl
    have h1:=hk k len hj
    simp only
    rw[if_neg (by omega)]
    exact ih _ (by omega) (fun k' len' e=>by rw[hj] at e;cases e;omega)
theorem Xn4 {least:Nat} {n:Int} {fs:List FN} {p:Nat} {k:Int} {len l:Nat} (hj:X0 L p=some (k,len)) (hk:Xp k=(l:Int)) (hl:least≤l):∀m G,l≤m→m<G→∃G',G=G'+(m-l)+1∧Jq S L W least G m n fs p=Xy (Jr S L W k len n fs p) fun n fs q=>Jq S L W least G' (Ve l) n fs q:=by
 intro m
 induction m with
 | zero =>
  intro G h1 h2
  obtain ⟨G',rfl⟩:∃G',G=G'+1:=⟨G-1,by omega⟩
  have hl0:l=0:=by omega
  subst hl0
  refine ⟨G',by omega, ?_⟩
  rw[Jq,if_neg (by omega),hj]
  simp only
  rw[if_pos hk]
 | succ m ih =>
  intro G h1 h2
  obtain ⟨G',rfl⟩:∃G',G=G'+1:=⟨G-1,by omega⟩
  by_cases e:l=m+1
  ·subst e
   refine ⟨G',by omega, ?_⟩
   rw[Jq,if_neg (by omega),hj]
   simp only
   rw[if_pos hk]
  ·obtain ⟨G2,hG2,h⟩:=ih G' (by omega) (by omega)
   refine ⟨G2,by omega, ?_⟩
   rw[Jq,if_neg (by omega),hj]
   simp only
   rw[if_neg (by rw[hk];omega)]
   exact h
variable (HG:Jw L S)
include HG
theorem Xhm {l:Nat} (hl:1≤l) (h6:l≤6):∀G g n fs p,p≤L.length→7 *(L.length-p)+l<G→L.length-p<g→Jq S L W l G l n fs p=J2 S L W l g n fs p:=by
 intro G
 induction G with
 |zero=>intro g n fs p _ h;omega
 | succ G ih =>
  intro g n fs p hp hG hg
  obtain ⟨g',rfl⟩:∃g',g=g'+1:=⟨g-1,by omega⟩
  rw[Jq,J2,if_neg (by omega)]
  cases hj:X0 L p with
  |none=>exact Gg (by omega) (by omega)
  | some kl =>
   obtain ⟨k,len⟩:=kl
   obtain ⟨j1,j2,-,-⟩:=Kr hj
   simp only
   by_cases e:Xp k=(l:Int)
   ·rw[if_pos e,if_pos e]
    refine Wh fun n1 fs1 q1 h1=> ?_
    have w1:=V7 HG j1 j2 h1
    have:=w1.lt;have:=w1.le
    unfold Ve
    split
    ·exact ih _ _ _ _ w1.le (by omega) (by omega)
    ·exact Gg (by omega) (by omega)
   ·rw[if_neg e,if_neg e]
    exact Gg (by omega) (by omega)
theorem Xn5 {l:Nat} (hl:1≤l):∀G m g n fs p,l≤m→m≤6→p≤L.length→7 *(L.length-p)+m<G→L.length-p<g→Jq S L W l G m n fs p=Xy (Jq S L W (l+1) G m n fs p) (J2 S L W l g):=by
 intro G
 induction G with
 |zero=>intro m g n fs p _ _ _ h;omega
 | succ G ih =>
  intro m g n fs p hm h6 hp hG hg
  by_cases e:m=l
  ·subst e
   rw[Xhm HG hl h6 (G+1) g n fs p hp hG hg,Gg (least:=m+1) (by omega) (by omega),X2]
  ·rw[Jq,Jq,if_neg (by omega),if_neg (by omega)]
   cases hj:X0 L p with
   |none=>exact ih _ _ _ _ _ (by omega) (by omega) hp (by omega) hg
   | some kl =>
    obtain ⟨k,len⟩:=kl
    obtain ⟨j1,j2,-,-⟩:=Kr hj
    simp only
    by_cases e2:Xp k=(m:Int)
    ·rw[if_pos e2,if_pos e2,Xbm]
     refine Wh fun n1 fs1 q1 h1=> ?_
     have w1:=V7 HG j1 j2 h1
     have:=w1.lt;have:=w1.le
     exact ih _ _ _ _ _ (by unfold Ve;split<;>omega) (by unfold Ve;split<;>omega) w1.le (by unfold Ve;split<;>omega) (by omega)
    ·rw[if_neg e2,if_neg e2]
     exact ih _ _ _ _ _ (by omega) (by omega) hp (by omega) hg
theorem Xt7 (HW:WGood W L):∀d,d≤5→∀fs p,p≤L.length→lvS S L W d fs p=Xy (Xs W S L fs p) fun n fs q=>Jq S L W (6-d) (7 *L.length+8) 6 n fs q:=by
 intro d
 induction d with
 | zero =>
  intro _ fs p hp
  rw[lvS]
  refine Wh fun n1 fs1 q1 h1=> ?_
  have w1:=Kl HG HW hp h1
  exact (Xhm HG (by decide) (by decide) _ _ _ _ _ w1.le (by omega) (by omega)).symm
 | succ d ih =>
  intro hd fs p hp
  rw[lvS,ih (by omega) fs p hp,Xbm]
  refine Wh fun n1 fs1 q1 h1=> ?_
  have w1:=Kl HG HW hp h1
  rw[Xn5 HG (l:=6-(d+1)) (by omega) _ 6 (L.length+1) _ _ _ (by omega) (by decide) w1.le (by omega) (by omega),show 6-(d+1)+1=6-d by omega,show 6-(d+1)=5-d by omega]
end
theorem Kk {L:List UInt8} {p:Nat} {k:Int} {len:Nat} (h:X0 L p=some (k,len)):k=6∨k=7∨k=21∨k=17∨k=18∨k=20∨k=19∨k=15∨k=16∨k=23:=by
 unfold X0 at h
 repeat' split at h
 all_goals first
  |(cases h;done)
  |(simp only[Option.some.injEq,Prod.mk.injEq] at h;obtain ⟨rfl,rfl⟩:=h;decide)
def StF (L:List UInt8) (bind:Int) (m p:Nat):Prop:=
 (∀k len,X0 L p=some (k,len)→Xei k≤bind∧Xp k≤(m:Int))∨(Xcj L p∧bind=4∧m≤3)
theorem Xmd {L:List UInt8} {bind:Int} {p:Nat} (h:6≤bind):StF L bind 6 p:=by
 refine .inl fun k len hj=> ?_
 have h1:Xei k≤6∧Xp k≤6:=by
  rcases Kk hj with rfl|rfl|rfl|rfl|rfl|rfl|rfl|rfl|rfl|rfl<;>decide
 exact ⟨by omega,h1.2⟩
theorem Xt8 {L:List UInt8} {p0 p:Nat} {k:Int} {len:Nat} (hj0:X0 L p0=some (k,len)) (hk:k≠23) (hs:Xrv L (Qh k) p):StF L (Xp k) (Ve (Xp k).toNat) p:=by
 have key:∀k' len',X0 L p=some (k',len')→(Xei k'≤Xp k∧Xp k'≤(Ve (Xp k).toNat:Int))∨(Xp k'=4∧Xp k=4):=by
  intro k' len' hj
  have h1:=hs k' len' hj
  rcases Kk hj0 with rfl|rfl|rfl|rfl|rfl|rfl|rfl|rfl|rfl|rfl<;>rcases Kk hj with rfl|rfl|rfl|rfl|rfl|rfl|rfl|rfl|rfl|rfl<;>first|(exact absurd rfl hk)|(exact .inl (by decide))|(exact .inr (by decide))|(exfalso;revert h1;decide)
 cases hj:X0 L p with
 |none=>exact .inl fun k' len' e=>by rw[hj] at e;cases e
 | some kl =>
  obtain ⟨k',len'⟩:=kl
  rcases key k' len' hj with h|h
  ·exact .inl fun k2 len2 e=>by rw[hj] at e;cases e;exact h
  ·refine .inr ⟨⟨k',len',hj,h.1⟩,h.2, ?_⟩
   rw[h.2];decide
theorem Xce {L:List UInt8} {least:Int} {a b:RF} {k k':Int→List FN→Nat→RF} (h:Jc a b) (hk:∀n fs q,b=some (n,fs,q)→Xgo L least (k n fs q) (k' n fs q)) (hp:∀n fs q,Qv fs (k n fs q)):Xgo L least (Xy a k) (Xy b k'):=by
 cases b with
 |some r=>obtain ⟨n,fs,q⟩:=r;rw[show a=some (n,fs,q) from h,X2,X2];exact hk n fs q rfl
 | none =>
  rw[Jm]
  intro n' fs' q' e
  obtain ⟨n1,fs1,q1,h1,h2⟩:=X5 e
  obtain ⟨m,rfl⟩:=hp _ _ _ _ _ _ h2
  exact Xaj (h _ _ _ h1)
section
variable {W W':WP} {L:List UInt8} (H:WRel W W' L) {R S:RD} (HP:Uy R) (HR:Xfx L R S) (HG:Jw L S)
include H HP HR HG
theorem Xt9 {least : Nat} (h1 : 1 ≤ least) (h6 : least ≤ 6) : ∀ g G bind m n fs p, p ≤ L.length → L.length - p < g → 7 * (L.length - p) + m < G → m ≤ 6 → StF L bind m p →
  Xgo L (least:Int) (Zx R L W g (least:Int) bind n fs p) (Jq S L W' least G m n fs p):=by
 intro g
 induction g with
 |zero=>intro G bind m n fs p _ h;omega
 | succ g ih =>
  intro G bind m n fs p hp hg hG hm hst
  rcases hst with hst|⟨hc,hb,hm3⟩
  ·cases hj : X0 L p with
   | none =>
    rw[Xah h1 m G (by omega) (fun k len e=>by rw[hj] at e;cases e),Zx,hj]
    exact .inl ⟨rfl,fun k len e=>by rw[hj] at e;cases e⟩
   | some kl =>
    obtain ⟨k,len⟩:=kl
    obtain ⟨j1,j2,j3,j4⟩:=Kr hj
    obtain ⟨s1,s2⟩:=hst k len hj
    by_cases hlow:Xp k<(least:Int)
    ·rw[Xah h1 m G (by omega) (fun k2 len2 e=>by rw[hj] at e;cases e;exact .inl hlow),Zx,hj]
     simp only
     rw[if_pos hlow]
     exact .inl ⟨rfl,fun k2 len2 e=>by rw[hj] at e;cases e;exact hlow⟩
    ·obtain ⟨l,hl⟩:∃l:Nat,Xp k=(l:Int):=⟨(Xp k).toNat,by omega⟩
     obtain ⟨G',hG',hS⟩:=Xn4 (S:=S) (W:=W') (n:=n) (fs:=fs) hj hl (by omega:least≤l) m G (by omega) (by omega)
     rw[hS,Zx,hj]
     simp only
     rw[if_neg hlow,if_neg (by omega)]
     have hgo:∀n1 fs1 q1,Jr S L W' k len n fs p=some (n1,fs1,q1)→StF L (Xp k) (Ve l) q1→Xgo L (least:Int) (Zx R L W g (least:Int) (Xp k) n1 fs1 q1) (Jq S L W' least G' (Ve l) n1 fs1 q1):=fun n1 fs1 q1 e hst1=>by
      have w1:=V7 HG j1 j2 e
      have:=w1.lt;have:=w1.le
      have hn6:Ve l≤6:=by unfold Ve;split<;>omega
      exact ih G' _ _ _ _ _ w1.le (by omega) (by omega) hn6 hst1
     by_cases h23:k=23
     ·subst h23
      refine Xce ?_ (fun n1 fs1 q1 e=>hgo n1 fs1 q1 e ?_) (fun _ _ _=>Wo HP _ _ _ _ _ _)
      ·unfold Jr;rw[if_pos rfl,if_pos rfl];exact Z4 H _ _ _
      ·have hl6 : l = 6 := by have : Xp 23 = 6 := by decide
                              omega
       subst hl6
       exact Xmd (by decide)
     ·have hlk : l = (Xp k).toNat := by omega
      have hr16:1≤Qh k∧Qh k≤6:=by
       rcases Kk hj with rfl|rfl|rfl|rfl|rfl|rfl|rfl|rfl|rfl|rfl<;>first|(exact absurd rfl h23)|decide
      have hx:=HR (Qh k) fs _ hr16.1 hr16.2 (X1 j2)
      have hePs:Jr S L W' k len n fs p=Xy (S (Qh k) fs (skF L (p+len))) fun b fs q=>Xu W' (Yw k [n,b]) fs q:=by unfold Jr;rw[if_neg h23]
      have hePp:Jr R L W k len n fs p=Xy (R (Qh k) fs (skF L (p+len))) fun b fs q=>Xu W (Yw k [n,b]) fs q:=by unfold Jr;rw[if_neg h23]
      cases hs:S (Qh k) fs (skF L (p+len)) with
      | none =>
       rw[hs] at hx hePs
       rw[Jm] at hePs
       rw[hePs,Jm]
       intro n' fs' q' e
       rw[hePp,Xbm] at e
       obtain ⟨n1,fs1,q1,e1,e2⟩:=X5 e
       obtain ⟨mm,rfl⟩:=Qs Yk (fun _ _ _=>Wo HP _ _ _ _ _ _) _ _ _ e2
       exact Xaj ((show∀n fs q,_=some (n,fs,q)→Gh fs from hx) _ _ _ e1)
      | some r =>
       obtain ⟨b,fs1,q1⟩:=r
       rw[hs] at hx hePs
       rw[X2] at hePs
       rcases (show _∨_ from hx) with ⟨x1,x2⟩|⟨x1,x2,x3⟩
       ·rw[x1,X2] at hePp
        refine Xce ?_ (fun n2 fs2 q2 e=>hgo n2 fs2 q2 e ?_) (fun _ _ _=>Wo HP _ _ _ _ _ _)
        ·rw[hePs,hePp];exact Z4 H _ _ _
        ·have hq:q2=q1:=by rw[hePs] at e;exact (V5 e).2.2
         rw[hq,hlk]
         exact Xt8 hj h23 x2
       ·rw [x1, Jm] at hePp
        rw[hePp,Jm]
        cases ha:Jr S L W' k len n fs p with
        |none=>rw[Jm];intro _ _ _ e;cases e
        | some r2 =>
         obtain ⟨n2,fs2,q2⟩:=r2
         have w2:=V7 HG j1 j2 ha
         have hq:q2=q1:=by rw[hePs] at ha;exact (V5 ha).2.2
         have hl3:l≤3:=by
          have:Xp k≤3:=by
           rcases Kk hj with rfl|rfl|rfl|rfl|rfl|rfl|rfl|rfl|rfl|rfl<;>first|(exact absurd rfl h23)|decide|(exfalso;revert x2;decide)
          omega
         rw[X2,hq]
         have hn3:Ve l≤3:=by unfold Ve;split<;>omega
         rw[Xah h1 (Ve l) G' (by have:=w2.lt;omega) (fun k2 len2 e=> ?_)]
         ·exact .inr ⟨rfl,by omega,x3⟩
         ·obtain ⟨k3,len3,e3,e4⟩:=x3
          rw[e3] at e
          cases e
          exact .inr (by omega)
  ·obtain ⟨k,len,hj,hk4⟩:=hc
   have hlft:Xei k=5:=by
    rcases Kk hj with rfl|rfl|rfl|rfl|rfl|rfl|rfl|rfl|rfl|rfl<;>first|decide|(exfalso;revert hk4;decide)
   rw[Xah h1 m G (by omega) (fun k2 len2 e=>by rw[hj] at e;cases e;exact .inr (by omega)),Zx,hj]
   simp only
   by_cases hlow:Xp k<(least:Int)
   ·rw[if_pos hlow]
    exact .inl ⟨rfl,fun k2 len2 e=>by rw[hj] at e;cases e;exact hlow⟩
   ·rw[if_neg hlow,if_pos (by omega)]
    exact .inr ⟨rfl,by omega,k,len,hj,hk4⟩
end
theorem Xua {W W':WP} {L:List UInt8} (H:WRel W W' L) (HW':WGood W' L):∀f,Xfx L (Ys W L f) (Up W' L f):=by
 intro f
 induction f with
 |zero=>intro least fs p _ _ _;intro _ _ _ e;cases e
 | succ f ih =>
  intro least fs p h1 h6 hp
  have HG:=Xfu HW' f
  have HP:=Xni W L f
  rw[Ys,Up,Xt7 HG HW' _ (by omega) fs p hp]
  obtain ⟨l,rfl⟩:∃l:Nat,least=(l:Int):=⟨least.toNat,by omega⟩
  rw[show 6-(6-(l:Int).toNat)=l by omega]
  refine Xce (Xre H HP ih HG fs hp) (fun n1 fs1 q1 e=> ?_) (fun _ _ _=>Wo HP _ _ _ _ _ _)
  have w1:=Kl HG HW' hp e
  exact Xt9 H HP ih HG (by omega) (by omega) _ _ _ _ _ _ _ w1.le (by omega) (by omega) (by decide) (Xmd (by decide))
theorem Xlf {W W':WP} {L:List UInt8} (H:WRel W W' L) (HW':WGood W' L) (f:Nat):Xc6 (Ys W L f) L=Xc6 (Up W' L f) L:=by
 have h:=Xua H HW' f 1 [] (skF L 0) (by decide) (by decide) (X1 (by omega))
 unfold Xc6
 cases hs:Up W' L f 1 [] (skF L 0) with
 | some r =>
  obtain ⟨n,fs,q⟩:=r
  rw[hs] at h
  rcases (show _∨_ from h) with ⟨x1,x2⟩|⟨x1,x2,x3⟩
  ·rw[x1]
  ·rw[x1]
   have:=(Xck x3).1
   simp only
   rw[if_neg (by omega)]
 | none =>
  rw[hs] at h
  cases hr:Ys W L f 1 [] (skF L 0) with
  |none=>rfl
  | some r =>
   obtain ⟨n,fs,q⟩:=r
   have h2:=(show∀n fs q,_=some (n,fs,q)→Gh fs from h) _ _ _ hr []
   rw[List.append_nil] at h2
   simp only
   rw[if_neg (by rw[h2];simp)]

def Q8 (l:List UInt8):Option Int:=match Lib.parseIntB 64 l with
 | .ok v=>if Lib.itoa v=l then some v else none
 |_=>none
def txS (L:List UInt8) (p:Nat):Option (List UInt8×Nat):=match txJ L p with
 |none=>none
 |some (l,q)=>if l.length≤60 then some (l,q) else none
def WPr:WP:=⟨Q8,fun L p=>nmJ L p,fun L p=>txJ L p,false⟩
def WSp:WP:=⟨Q6,fun L p=>if Yu L p=true then nmJ L p else p,txS,true⟩
theorem Xwt {d:List UInt8} {n:Nat} (h:d.length=n+1):∃d' c,d=d'++ [c]∧d'.length=n:=by
 refine ⟨d.take n,d[n]'(by omega), ?_,by rw[List.length_take];omega⟩
 have:d.take (n+1)=d:=List.take_of_length_le (by omega)
 rw[List.take_add_one,List.getElem?_eq_getElem (by omega)] at this
 exact this.symm
theorem Xel {d:List UInt8} {c:UInt8} {j:Nat} (h:j<d.length):Xh (d++ [c]) j=Xh d j:=by
 unfold Xh;rw[List.getD_eq_getElem?_getD,List.getD_eq_getElem?_getD,List.getElem?_append_left h]
theorem Xg7 {d:List UInt8} {c:UInt8}:Xh (d++ [c]) d.length=c.toNat:=by
 unfold Xh;rw[List.getD_eq_getElem?_getD];simp
theorem Xtf {d:List UInt8} {c:UInt8}:∀k,k≤d.length→X3 (d++ [c]) 0 k=X3 d 0 k:=by
 intro k
 induction k with
 |zero=>intro _;rfl
 |succ k ih=>intro h;rw[X3,X3,ih (by omega),Nat.zero_add,Xel (by omega)]
theorem Xi4:∀(n:Nat) (d:List UInt8),d.length=n+1→Uw d→(n=0∨Xh d 0≠48)→Lib.decDigits (X3 d 0 (n+1))=d:=by
 intro n
 induction n with
 | zero =>
  intro d hl hd _
  match d,hl with
  | [c],_=>
   have h0:=hd 0 (by simp)
   have hb:Xh [c] 0=c.toNat:=rfl
   rw[hb] at h0
   unfold Zn at h0
   simp only[decide_eq_true_eq] at h0
   have hv:X3 [c] 0 1=c.toNat-48:=by rw[X3,X3,Nat.zero_add,hb];try omega
   rw[hv,Lib.decDigits,dif_pos (by omega),show 48+(c.toNat-48)=c.toNat by omega]
   simp
 | succ n ih =>
  intro d hl hd h0
  obtain ⟨d',c,rfl,hl'⟩:=Xwt hl
  have hne:Xh (d'++ [c]) 0≠48:=by rcases h0 with h0|h0;omega;exact h0
  rw[Xel (by omega)] at hne
  have hd':Uw d':=fun j hj=>by have:=hd j (by simp;omega);rwa [Xel hj] at this
  have hc:=hd d'.length (by simp)
  rw[Xg7] at hc
  unfold Zn at hc
  simp only[decide_eq_true_eq] at hc
  have h1:=ih d' hl' hd' (.inr hne)
  have h48:=hd' 0 (by omega)
  unfold Zn at h48
  simp only[decide_eq_true_eq] at h48
  have hlow:=Xev (L:=d') (q:=0) (k:=n) (by omega)
  have hpow:1≤10^n:=Nat.pos_of_ne_zero (by simp)
  have hv:X3 (d'++ [c]) 0 (n+1+1)=10 *X3 d' 0 (n+1)+(c.toNat-48):=by
   rw[X3,Xtf _ (by omega),Nat.zero_add,←hl',Xg7]
  rw[hv,Lib.decDigits,dif_neg (by omega)]
  have e1:(10 *X3 d' 0 (n+1)+(c.toNat-48))/10=X3 d' 0 (n+1):=by omega
  have e2:(10 *X3 d' 0 (n+1)+(c.toNat-48))%10=c.toNat-48:=by omega
  rw[e1,e2,h1,show 48+(c.toNat-48)=c.toNat by omega]
  simp
theorem Xg8 {neg:Bool} {d:List UInt8} {v:Int} (h:U9 neg d=some v):∃n,d.length=n+1∧Uw d∧(n=0∨Xh d 0≠48)∧(neg=true→Xh d 0≠48)∧X3 d 0 (n+1)≤1000000000000000∧v=if neg=true then-((X3 d 0 (n+1):Nat):Int) else ((X3 d 0 (n+1):Nat):Int):=by
 unfold U9 at h
 split at h
 ·cases h
 ·rename_i hc
  simp only[not_or,not_and,Nat.not_lt,Decidable.not_not] at hc
  obtain ⟨h1,h2,h3,h4,h5⟩:=hc
  simp only[Option.some.injEq] at h
  refine ⟨d.length-1,by omega,h4, ?_, ?_,by rw[show d.length-1+1=d.length by omega];exact h5,by rw[show d.length-1+1=d.length by omega];exact h.symm⟩
  ·by_cases e:Xh d 0=48
   ·left;have:=(h3 e).1;omega
   ·exact .inr e
  ·intro hn e;exact (h3 e).2 hn
theorem Xg9 {l:List UInt8} {v:Int} (h:Q6 l=some v):Lib.itoa v=l∧-1000000000000000≤v∧v≤1000000000000000:=by
 unfold Q6 at h
 split at h
 ·rename_i hn
  obtain ⟨n,h1,h2,h3,h4,h5,h6⟩:=Xg8 h
  have hd:=Xi4 n _ h1 h2 h3
  have hne:=h4 rfl
  rw[if_pos rfl] at h6
  have h48:=h2 0 (by omega)
  unfold Zn at h48
  simp only[decide_eq_true_eq] at h48
  have hlow:=Xev (L:=l.drop 1) (q:=0) (k:=n) (by omega)
  have hpow:1≤10^n:=Nat.pos_of_ne_zero (by simp)
  unfold Wa at hn
  simp only[decide_eq_true_eq] at hn
  refine ⟨?_,by omega,by omega⟩
  unfold Lib.itoa
  rw[if_pos (by omega),h6,Int.natAbs_neg,Int.natAbs_natCast,hd]
  have hl:0<l.length:=by omega
  match l,hl with
  | c :: r, _ =>
   have:c.toNat=45:=hn.2
   have e:c=45:=UInt8.toNat_inj.1 this
   rw[e];rfl
 ·obtain ⟨n,h1,h2,h3,h4,h5,h6⟩:=Xg8 h
  have hd:=Xi4 n _ h1 h2 h3
  rw[if_neg (by decide)] at h6
  refine ⟨?_,by omega,by omega⟩
  unfold Lib.itoa
  rw[if_neg (by omega),h6,Int.toNat_natCast,hd]
theorem Xem (l:List UInt8):Sit l 0 l:=⟨Nat.zero_le _,[],by simp⟩
theorem Xqe {v:Int} (h1: -1000000000000000≤v) (h2:v≤1000000000000000):Q6 (Lib.itoa v)=some v:=by
 have hj:=Xix (L:=Lib.itoa v) (p:=0) h1 h2 (Xem _) (by intro e;omega)
 rw[Nat.zero_add] at hj
 obtain ⟨n1,n2⟩:=Xuk (L:=Lib.itoa v) (p:=0) (Nat.zero_le _)
 have hw:Jb (Lib.itoa v) 0=Lib.itoa v:=by
  have hq:dgJ (Lib.itoa v) (Yc (Lib.itoa v) 0)=(Lib.itoa v).length:=by
   have:Xbk (Lib.itoa v) 0=some (v,(Lib.itoa v).length):=hj
   unfold Xbk at this
   split at this
   ·cases this
   ·simp only[Option.some.injEq,Prod.mk.injEq] at this;exact this.2
  unfold Jb
  rw[hq,List.drop_zero,Nat.sub_zero,List.take_length]
 have hne:Lib.itoa v≠ [45,48]:=by
  unfold Lib.itoa
  split
  ·intro e
   have e2:Lib.decDigits v.natAbs= [48]:=by simpa using e
   have:=Xdv (L:=Lib.decDigits v.natAbs) v.natAbs v.natAbs 0 (Nat.le_refl _) (Xem _)
   refine this.2.2.1 (by omega) ?_
   rw[e2];rfl
  ·intro e
   have:=Xlx _ v.toNat (Nat.le_refl _) 45 (by rw[e];simp)
   revert this;decide
 have h3:=n2 (by rw[hw];exact hne)
 rw[hj,hw] at h3
 cases h4:Q6 (Lib.itoa v) with
 |none=>rw[h4] at h3;cases h3
 |some u=>rw[h4] at h3;simp only[Option.some.injEq,Prod.mk.injEq] at h3;rw[h3.1]
theorem Xtg (L:List UInt8):WRel WPr WSp L where
 cap:=rfl
 cap':=rfl
 dec:=fun l v h=>by
  obtain ⟨h1,h2,h3⟩:=Xg9 (show Q6 l=some v from h)
  show Q8 l=some v
  unfold Q8
  rw[←h1,Xgs h2 h3]
  simp
 dec':=fun l v h h'=>by
  have h1:Q8 l=some v:=h'
  unfold Q8 at h1
  split at h1
  ·rename_i u e
   split at h1
   ·rename_i e2
    simp only[Option.some.injEq] at h1
    subst h1
    by_cases hb: -1000000000000000≤u∧u≤1000000000000000
    ·have:=Xqe hb.1 hb.2
     rw[e2] at this
     rw[show WSp.dec l=Q6 l from rfl,this] at h
     cases h
    ·omega
   ·cases h1
  ·cases h1
 nam:=fun p=>rfl
 nam':=fun p=>rfl
 tex:=fun p r h=>by
  have h1:txS L p=some r:=h
  show txJ L p=some r
  unfold txS at h1
  split at h1
  ·cases h1
  ·rename_i l q e
   split at h1
   ·rw[e];exact h1
   ·cases h1
 tex':=fun p t q h h'=>by
  have h1:txS L p=none:=h
  have h2:txJ L p=some (t,q):=h'
  unfold txS at h1
  rw[h2] at h1
  simp only at h1
  split at h1
  ·cases h1
  ·omega
theorem Xyv (L:List UInt8) (hx:∀p t q,p≤L.length→txJ L p=some (t,q)→p≤q∧q≤L.length):WGood WPr L where
 nam:=fun p hp=>⟨Zh _ _ _,Gz hp⟩
 tex:=fun p t q hp h=>hx p t q hp h
theorem Xyw (L:List UInt8) (hx:∀p t q,p≤L.length→txJ L p=some (t,q)→p≤q∧q≤L.length):WGood WSp L where
 nam:=fun p hp=>by
  show p≤(if Yu L p=true then nmJ L p else p)∧(if Yu L p=true then nmJ L p else p)≤L.length
  split
  ·exact ⟨Zh _ _ _,Gz hp⟩
  ·exact ⟨Nat.le_refl _,hp⟩
 tex:=fun p t q hp h=>hx p t q hp ((Xtg L).tex p _ h)

open Go.RowKit Go.WideShapes
theorem Xmp {k:Int} (h1:1≤k) (h2:k≤23):k=1∨k=2∨k=3∨k=4∨k=5∨k=6∨k=7∨k=8∨k=9∨k=10∨k=11∨k=12∨k=13∨k=14∨k=15∨k=16∨k=17∨k=18∨k=19∨k=20∨k=21∨k=22∨k=23:=by omega
set_option maxRecDepth 100000 in
theorem Xr (k:Int) (w:World) (h1:1≤k) (h2:k≤23):Calls Tryz.prog 61 #[.int .i64 k] w fun e w'=>e= .returned (.int .i64 (Xp k))∧w'=w:=by
 rcases Xmp h1 h2 with rfl|rfl|rfl|rfl|rfl|rfl|rfl|rfl|rfl|rfl|rfl|rfl|rfl|rfl|rfl|rfl|rfl|rfl|rfl|rfl|rfl|rfl|rfl
 all_goals (
  go_enter Tryz.func61,Tryz.ntmps61
  go_wp2_with fail
  go_ret
  exact ⟨rfl,rfl⟩)
set_option maxRecDepth 100000 in
theorem J3 (k:Int) (w:World) (h:k=6∨k=7∨k=21∨k=17∨k=18∨k=19∨k=20∨k=15∨k=16):Calls Tryz.prog 64 #[.int .i64 k] w fun e w'=>e= .returned (.string (txt (Yl k)))∧w'=w:=by
 rcases h with rfl|rfl|rfl|rfl|rfl|rfl|rfl|rfl|rfl
 all_goals (
  go_enter Tryz.func64,Tryz.ntmps64
  go_wp2_with fail
  go_ret
  exact ⟨rfl,rfl⟩)
def Kv (B:Nat) (fs:List FN) (f:Nat):Prop:=∀(v:Value) (n:Nat) (least:Int) (w:World),FNodesAt B w v fs→B≤w.heap.size→n<f→n<fs.length→1≤least→least≤6→
 Calls Tryz.prog 25 #[v, .int .i64 n, .int .i64 least] w fun e w'=>e= .returned (.string (txt (Xf fs f n least)))∧Below w.heap.size w w'
structure SfN (B:Nat) (w:World) (bv o N n:Nat) (x:FN) (kc kn ki:Value):Prop where
 at6:FNodeAt B w bv (o+n *6) x kc kn ki
 bv:bv<B
 hB:B≤w.heap.size
 hn:n<N
 hN:N≤40
def Q5 (B:Nat) (x:FN) (S:List UInt8) (f:Nat) (fs:List FN):Prop:=∀(w:World) (bv o N cap n:Nat) (kc kn ki:Value) (least:Int),FNodesAt B w (.slice (some ⟨bv,o,none⟩) N cap) fs→SfN B w bv o N n x kc kn ki→Xn x=true→(∀j,j<x.kids.length→∃q:Nat,Xk x.kids j=q∧q<f∧q<fs.length∧∀l,(Xf fs f q l).length≤24600)→S.length≤24600→1≤least→least≤6→
 Calls Tryz.prog 25 #[.slice (some ⟨bv,o,none⟩) N cap, .int .i64 n, .int .i64 least] w fun e w'=>e= .returned (.string (txt (if Xp x.kind<least then [40]++S++ [41] else S)))∧Below w.heap.size w w'
theorem txt_of {s:ByteArray} {l:List UInt8} (h:s.data.toList=l):s=txt l:=by rw[←h,Ql]
set_option maxRecDepth 100000 in
theorem X09 (B:Nat) (x:FN) (f:Nat) (fs:List FN) (hkd:x.kind=1):Q5 B x (Xg (Xf fs f) x) f fs:=by
 intro w bv o N cap n kc kn ki least hfs hx hok hkids hS hl1 hl6
 obtain ⟨⟨c0,c1,c2,c3,c4,c5,hinn⟩,hbv,hB,hn,hN⟩:=hx
 have hLV:=Xr x.kind
 obtain ⟨f8,f9,fo,f2,f3,f5,fz,fzn⟩:=Yg hok
 have hnN:(n:Int)<(N:Int):=by omega
 obtain ⟨_,aC,cC,rfl,hcc⟩:=hinn.cst
 obtain ⟨_,hks,aK,cK,rfl,hkc⟩:=hinn.names
 obtain ⟨_,_,aI,cI,rfl,hic⟩:=hinn.kids
 obtain ⟨M,hM⟩:∃M,x.kids.length=M:=⟨_,rfl⟩
 obtain ⟨MK,hMK⟩:∃MK,x.names.length=MK:=⟨_,rfl⟩
 obtain ⟨MC,hMC⟩:∃MC,x.cst.length=MC:=⟨_,rfl⟩
 have HMM:=Xb hM
 have HMK:=Xb hMK
 have HMC:=Xb hMC
 rw[hM] at c5 hic f8 f9 fo
 rw[hMK] at c4 hkc f9 fzn
 rw[hMC] at c3 hcc
 rw[hM] at hkids
 have HCC:=Xb hcc
 have HKC:=Xb hkc
 have HIC:=Xb hic
 clear hcc hkc hic hM hMK hMC hinn
 have HLV:Hid (∀W,Calls Tryz.prog 61 #[.int .i64 1] W fun e w'=>e= .returned (.int .i64 7)∧w'=W):=fun W=>Xr 1 W (by omega) (by omega)
 rw[hkd] at c0⊢
 rw[show Xp 1=7 from rfl]
 have HB6:Hid (Xg (Xf fs f) x=Xg (Xf fs f) x):=rfl
 clear f8 f9 fo f2 f3 f5 fz fzn hfs hkids hLV HB6
 have HSB:Hid (Xg (Xf fs f) x= [46]):=by rw[Hid,Xg,hkd];simp
 obtain ⟨S,hSS⟩:∃S,Xg (Xf fs f) x=S:=⟨_,rfl⟩
 rw[hSS] at hS HSB⊢
 have hll:¬(7:Int)<least:=by omega
 rw[if_neg hll]
 clear hSS
 go_enter Tryz.func25,Tryz.ntmps25
 go_wp2_with (go_at_call 61;refine (HLV.out _).mono ?_;rintro e w1 ⟨rfl,rfl⟩)
 go_wp2_with fail
 go_ret
 exact ⟨by rw[HSB.out];rfl,(Below.refl _ _).alloc (Nat.le_refl _) _⟩
set_option maxRecDepth 100000 in
theorem X1a (B:Nat) (x:FN) (f:Nat) (fs:List FN) (hkd:x.kind=4):Q5 B x (Xg (Xf fs f) x) f fs:=by
 intro w bv o N cap n kc kn ki least hfs hx hok hkids hS hl1 hl6
 obtain ⟨⟨c0,c1,c2,c3,c4,c5,hinn⟩,hbv,hB,hn,hN⟩:=hx
 have hLV:=Xr x.kind
 obtain ⟨f8,f9,fo,f2,f3,f5,fz,fzn⟩:=Yg hok
 have hnN:(n:Int)<(N:Int):=by omega
 obtain ⟨_,aC,cC,rfl,hcc⟩:=hinn.cst
 obtain ⟨_,hks,aK,cK,rfl,hkc⟩:=hinn.names
 obtain ⟨_,_,aI,cI,rfl,hic⟩:=hinn.kids
 obtain ⟨M,hM⟩:∃M,x.kids.length=M:=⟨_,rfl⟩
 obtain ⟨MK,hMK⟩:∃MK,x.names.length=MK:=⟨_,rfl⟩
 obtain ⟨MC,hMC⟩:∃MC,x.cst.length=MC:=⟨_,rfl⟩
 have HMM:=Xb hM
 have HMK:=Xb hMK
 have HMC:=Xb hMC
 rw[hM] at c5 hic f8 f9 fo
 rw[hMK] at c4 hkc f9 fzn
 rw[hMC] at c3 hcc
 rw[hM] at hkids
 have HCC:=Xb hcc
 have HKC:=Xb hkc
 have HIC:=Xb hic
 clear hcc hkc hic hM hMK hMC hinn
 have HLV:Hid (∀W,Calls Tryz.prog 61 #[.int .i64 4] W fun e w'=>e= .returned (.int .i64 7)∧w'=W):=fun W=>Xr 4 W (by omega) (by omega)
 rw[hkd] at c0⊢
 rw[show Xp 4=7 from rfl]
 have HB6:Hid (Xg (Xf fs f) x=Xg (Xf fs f) x):=rfl
 clear f8 f9 fo f2 f3 f5 fz fzn hfs hkids hLV HB6
 have HSB:Hid (Xg (Xf fs f) x= [46,91,93]):=by rw[Hid,Xg,hkd];simp
 obtain ⟨S,hSS⟩:∃S,Xg (Xf fs f) x=S:=⟨_,rfl⟩
 rw[hSS] at hS HSB⊢
 have hll:¬(7:Int)<least:=by omega
 rw[if_neg hll]
 clear hSS
 go_enter Tryz.func25,Tryz.ntmps25
 go_wp2_with (go_at_call 61;refine (HLV.out _).mono ?_;rintro e w1 ⟨rfl,rfl⟩)
 go_wp2_with fail
 go_ret
 exact ⟨by rw[HSB.out];rfl,(Below.refl _ _).alloc (Nat.le_refl _) _⟩
set_option maxRecDepth 100000 in
theorem Xz5 (B:Nat) (x:FN) (f:Nat) (fs:List FN) (hkd:x.kind=11):Q5 B x (Xg (Xf fs f) x) f fs:=by
 intro w bv o N cap n kc kn ki least hfs hx hok hkids hS hl1 hl6
 obtain ⟨⟨c0,c1,c2,c3,c4,c5,hinn⟩,hbv,hB,hn,hN⟩:=hx
 have hLV:=Xr x.kind
 obtain ⟨f8,f9,fo,f2,f3,f5,fz,fzn⟩:=Yg hok
 have hnN:(n:Int)<(N:Int):=by omega
 obtain ⟨_,aC,cC,rfl,hcc⟩:=hinn.cst
 obtain ⟨_,hks,aK,cK,rfl,hkc⟩:=hinn.names
 obtain ⟨_,_,aI,cI,rfl,hic⟩:=hinn.kids
 obtain ⟨M,hM⟩:∃M,x.kids.length=M:=⟨_,rfl⟩
 obtain ⟨MK,hMK⟩:∃MK,x.names.length=MK:=⟨_,rfl⟩
 obtain ⟨MC,hMC⟩:∃MC,x.cst.length=MC:=⟨_,rfl⟩
 have HMM:=Xb hM
 have HMK:=Xb hMK
 have HMC:=Xb hMC
 rw[hM] at c5 hic f8 f9 fo
 rw[hMK] at c4 hkc f9 fzn
 rw[hMC] at c3 hcc
 rw[hM] at hkids
 have HCC:=Xb hcc
 have HKC:=Xb hkc
 have HIC:=Xb hic
 clear hcc hkc hic hM hMK hMC hinn
 have HLV:Hid (∀W,Calls Tryz.prog 61 #[.int .i64 11] W fun e w'=>e= .returned (.int .i64 7)∧w'=W):=fun W=>Xr 11 W (by omega) (by omega)
 rw[hkd] at c0⊢
 rw[show Xp 11=7 from rfl]
 have HB6:Hid (Xg (Xf fs f) x=Xg (Xf fs f) x):=rfl
 clear f8 f9 fo f2 f3 f5 fz fzn hfs hkids hLV HB6
 have HSB:Hid (Xg (Xf fs f) x= [108,101,110,103,116,104]):=by rw[Hid,Xg,hkd];simp
 obtain ⟨S,hSS⟩:∃S,Xg (Xf fs f) x=S:=⟨_,rfl⟩
 rw[hSS] at hS HSB⊢
 have hll:¬(7:Int)<least:=by omega
 rw[if_neg hll]
 clear hSS
 go_enter Tryz.func25,Tryz.ntmps25
 go_wp2_with (go_at_call 61;refine (HLV.out _).mono ?_;rintro e w1 ⟨rfl,rfl⟩)
 go_wp2_with fail
 go_ret
 exact ⟨by rw[HSB.out];rfl,(Below.refl _ _).alloc (Nat.le_refl _) _⟩
set_option maxRecDepth 100000 in
theorem Xz6 (B:Nat) (x:FN) (f:Nat) (fs:List FN) (hkd:x.kind=12):Q5 B x (Xg (Xf fs f) x) f fs:=by
 intro w bv o N cap n kc kn ki least hfs hx hok hkids hS hl1 hl6
 obtain ⟨⟨c0,c1,c2,c3,c4,c5,hinn⟩,hbv,hB,hn,hN⟩:=hx
 have hLV:=Xr x.kind
 obtain ⟨f8,f9,fo,f2,f3,f5,fz,fzn⟩:=Yg hok
 have hnN:(n:Int)<(N:Int):=by omega
 obtain ⟨_,aC,cC,rfl,hcc⟩:=hinn.cst
 obtain ⟨_,hks,aK,cK,rfl,hkc⟩:=hinn.names
 obtain ⟨_,_,aI,cI,rfl,hic⟩:=hinn.kids
 obtain ⟨M,hM⟩:∃M,x.kids.length=M:=⟨_,rfl⟩
 obtain ⟨MK,hMK⟩:∃MK,x.names.length=MK:=⟨_,rfl⟩
 obtain ⟨MC,hMC⟩:∃MC,x.cst.length=MC:=⟨_,rfl⟩
 have HMM:=Xb hM
 have HMK:=Xb hMK
 have HMC:=Xb hMC
 rw[hM] at c5 hic f8 f9 fo
 rw[hMK] at c4 hkc f9 fzn
 rw[hMC] at c3 hcc
 rw[hM] at hkids
 have HCC:=Xb hcc
 have HKC:=Xb hkc
 have HIC:=Xb hic
 clear hcc hkc hic hM hMK hMC hinn
 have HLV:Hid (∀W,Calls Tryz.prog 61 #[.int .i64 12] W fun e w'=>e= .returned (.int .i64 7)∧w'=W):=fun W=>Xr 12 W (by omega) (by omega)
 rw[hkd] at c0⊢
 rw[show Xp 12=7 from rfl]
 have HB6:Hid (Xg (Xf fs f) x=Xg (Xf fs f) x):=rfl
 clear f8 f9 fo f2 f3 f5 fz fzn hfs hkids hLV HB6
 have HSB:Hid (Xg (Xf fs f) x= [107,101,121,115]):=by rw[Hid,Xg,hkd];simp
 obtain ⟨S,hSS⟩:∃S,Xg (Xf fs f) x=S:=⟨_,rfl⟩
 rw[hSS] at hS HSB⊢
 have hll:¬(7:Int)<least:=by omega
 rw[if_neg hll]
 clear hSS
 go_enter Tryz.func25,Tryz.ntmps25
 go_wp2_with (go_at_call 61;refine (HLV.out _).mono ?_;rintro e w1 ⟨rfl,rfl⟩)
 go_wp2_with fail
 go_ret
 exact ⟨by rw[HSB.out];rfl,(Below.refl _ _).alloc (Nat.le_refl _) _⟩
set_option maxRecDepth 100000 in
theorem Xz7 (B:Nat) (x:FN) (f:Nat) (fs:List FN) (hkd:x.kind=13):Q5 B x (Xg (Xf fs f) x) f fs:=by
 intro w bv o N cap n kc kn ki least hfs hx hok hkids hS hl1 hl6
 obtain ⟨⟨c0,c1,c2,c3,c4,c5,hinn⟩,hbv,hB,hn,hN⟩:=hx
 have hLV:=Xr x.kind
 obtain ⟨f8,f9,fo,f2,f3,f5,fz,fzn⟩:=Yg hok
 have hnN:(n:Int)<(N:Int):=by omega
 obtain ⟨_,aC,cC,rfl,hcc⟩:=hinn.cst
 obtain ⟨_,hks,aK,cK,rfl,hkc⟩:=hinn.names
 obtain ⟨_,_,aI,cI,rfl,hic⟩:=hinn.kids
 obtain ⟨M,hM⟩:∃M,x.kids.length=M:=⟨_,rfl⟩
 obtain ⟨MK,hMK⟩:∃MK,x.names.length=MK:=⟨_,rfl⟩
 obtain ⟨MC,hMC⟩:∃MC,x.cst.length=MC:=⟨_,rfl⟩
 have HMM:=Xb hM
 have HMK:=Xb hMK
 have HMC:=Xb hMC
 rw[hM] at c5 hic f8 f9 fo
 rw[hMK] at c4 hkc f9 fzn
 rw[hMC] at c3 hcc
 rw[hM] at hkids
 have HCC:=Xb hcc
 have HKC:=Xb hkc
 have HIC:=Xb hic
 clear hcc hkc hic hM hMK hMC hinn
 have HLV:Hid (∀W,Calls Tryz.prog 61 #[.int .i64 13] W fun e w'=>e= .returned (.int .i64 7)∧w'=W):=fun W=>Xr 13 W (by omega) (by omega)
 rw[hkd] at c0⊢
 rw[show Xp 13=7 from rfl]
 have HB6:Hid (Xg (Xf fs f) x=Xg (Xf fs f) x):=rfl
 clear f8 f9 fo f2 f3 f5 fz fzn hfs hkids hLV HB6
 have HSB:Hid (Xg (Xf fs f) x= [110,111,116]):=by rw[Hid,Xg,hkd];simp
 obtain ⟨S,hSS⟩:∃S,Xg (Xf fs f) x=S:=⟨_,rfl⟩
 rw[hSS] at hS HSB⊢
 have hll:¬(7:Int)<least:=by omega
 rw[if_neg hll]
 clear hSS
 go_enter Tryz.func25,Tryz.ntmps25
 go_wp2_with (go_at_call 61;refine (HLV.out _).mono ?_;rintro e w1 ⟨rfl,rfl⟩)
 go_wp2_with fail
 go_ret
 exact ⟨by rw[HSB.out];rfl,(Below.refl _ _).alloc (Nat.le_refl _) _⟩
set_option maxRecDepth 100000 in
theorem Xz8 (B:Nat) (x:FN) (f:Nat) (fs:List FN) (hkd:x.kind=14):Q5 B x (Xg (Xf fs f) x) f fs:=by
 intro w bv o N cap n kc kn ki least hfs hx hok hkids hS hl1 hl6
 obtain ⟨⟨c0,c1,c2,c3,c4,c5,hinn⟩,hbv,hB,hn,hN⟩:=hx
 have hLV:=Xr x.kind
 obtain ⟨f8,f9,fo,f2,f3,f5,fz,fzn⟩:=Yg hok
 have hnN:(n:Int)<(N:Int):=by omega
 obtain ⟨_,aC,cC,rfl,hcc⟩:=hinn.cst
 obtain ⟨_,hks,aK,cK,rfl,hkc⟩:=hinn.names
 obtain ⟨_,_,aI,cI,rfl,hic⟩:=hinn.kids
 obtain ⟨M,hM⟩:∃M,x.kids.length=M:=⟨_,rfl⟩
 obtain ⟨MK,hMK⟩:∃MK,x.names.length=MK:=⟨_,rfl⟩
 obtain ⟨MC,hMC⟩:∃MC,x.cst.length=MC:=⟨_,rfl⟩
 have HMM:=Xb hM
 have HMK:=Xb hMK
 have HMC:=Xb hMC
 rw[hM] at c5 hic f8 f9 fo
 rw[hMK] at c4 hkc f9 fzn
 rw[hMC] at c3 hcc
 rw[hM] at hkids
 have HCC:=Xb hcc
 have HKC:=Xb hkc
 have HIC:=Xb hic
 clear hcc hkc hic hM hMK hMC hinn
 have HLV:Hid (∀W,Calls Tryz.prog 61 #[.int .i64 14] W fun e w'=>e= .returned (.int .i64 7)∧w'=W):=fun W=>Xr 14 W (by omega) (by omega)
 rw[hkd] at c0⊢
 rw[show Xp 14=7 from rfl]
 have HB6:Hid (Xg (Xf fs f) x=Xg (Xf fs f) x):=rfl
 clear f8 f9 fo f2 f3 f5 fz fzn hfs hkids hLV HB6
 have HSB:Hid (Xg (Xf fs f) x= [101,109,112,116,121]):=by rw[Hid,Xg,hkd];simp
 obtain ⟨S,hSS⟩:∃S,Xg (Xf fs f) x=S:=⟨_,rfl⟩
 rw[hSS] at hS HSB⊢
 have hll:¬(7:Int)<least:=by omega
 rw[if_neg hll]
 clear hSS
 go_enter Tryz.func25,Tryz.ntmps25
 go_wp2_with (go_at_call 61;refine (HLV.out _).mono ?_;rintro e w1 ⟨rfl,rfl⟩)
 go_wp2_with fail
 go_ret
 exact ⟨by rw[HSB.out];rfl,(Below.refl _ _).alloc (Nat.le_refl _) _⟩

def Vj (T:Nat→Option (Nat×Nat)):Nat→List Int→Nat→Prop
 |a,[],b=>a=b
 |a,k::ks,b=>∃m p,k=((m:Nat):Int)∧T m=some p∧p.1=a∧Vj T (m+1) ks b
theorem Xns {T:Nat→Option (Nat×Nat)} {m:Nat} {p:Nat×Nat} (hT:T m=some p):∀(ks:List Int) (a:Nat),Vj T a ks p.1→Vj T a (ks++ [((m:Nat):Int)]) (m+1):=by
 intro ks
 induction ks with
 |nil=>intro a h;exact ⟨m,p,rfl,hT,h.symm,rfl⟩
 | cons k ks ih =>
  intro a h
  obtain ⟨m',p',h1,h2,h3,h4⟩:=h
  exact ⟨m',p',h1,h2,h3,ih _ h4⟩
theorem Xnt {T:Nat→Option (Nat×Nat)}:∀(l:List Int) (b h:Nat) (q:Nat×Nat),l.foldl (Xv T) (some (b,h))=some q→Vj T q.1 l.reverse b:=by
 intro l
 induction l with
 |nil=>intro b h q e;simp at e;rw[←e];rfl
 | cons k l ih =>
  intro b h q e
  obtain ⟨p,h1,h2,h3,h4⟩:=Qz e
  have h5:=ih _ _ _ h4
  rw[List.reverse_cons]
  have:=Xns h3 _ _ h5
  rw[show b-1+1=b by omega] at this
  rw[show k=((b-1:Nat):Int) by omega]
  exact this
def Zj (fs:List FN) (n:Nat):Nat:=match tr (Yx fs) n with
 |some p=>p.1
 |none=>0
theorem Kd {fs:List FN} (h:okF fs=true):(1≤fs.length∧fs.length≤40)∧(∀i,i<fs.length→Xn (Xi fs i)=true)∧(∀i,i<fs.length→∃p,tr (Yx fs) i=some p)∧Zj fs (fs.length-1)=0:=by
 have h2:=h
 rw[←Xjn] at h2
 unfold Xes Jz V1 at h2
 simp only[Bool.and_eq_true,decide_eq_true_eq,List.all_eq_true,List.mem_range] at h2
 obtain ⟨⟨h3,h4⟩,h5,h6⟩:=h2
 refine ⟨h3,h4,fun i hi=>Option.isSome_iff_exists.1 (h5 i hi), ?_⟩
 unfold Vw at h6
 unfold Zj
 cases e:tr (Yx fs) (fs.length-1) with
 |none=>rfl
 |some p=>rw[e] at h6;simp at h6;exact h6.1
theorem Kj {fs:List FN} {n:Nat} (h:∃p,tr (Yx fs) n=some p):Vj (tr (Yx fs)) (Zj fs n) (Xi fs n).kids n:=by
 obtain ⟨p,hp⟩:=h
 unfold Zj
 rw[hp]
 simp only
 have hp2:=hp
 rw[Un] at hp2
 cases hf:(Yx fs n).reverse.foldl (Xv (tr (Yx fs))) (some (n,0)) with
 |none=>rw[hf] at hp2;cases hp2
 | some q =>
  rw[hf] at hp2
  simp at hp2
  have:=Xnt _ _ _ _ hf
  rw[List.reverse_reverse] at this
  rw[←hp2]
  exact this
theorem Q3 {fs:List FN} {m:Nat} {p:Nat×Nat} (h:tr (Yx fs) m=some p):Zj fs m=p.1:=by unfold Zj;rw[h]
theorem Xbd {s:ByteArray} (h:s.toList= []):s=ByteArray.empty:=by
 rw[ByteArray.toList_eq] at h
 have:s.size=0:=by rw[←Xm,h];rfl
 exact ByteArray.size_eq_zero_iff.1 this
theorem Ws {x:FN} (h:Xn x=true):(x.kind≠2→x.name=ByteArray.empty)∧(x.kind≠3→x.place=0)∧(x.kind≠5→x.cst= [])∧(x.kind≠9→x.names= [])∧(x.kind=2→Ya x.name=true)∧(x.kind=3→-80≤x.place∧x.place≤80)∧(x.kind=5→Q9 x.cst=true)∧(x.kind=9→Z2 x.names=true)∧Jk x=true∧1≤x.kind∧x.kind≤23:=by
 unfold Xn Gf at h
 simp only[Bool.and_eq_true] at h
 obtain ⟨⟨⟨⟨⟨z1,z2⟩,z3⟩,z4⟩,o⟩,f⟩:=h
 refine ⟨fun e=> ?_,fun e=> ?_,fun e=> ?_,fun e=> ?_,fun e=> ?_,fun e=> ?_,fun e=> ?_,fun e=> ?_,f, ?_⟩
 ·simp[e] at z1;exact Xbd z1
 ·simp[e] at z2;exact z2
 ·simp[e] at z3;exact z3
 ·simp[e] at z4;exact z4
 ·unfold Ja at o;rw[if_pos e] at o;exact o
 ·unfold Ja at o;rw[if_neg (by omega),if_pos e] at o;simpa using o
 ·unfold Ja at o;rw[if_neg (by omega),if_neg (by omega),if_pos e] at o;exact o
 ·unfold Ja at o;rw[if_neg (by omega),if_neg (by omega),if_neg (by omega),if_pos e] at o;exact o
 ·unfold Jk at f
  split at f
  ·omega
  ·split at f
   ·omega
   ·simp only[Bool.and_eq_true,decide_eq_true_eq] at f;omega
theorem Xbt (x:FN):x=⟨x.kind,x.name,x.place,x.cst,x.names,x.kids⟩:=by cases x;rfl
theorem Xat {x:FN} (h:Xn x=true) (h8:x.kind≠8) (h9:x.kind≠9):(x.kids.length:Int)=kidsN x.kind:=by
 have:=(Ws h).2.2.2.2.2.2.2.2.1
 unfold Jk at this
 rw[if_neg h8,if_neg h9] at this
 simp only[Bool.and_eq_true,decide_eq_true_eq] at this
 exact this.2
theorem X1g {x:FN} (h:Xn x=true) (h2:x.kind≠2) (h3:x.kind≠3) (h5:x.kind≠5) (h9:x.kind≠9) (hk:x.kids= []):x=Qw x.kind:=by
 obtain ⟨a,b,c,d,_⟩:=Ws h
 rw[Xbt x,a h2,b h3,c h5,d h9,hk];rfl
theorem Xjg {x:FN} (h:Xn x=true) (h2:x.kind≠2) (h3:x.kind≠3) (h5:x.kind≠5) (h9:x.kind≠9):x=Yw x.kind x.kids:=by
 obtain ⟨a,b,c,d,_⟩:=Ws h
 rw[Xbt x,a h2,b h3,c h5,d h9];rfl
theorem Xjh {c:List VN} (h:Q9 c=true):c= [⟨1,0,ByteArray.empty,[],[]⟩]∨c= [⟨2,0,ByteArray.empty,[],[]⟩]∨c= [⟨2,1,ByteArray.empty,[],[]⟩]∨(∃n,c= [⟨3,n,ByteArray.empty,[],[]⟩]∧-1000000000000000≤n∧n≤1000000000000000)∨∃t,c= [⟨4,0,t,[],[]⟩]∧Qi t=true:=by
 unfold Q9 at h
 simp only[Bool.and_eq_true,decide_eq_true_eq] at h
 obtain ⟨⟨⟨h1,h2⟩,h3⟩,h4⟩:=h
 match c,h1 with
 | [x], _ =>
  have hn:Yb x=true:=by
   unfold okB at h2
   simp only[Bool.and_eq_true,List.all_eq_true,List.mem_range] at h2
   have:=(h2.1.2 0 (by simp)).1
   exact this
  have e0:Xc [x] 0=x:=rfl
  rw[e0] at h3 h4
  obtain ⟨kind,n,s,keys,kids⟩:=x
  unfold Yb Q7 Qu at hn
  simp only[Bool.and_eq_true] at hn
  obtain ⟨⟨⟨⟨u1,u2⟩,u3⟩,u4⟩,v⟩:=hn
  simp only at h3 h4
  by_cases k1:kind=1
  ·subst k1;simp at u1 u2 u3 u4;left;rw[u1,Xbd u2,u3,u4]
  by_cases k2:kind=2
  ·subst k2;simp at u2 u3 u4 v;rw[Xbd u2,u3,u4];rcases v with v|v<;>subst v
   ·exact .inr (.inl rfl)
   ·exact .inr (.inr (.inl rfl))
  by_cases k3:kind=3
  ·subst k3;simp at u2 u3 u4 v;rw[Xbd u2,u3,u4];exact .inr (.inr (.inr (.inl ⟨n,rfl,v.1,v.2⟩)))
  by_cases k4:kind=4
  ·subst k4;simp at u1 u3 u4 v;rw[u1,u3,u4];exact .inr (.inr (.inr (.inr ⟨s,rfl,v⟩)))
  ·simp[k1,k2,k3,k4,h3,h4] at v
def Vq (L:List UInt8) (q:Nat):Prop:=nmC (Xh L q)=false∧Xh L q≠91
theorem Xw1 {L:List UInt8} {q:Nat} (h:L.length≤q):Vq L q:=by
 unfold Vq;rw[Q2 h];decide
theorem Kq {L:List UInt8} {q:Nat} {c:UInt8} (h:Xh L q=c.toNat) (hc:nmC c.toNat=false∧c.toNat≠91):Vq L q:=by unfold Vq;rw[h];exact hc
def Gy (L:List UInt8) (l:Int) (q:Nat):Prop:=∀k len,X0 L (skF L q)=some (k,len)→Xp k<l
def G8 (k:Int):Int:=if k=6 then 1 else if k=7∨k=21 then 3 else if k=15∨k=16 then 6 else if k=17∨k=18∨k=19∨k=20 then 5 else 7
theorem Xw2 {L:List UInt8} {l l':Int} {q:Nat} (h:Gy L l q) (hl:l≤l'):Gy L l' q:=fun k len e=>Int.lt_of_lt_of_le (h k len e) hl
theorem Xw3 (k:Int):Xp k≤G8 k:=by
 unfold Xp G8
 repeat' split
 all_goals omega
theorem Zv {L:List UInt8} {q:Nat} (h:Xh L q≠32) (h':Xh L q≠10):skF L q=q:=Q1 fun e=>by
 have:=e.2
 unfold Xb4 at this
 simp at this
 omega
theorem J6 {L:List UInt8} {q:Nat} (hq:q<L.length) (h:Xh L q=32) (h2:Xh L (q+1)≠32) (h3:Xh L (q+1)≠10):skF L q=q+1:=by
 have:skF L q=skF L (q+1):=Kb hq (by rw[h];rfl)
 rw[this];exact Zv h2 h3
theorem Wt {L:List UInt8} {l:Int} {q c:Nat} (h:Xh L q=c) (hc:c=41∨c=93∨c=125∨c=58):Gy L l q:=fun k len e=>by
 rw[Zv (by omega) (by omega)] at e
 unfold X0 at e
 have hn:∀x,x≠c→Xe L q x=false:=fun x hx=>by rw[X7];rintro ⟨_,h2⟩;omega
 rw[hn 124 (by omega),hn 44 (by omega),hn 47 (by omega),hn 61 (by omega),hn 33 (by omega),hn 60 (by omega),hn 43 (by omega),hn 45 (by omega),hn 63 (by omega)] at e
 simp at e
theorem Xtw {L:List UInt8} {l:Int} {q:Nat} (h:L.length≤skF L q):Gy L l q:=fun k len e=>by
 have:=(Kr e).2.1
 have:=(Kr e).1
 omega
theorem Xep {L:List UInt8} {l:Int} {q:Nat} {k:Int} {len:Nat} (h:X0 L (skF L q)=some (k,len)) (hk:Xp k<l):Gy L l q:=fun k' len' e=>by
 rw[h] at e
 simp only[Option.some.injEq,Prod.mk.injEq] at e
 rw[←e.1];exact hk
end Go.Proofs.YtehihemfepbmfaaGreatDoor
