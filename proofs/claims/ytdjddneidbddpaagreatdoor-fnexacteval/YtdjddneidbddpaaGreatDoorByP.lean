import Derived.WalkKit
import Derived.OrdersIn
import Derived.RangeFuncCalls
import Derived.Laws.IdiomStrings
import Derived.Deep.RegionLaw
import Derived.Deep.AppendLies
namespace Go.Proofs.YtdjddneidbddpaaGreatDoor
set_option linter.unusedSimpArgs false
set_option linter.unusedVariables false
set_option linter.unusedSectionVars false
open Go.RowKit
structure VN where
 kind:Int
 n:Int
 s:ByteArray
 keys:List ByteArray
 kids:List Int
def VN.zero:VN:=⟨0,0,ByteArray.empty,[],[]⟩
def Z4 (s:ByteArray):Bool:=decide (s.size<=60)&&s.data.toList.all fun c=>decide (c.toNat<=127)
def Y2 (a b:ByteArray):Bool:=Op.bytesLess a.toList b.toList
def Xf (l:List ByteArray) (i:Nat):ByteArray:=l.getD i ByteArray.empty
def Qd (l:List ByteArray) (j:Nat):Bool:=Z4 (Xf l j)&&(decide (j=0)||Y2 (Xf l (j-1)) (Xf l j))
def Qs (l:List ByteArray):Bool:=(List.range l.length).all (Qd l)
def Yr (x:VN):Bool:=
 !(decide (x.kind≠2)&&decide (x.kind≠3)&&decide (x.n≠0))&& !(decide (x.kind≠4)&&decide (x.s.toList≠ []))&&
 !(decide (x.kind≠6)&&decide (0<x.keys.length))&& !(decide (x.kind≠5)&&decide (x.kind≠6)&&decide (0<x.kids.length))
def Zi (x:VN):Bool:=
 if x.kind=1\/x.kind=5 then true
 else if x.kind=2 then decide (x.n=0)||decide (x.n=1)
 else if x.kind=3 then decide (-1000000000000000<=x.n)&&decide (x.n<=1000000000000000)
 else if x.kind=4 then Z4 x.s
 else if x.kind=6 then decide (x.keys.length=x.kids.length)&&Qs x.keys
 else false
def Xz (x:VN):Bool:=Yr x&&Zi x
theorem Xe3 (n:Nat):((n:Int)==0)= !decide (0<n):=by
 cases n with
 |zero=>rfl
 |succ n=>simp;omega
def Xy (T:Nat->Option (Nat×Nat)) (st:Option (Nat×Nat)) (k:Int):Option (Nat×Nat):=
 match st with
 |none=>none
 |some (b,h)=>if b≠0/\k=(b:Int)-1 then (T (b-1)).map (fun p=>(p.1,max h p.2)) else none
def tree (K:Nat->List Int):Nat->Nat->Option (Nat×Nat)
 |0,_=>none
 |f+1,n=>((K n).reverse.foldl (Xy (tree K f)) (some (n,0))).map fun p=>(p.1,p.2+1)
theorem Ug (T:Nat->Option (Nat×Nat)) (l:List Int):l.foldl (Xy T) none=none:=by
 induction l with
 |nil=>rfl
 |cons k l ih=>exact ih
theorem Xwu {T:Nat->Option (Nat×Nat)} {b h:Nat} {k:Int} {q:Nat×Nat} (e:Xy T (some (b,h)) k=some q):
  b≠0/\k=(b:Int)-1/\∃p,T (b-1)=some p/\q=(p.1,max h p.2):=by
 unfold Xy at e
 simp only at e
 split at e
 ·rename_i hc
  cases ht:T (b-1) with
  |none=>simp[ht] at e
  |some p=>simp[ht] at e;exact ⟨hc.1,hc.2,p,rfl,e.symm⟩
 ·cases e
theorem Qa {T:Nat->Option (Nat×Nat)} {b h:Nat} {k:Int} {l:List Int} {q:Nat×Nat} (e:(k::l).foldl (Xy T) (some (b,h))=some q):
  ∃p,b≠0/\k=(b:Int)-1/\T (b-1)=some p/\l.foldl (Xy T) (some (p.1,max h p.2))=some q:=by
 rw[List.foldl_cons] at e
 cases hs:Xy T (some (b,h)) k with
 |none=>rw[hs,Ug] at e;cases e
 |some r=>
  obtain ⟨c,d,p,f,rfl⟩:=Xwu hs
  exact ⟨p,c,d,f,by rw[hs] at e;exact e⟩
theorem Xjz {T:Nat->Option (Nat×Nat)} (hT:∀m p,T m=some p->p.1<=m):∀(l:List Int) (b h:Nat) (q:Nat×Nat),l.foldl (Xy T) (some (b,h))=some q->q.1<=b:=by
 intro l
 induction l with
 |nil=>intro b h q e;simp at e;rw[<-e];exact Nat.le_refl _
 |cons k l ih=>
  intro b h q e
  obtain ⟨p,f,_,c,d⟩:=Qa e
  have:=ih _ _ _ d
  have:=hT _ _ c
  omega
theorem Xj0 (K:Nat->List Int):∀(f n:Nat) (p:Nat×Nat),tree K f n=some p->p.1<=n:=by
 intro f
 induction f with
 |zero=>intro n p e;cases e
 |succ f ih=>
  intro n p e
  rw[tree] at e
  cases hf:(K n).reverse.foldl (Xy (tree K f)) (some (n,0)) with
  |none=>simp[hf] at e
  |some q=>
   simp[hf] at e
   have:=Xjz ih _ _ _ _ hf
   rw[<-e]
   exact this
theorem Xdt {T T':Nat->Option (Nat×Nat)} (N:Nat) (hT:∀m p,T m=some p->p.1<=m) (he:∀m,m<N->T m=T' m):∀(l:List Int) (b h:Nat),b<=N->l.foldl (Xy T) (some (b,h))=l.foldl (Xy T') (some (b,h)):=by
 intro l
 induction l with
 |nil=>intro b h _;rfl
 |cons k l ih=>
  intro b h d
  rw[List.foldl_cons,List.foldl_cons]
  by_cases hc:b≠0/\k=(b:Int)-1
  ·have c:T (b-1)=T' (b-1):=he _ (by omega)
   cases ht:T (b-1) with
   |none=>
    rw[show Xy T (some (b,h)) k=none by simp[Xy,hc,ht],show Xy T' (some (b,h)) k=none by simp[Xy,hc,<-c,ht],Ug,Ug]
   |some p=>
    rw[show Xy T (some (b,h)) k=some (p.1,max h p.2) by simp only[Xy];rw[if_pos hc,ht];rfl,show Xy T' (some (b,h)) k=some (p.1,max h p.2) by simp only[Xy];rw[if_pos hc,<-c,ht];rfl]
    have:=hT _ _ ht
    exact ih _ _ (by omega)
  ·rw[show Xy T (some (b,h)) k=none by simp only[Xy];rw[if_neg hc],show Xy T' (some (b,h)) k=none by simp only[Xy];rw[if_neg hc],Ug,Ug]
theorem Xwv (K:Nat->List Int):∀(N n f g:Nat),n<N->n<f->n<g->tree K f n=tree K g n:=by
 intro N
 induction N with
 |zero=>intro n f g h;omega
 |succ N ih=>
  intro n f g b c d
  match f,g with
  |0,_=>omega
  |_+1,0=>omega
  |f+1,g+1=>
   rw[tree,tree]
   rw[Xdt n (Xj0 K f) (fun m hm=>ih m f g (by omega) (by omega) (by omega)) _ _ _ (Nat.le_refl _)]
def tr (K:Nat->List Int) (n:Nat):Option (Nat×Nat):=tree K (n+1) n
theorem Ko {K:Nat->List Int} {n:Nat} {p:Nat×Nat} (h:tr K n=some p):p.1<=n:=Xj0 K _ _ _ h
theorem Gy (K:Nat->List Int) (n:Nat):tr K n=((K n).reverse.foldl (Xy (tr K)) (some (n,0))).map fun p=>(p.1,p.2+1):=by
 rw[tr,tree]
 rw[Xdt n (Xj0 K n) (fun m hm=>Xwv K (n+1) m n (m+1) (by omega) (by omega) (by omega)) _ _ _ (Nat.le_refl _)]
 rfl
theorem Xww {T:Nat->Option (Nat×Nat)} (hT:∀m p,T m=some p->p.1<=m/\p.2<=m+1):∀(l:List Int) (b h:Nat) (q:Nat×Nat) (N:Nat),b<=N->h<=N->l.foldl (Xy T) (some (b,h))=some q->q.2<=N:=by
 intro l
 induction l with
 |nil=>intro b h q N d c e;simp at e;rw[<-e];exact c
 |cons k l ih=>
  intro b h q N d c e
  obtain ⟨p,j,_,f,g⟩:=Qa e
  have:=hT _ _ f
  exact ih _ _ _ N (by omega) (by omega) g
theorem Xj1 {K:Nat->List Int}:∀(n:Nat) (p:Nat×Nat),tr K n=some p->p.1<=n/\p.2<=n+1:=by
 intro n
 induction n using Nat.strongRecOn with
 |ind n ih=>
  intro p e
  refine ⟨Ko e, ?_⟩
  rw[Gy] at e
  have b:(K n).reverse.foldl (Xy (tr K)) (some (n,0))=(K n).reverse.foldl (Xy fun m=>if m<n then tr K m else none) (some (n,0)):=
   Xdt n (fun m p hp=>Ko hp) (fun m hm=>by rw[if_pos hm]) _ _ _ (Nat.le_refl _)
  rw[b] at e
  cases hf:(K n).reverse.foldl (Xy fun m=>if m<n then tr K m else none) (some (n,0)) with
  |none=>simp[hf] at e
  |some q=>
   rw[hf] at e
   simp at e
   have:=Xww (T:=fun m=>if m<n then tr K m else none) (fun m p hp=>by
    by_cases hm:m<n
    ·simp only[if_pos hm] at hp;exact ih m hm p hp
    ·simp only[if_neg hm] at hp;cases hp) _ _ _ _ n (Nat.le_refl _) (Nat.zero_le _) hf
   rw[<-e]
   simp only
   omega
theorem Xwx {T:Nat->Option (Nat×Nat)} (hT:∀m p,T m=some p->p.1<=m):∀(l:List Int) (b h:Nat) (q:Nat×Nat),l.foldl (Xy T) (some (b,h))=some q->∀m,q.1<=m->m<b->∃c p,T c=some p/\c<b/\p.1<=m/\m<=c:=by
 intro l
 induction l with
 |nil=>intro b h q e m d g;simp at e;rw[<-e] at d;simp only at d;omega
 |cons k l ih=>
  intro b h q e m d g
  obtain ⟨p,z,_,f,j⟩:=Qa e
  by_cases hm:p.1<=m
  ·exact ⟨b-1,p,f,by omega,hm,by omega⟩
  ·obtain ⟨c,o,s,B,t,y⟩:=ih _ _ _ j m d (by omega)
   have:=hT _ _ f
   exact ⟨c,o,s,by omega,t,y⟩
theorem Xj2 {K:Nat->List Int}:∀(n:Nat) (p:Nat×Nat),tr K n=some p->∀m,p.1<=m->m<=n->∃q,tr K m=some q:=by
 intro n
 induction n using Nat.strongRecOn with
 |ind n ih=>
  intro p e m b o
  by_cases hm:m=n
  ·exact ⟨p,hm▸e⟩
  rw[Gy] at e
  cases hf:(K n).reverse.foldl (Xy (tr K)) (some (n,0)) with
  |none=>simp[hf] at e
  |some q=>
   rw[hf] at e
   simp at e
   rw[<-e] at b
   obtain ⟨c,d,f,g,j,l⟩:=Xwx (fun m p hp=>Ko hp) _ _ _ _ hf m b (by omega)
   exact ih c g d f m j l
theorem Xwy {T:Nat->Option (Nat×Nat)} (hT:∀m p,T m=some p->p.1<=m):∀(l:List Int) (b h:Nat) (q:Nat×Nat),l.foldl (Xy T) (some (b,h))=some q->∀k∈l,0<=k/\k<=(b:Int)-1:=by
 intro l
 induction l with
 |nil=>intro b h q e k c;cases c
 |cons x l ih=>
  intro b h q e k c
  obtain ⟨p,g,j,d,f⟩:=Qa e
  have:=hT _ _ d
  rcases List.mem_cons.1 c with rfl|c
  ·omega
  ·have:=ih _ _ _ f k c
   omega
theorem Xsh {K:Nat->List Int} {n:Nat} {p:Nat×Nat} (e:tr K n=some p):∀k∈K n,0<=k/\k<=(n:Int)-1:=by
 rw[Gy] at e
 cases hf:(K n).reverse.foldl (Xy (tr K)) (some (n,0)) with
 |none=>simp[hf] at e
 |some q=>exact fun k hk=>Xwy (fun m p hp=>Ko hp) _ _ _ _ hf k (by simpa using hk)
def Xb (vs:List VN) (i:Nat):VN:=vs.getD i VN.zero
def Yc (vs:List VN) (i:Nat):List Int:=(Xb vs i).kids
def Z5 (vs:List VN) (i:Nat):Bool:=(Yc vs i).all fun k=>decide (0<=k)&&decide (k<=(i:Int)-1)
def Jo (vs:List VN):Bool:=match tr (Yc vs) (vs.length-1) with
 |some p=>decide (p.1=0)&&decide (p.2<=8)
 |none=>false
def Gz (vs:List VN):Bool:=decide (1<=vs.length)&&decide (vs.length<=80)
def okB (vs:List VN):Bool:=Gz vs&&((List.range vs.length).all fun i=>Xz (Xb vs i)&&Z5 vs i)&&Jo vs
def Xe4 (vs:List VN):Bool:=Gz vs&&((List.range vs.length).all fun i=>Xz (Xb vs i))&&(((List.range vs.length).all fun i=>(tr (Yc vs) i).isSome)&&Jo vs)
theorem Xil (vs:List VN):Xe4 vs=okB vs:=by
 rw[Bool.eq_iff_iff]
 unfold Xe4 okB
 simp only[Bool.and_eq_true,List.all_eq_true,List.mem_range]
 constructor
 ·rintro ⟨⟨c,d⟩,b,f⟩
  refine ⟨⟨c,fun i hi=>⟨d i hi, ?_⟩⟩,f⟩
  obtain ⟨p,g⟩:=Option.isSome_iff_exists.1 (b i hi)
  unfold Z5
  simp only[List.all_eq_true,Bool.and_eq_true,decide_eq_true_eq]
  exact Xsh g
 ·rintro ⟨⟨c,d⟩,b⟩
  refine ⟨⟨c,fun i hi=>(d i hi).1⟩,fun i hi=> ?_,b⟩
  unfold Jo at b
  cases hr:tr (Yc vs) (vs.length-1) with
  |none=>rw[hr] at b;cases b
  |some p=>
   rw[hr] at b
   simp at b
   obtain ⟨q,j⟩:=Xj2 _ _ hr i (by omega) (by omega)
   rw[j]
   rfl


def Xj (l:List Int) (i:Nat):Int:=l.getD i 0
def IntsAt (B:Nat) (w:World) (v:Value) (l:List Int):Prop:=
 l.length<=17592186044416/\(∀i,i<l.length->-9223372036854775808<=Xj l i/\Xj l i<=9223372036854775807)/\
 ∃a cap,v= .slice a l.length cap/\(0<l.length->∃b o,a=some ⟨b,o,none⟩/\b<B/\∀i,i<l.length->w.cell? ⟨b,o+i,none⟩=some (.int .i64 (Xj l i)))
def StrsAt (B:Nat) (w:World) (v:Value) (l:List ByteArray):Prop:=
 l.length<=8796093022208/\(∀i,i<l.length->(Xf l i).size<=140737488355328)/\
 ∃a cap,v= .slice a l.length cap/\(0<l.length->∃b o,a=some ⟨b,o,none⟩/\b<B/\∀i,i<l.length->w.cell? ⟨b,o+i,none⟩=some (.string (Xf l i)))
structure NodeIn (B:Nat) (w:World) (x:VN) (ka ki:Value):Prop where
 keys:StrsAt B w ka x.keys
 kids:IntsAt B w ki x.kids
 size:x.s.size<=140737488355328
 klo: -9223372036854775808<=x.kind
 khi:x.kind<=9223372036854775807
 nlo: -9223372036854775808<=x.n
 nhi:x.n<=9223372036854775807
structure NodeAt (B:Nat) (w:World) (b o:Nat) (x:VN) (ka ki:Value):Prop where
 c0:w.cell? ⟨b,o,none⟩=some (.int .i64 x.kind)
 c1:w.cell? ⟨b,o+1,none⟩=some (.int .i64 x.n)
 c2:w.cell? ⟨b,o+2,none⟩=some (.string x.s)
 c3:w.cell? ⟨b,o+3,none⟩=some ka
 c4:w.cell? ⟨b,o+4,none⟩=some ki
 inn:NodeIn B w x ka ki
def NodesAt (B:Nat) (w:World) (v:Value) (vs:List VN):Prop:=
 vs.length<=1759218604416/\∃a cap,v= .slice a vs.length cap/\(0<vs.length->∃b o,a=some ⟨b,o,none⟩/\b<B/\∀i,i<vs.length->∃ka ki,NodeAt B w b (o+i *5) (Xb vs i) ka ki)
theorem Xc {B:Nat} {w w':World} (h:Below B w w') {b o:Nat} (hb:b<B):w'.cell? ⟨b,o,none⟩=w.cell? ⟨b,o,none⟩:=h.cell (p:=⟨b,o,none⟩) hb
theorem IntsAt.below {B:Nat} {w w':World} {v:Value} {l:List Int} (h:IntsAt B w v l) (hb:Below B w w'):IntsAt B w' v l:=by
 obtain ⟨f,g,a,d,e,j⟩:=h
 refine ⟨f,g,a,d,e,fun hl=> ?_⟩
 obtain ⟨b,o,p,c,q⟩:=j hl
 exact ⟨b,o,p,c,fun i hi=>(Xc hb c).trans (q i hi)⟩
theorem StrsAt.below {B:Nat} {w w':World} {v:Value} {l:List ByteArray} (h:StrsAt B w v l) (hb:Below B w w'):StrsAt B w' v l:=by
 obtain ⟨f,g,a,d,e,j⟩:=h
 refine ⟨f,g,a,d,e,fun hl=> ?_⟩
 obtain ⟨b,o,p,c,q⟩:=j hl
 exact ⟨b,o,p,c,fun i hi=>(Xc hb c).trans (q i hi)⟩
theorem NodeIn.below {B:Nat} {w w':World} {x:VN} {ka ki:Value} (h:NodeIn B w x ka ki) (hb:Below B w w'):NodeIn B w' x ka ki:=
 {h with keys:=h.keys.below hb,kids:=h.kids.below hb}
theorem NodeAt.below {B:Nat} {w w':World} {b o:Nat} {x:VN} {ka ki:Value} (h:NodeAt B w b o x ka ki) (hb:Below B w w') (hB:b<B):NodeAt B w' b o x ka ki:=
 ⟨(Xc hb hB).trans h.c0,(Xc hb hB).trans h.c1,(Xc hb hB).trans h.c2,(Xc hb hB).trans h.c3,(Xc hb hB).trans h.c4,h.inn.below hb⟩
theorem NodesAt.below {B:Nat} {w w':World} {v:Value} {vs:List VN} (h:NodesAt B w v vs) (hb:Below B w w'):NodesAt B w' v vs:=by
 obtain ⟨f,a,d,e,g⟩:=h
 refine ⟨f,a,d,e,fun hl=> ?_⟩
 obtain ⟨b,o,j,c,l⟩:=g hl
 refine ⟨b,o,j,c,fun i hi=> ?_⟩
 obtain ⟨p,q,s⟩:=l i hi
 exact ⟨p,q,s.below hb c⟩
theorem IntsAt.wide {B B':Nat} {w:World} {v:Value} {l:List Int} (h:IntsAt B w v l) (hb:B<=B'):IntsAt B' w v l:=by
 obtain ⟨d,f,a,c,e,g⟩:=h
 refine ⟨d,f,a,c,e,fun hl=> ?_⟩
 obtain ⟨b,o,j,p,q⟩:=g hl
 exact ⟨b,o,j,by omega,q⟩
theorem StrsAt.wide {B B':Nat} {w:World} {v:Value} {l:List ByteArray} (h:StrsAt B w v l) (hb:B<=B'):StrsAt B' w v l:=by
 obtain ⟨d,f,a,c,e,g⟩:=h
 refine ⟨d,f,a,c,e,fun hl=> ?_⟩
 obtain ⟨b,o,j,p,q⟩:=g hl
 exact ⟨b,o,j,by omega,q⟩
theorem NodeIn.wide {B B':Nat} {w:World} {x:VN} {ka ki:Value} (h:NodeIn B w x ka ki) (hb:B<=B'):NodeIn B' w x ka ki:=
 {h with keys:=h.keys.wide hb,kids:=h.kids.wide hb}
theorem NodeAt.wide {B B':Nat} {w:World} {b o:Nat} {x:VN} {ka ki:Value} (h:NodeAt B w b o x ka ki) (hb:B<=B'):NodeAt B' w b o x ka ki:=
 ⟨h.c0,h.c1,h.c2,h.c3,h.c4,h.inn.wide hb⟩
theorem NodesAt.wide {B B':Nat} {w:World} {v:Value} {vs:List VN} (h:NodesAt B w v vs) (hb:B<=B'):NodesAt B' w v vs:=by
 obtain ⟨d,a,c,e,f⟩:=h
 refine ⟨d,a,c,e,fun hl=> ?_⟩
 obtain ⟨b,o,g,j,l⟩:=f hl
 refine ⟨b,o,g,by omega,fun i hi=> ?_⟩
 obtain ⟨p,q,s⟩:=l i hi
 exact ⟨p,q,s.wide hb⟩
structure Fits (x:VN):Prop where
 keysN:x.keys.length<=8796093022208
 keysS:∀i,i<x.keys.length->(Xf x.keys i).size<=140737488355328
 kidsN:x.kids.length<=17592186044416
 kidsB:∀i,i<x.kids.length->-9223372036854775808<=Xj x.kids i/\Xj x.kids i<=9223372036854775807
 size:x.s.size<=140737488355328
 klo: -9223372036854775808<=x.kind
 khi:x.kind<=9223372036854775807
 nlo: -9223372036854775808<=x.n
 nhi:x.n<=9223372036854775807
theorem NodeIn.fits {B:Nat} {w:World} {x:VN} {ka ki:Value} (h:NodeIn B w x ka ki):Fits x:=
 ⟨h.keys.1,h.keys.2.1,h.kids.1,h.kids.2.1,h.size,h.klo,h.khi,h.nlo,h.nhi⟩
theorem NodesAt.fits {B:Nat} {w:World} {v:Value} {vs:List VN} (h:NodesAt B w v vs):∀i,i<vs.length->Fits (Xb vs i):=by
 obtain ⟨p,a,c,e,d⟩:=h
 intro i f
 obtain ⟨b,o,q,g,j⟩:=d (by omega)
 obtain ⟨s,t,l⟩:=j i f
 exact l.inn.fits
theorem W9 {B:Nat} {w w':World} (h1:w'.os=w.os) (h2:w'.tape=w.tape) (h3:w'.output=w.output) (h4:w'.heap=w.heap):Below B w w':=
 ⟨h1,h2,h3,by rw[h4];exact Nat.le_refl _,fun k _=>by rw[h4]⟩
theorem Xa {p:Prop} (h:p):Hid p:=h
theorem Yl {k:IntKind} {a b:Int} (h:a=b):Ending.returned (.int k a)= .returned (.int k b):=by rw[h]
theorem Xi {a b:Bool} (h:a=b):Ending.returned (.bool a)= .returned (.bool b):=by rw[h]


def X5 (d:Int) (x:VN):VN:={x with kids:=x.kids.map (· +d)}
def run (vs:List VN) (d:Int) (a n:Nat):List VN:=(List.range' a n).map fun j=>X5 d (Xb vs j)
theorem K6 (vs:List VN) (d:Int) (a n:Nat):(run vs d a n).length=n:=by simp[run]
theorem Xc7 (vs:List VN) (d:Int) (a m n:Nat):run vs d a m++run vs d (a+m) n=run vs d a (m+n):=by
 unfold run
 rw[<-List.map_append]
 congr 1
 have:=List.range'_append (s:=a) (m:=m) (n:=n) (step:=1)
 simp
def Xhy (T:Nat->Option (Nat×Nat)):List Int->Nat->Nat->Prop
 |[],lo,hi=>lo=hi
 |k::r,lo,hi=>∃c h:Nat,k=(c:Int)/\T c=some (lo,h)/\Xhy T r (c+1) hi
theorem Xy5 {T:Nat->Option (Nat×Nat)}:∀(l:List Int) (hi h lo h':Nat),l.reverse.foldl (Xy T) (some (hi,h))=some (lo,h')->Xhy T l lo hi:=by
 intro l
 induction l with
 |nil=>intro hi h lo h' e;simp at e;exact e.1.symm
 |cons k r ih=>
  intro hi h lo h' e
  rw[List.reverse_cons,List.foldl_append] at e
  cases hr:r.reverse.foldl (Xy T) (some (hi,h)) with
  |none=>rw[hr] at e;simp[Xy] at e
  |some q=>
   obtain ⟨b,g⟩:=q
   rw[hr] at e
   obtain ⟨p,f,j,d,c⟩:=Qa e
   simp at c
   refine ⟨b-1,p.2,by omega, ?_, ?_⟩
   ·rw[d,<-c.1]
   ·rw[show b-1+1=b by omega];exact ih hi h b g hr
theorem Xy6 {T:Nat->Option (Nat×Nat)} (hT:∀c p,T c=some p->p.1<=c):∀(l:List Int) (lo hi:Nat),Xhy T l lo hi->lo<=hi:=by
 intro l
 induction l with
 |nil=>intro lo hi e;exact Nat.le_of_eq e
 |cons k r ih=>
  rintro lo hi ⟨c,h,_,b,d⟩
  have:=hT c _ b
  have:=ih _ _ d
  simp at *
  omega
def V8 (F:Nat->Nat->List VN) (sh:Nat):List Int->List VN->List Int->List VN×List Int
 |[],acc,ks=>(acc,ks)
 |k::r,acc,ks=>V8 F sh r (acc++F k.toNat (sh+acc.length)) (ks++ [((sh+(acc++F k.toNat (sh+acc.length)).length:Nat):Int)-1])
def lay (vs:List VN):Nat->Nat->Nat->List VN
 |0,_,_=> []
 |f+1,i,sh=>
  let p:=V8 (lay vs f) sh (Xb vs i).kids [] []
  p.1++ [{Xb vs i with kids:=p.2}]
theorem Xqf {vs:List VN} {F:Nat->Nat->List VN} {T:Nat->Option (Nat×Nat)} (hT:∀c p,T c=some p->p.1<=c) {sh a:Nat}:∀(l:List Int) (lo hi:Nat) (ks:List Int),a<=lo->Xhy T l lo hi->
  (∀(c lo h s:Nat),(c:Int)∈l->T c=some (lo,h)->F c s=run vs ((s:Int)-lo) lo (c+1-lo))->
  V8 F sh l (run vs ((sh:Int)-a) a (lo-a)) ks=(run vs ((sh:Int)-a) a (hi-a),ks++l.map (· +((sh:Int)-a))):=by
 intro l
 induction l with
 |nil=>intro lo hi ks d o f;obtain rfl:lo=hi:=o;simp[V8]
 |cons k r ih=>
  rintro lo hi ks d ⟨c,h,rfl,j,q⟩ f
  have t:=hT c _ j
  simp at t
  have g:=f c lo h (sh+(lo-a)) (by simp) j
  rw[V8,K6,Int.toNat_natCast,g]
  rw[show (((sh+(lo-a):Nat):Int)-lo)=(sh:Int)-a by omega]
  have b:run vs ((sh:Int)-a) a (lo-a)++run vs ((sh:Int)-a) lo (c+1-lo)=run vs ((sh:Int)-a) a (c+1-a):=by
   have:=Xc7 vs ((sh:Int)-a) a (lo-a) (c+1-lo)
   rw[show a+(lo-a)=lo by omega,show lo-a+(c+1-lo)=c+1-a by omega] at this
   exact this
  rw[b,K6,ih (c+1) hi _ (by omega) q (fun c' lo' h' s hm=>f c' lo' h' s (List.mem_cons_of_mem _ hm))]
  rw[show (((sh+(c+1-a):Nat):Int)-1)=(c:Int)+((sh:Int)-a) by omega]
  simp
theorem Xa7 (vs:List VN):∀(f i sh a h:Nat),i<f->tr (Yc vs) i=some (a,h)->lay vs f i sh=run vs ((sh:Int)-a) a (i+1-a):=by
 intro f
 induction f with
 |zero=>intro i sh a h d;omega
 |succ f ih=>
  intro i sh a h d e
  have y:=Ko e
  simp at y
  rw[Gy] at e
  cases hf:(Yc vs i).reverse.foldl (Xy (tr (Yc vs))) (some (i,0)) with
  |none=>rw[hf] at e;simp at e
  |some q=>
   obtain ⟨b,L⟩:=q
   rw[hf] at e
   simp at e
   obtain ⟨rfl,_⟩:=e
   have B:=Xy5 _ _ _ _ _ hf
   have j:∀(l:List Int) (o d:Nat),Xhy (tr (Yc vs)) l o d->∀c:Nat,(c:Int)∈l->c<d:=by
    intro l
    induction l with
    |nil=>intro o d _ c t;cases t
    |cons k r ihr=>
     rintro o d ⟨M,D,rfl,_,C⟩ c t
     have G:=Xy6 (fun m p hp=>Ko hp) _ _ _ C
     rcases List.mem_cons.1 t with e|e
     ·omega
     ·exact ihr _ _ C c e
   have z:=Xqf (vs:=vs) (F:=lay vs f) (fun m p hp=>Ko hp) (sh:=sh) (a:=b) (Yc vs i) b i [] (Nat.le_refl _) B (fun c o g s hm t=>ih c s o g (by have:=j _ _ _ B c hm;omega) t)
   rw[show b-b=0 by omega] at z
   have J:run vs ((sh:Int)-b) b 0= []:=rfl
   rw[J] at z
   rw[lay]
   show (V8 (lay vs f) sh (Yc vs i) [] []).1++ [{Xb vs i with kids:=(V8 (lay vs f) sh (Yc vs i) [] []).2}]=_
   rw[z]
   have:=Xc7 vs ((sh:Int)-b) b (i-b) 1
   rw[show b+(i-b)=i by omega,show i-b+1=i+1-b by omega] at this
   rw[<-this]
   simp[run,X5,Yc]


theorem Xe0 {ops:Array Oper} {L:Array Bool} {i:Nat} (h:i∈Region.ready .any ops L):
  i<ops.size/\L.getD i true=false/\∀o,ops[i]? =some o->∀e∈o.after,Region.binds .any e=true->L.getD e.on false=true:=by
 unfold Region.ready at h
 rw[List.mem_filter,List.mem_range] at h
 obtain ⟨d,b⟩:=h
 rw[Bool.and_eq_true] at b
 obtain ⟨b,c⟩:=b
 refine ⟨d,by simpa using b,fun o ho e he hb=> ?_⟩
 rw[ho] at c
 simp only[Option.map_some,Option.getD_some,Array.all_eq_true_iff_forall_mem] at c
 have:=c e he
 rw[hb] at this
 simpa using this
theorem Xe1 {ops:Array Oper} {L:Array Bool} {i:Nat} {o:Oper} (h1:L.getD i true=false) (ho:ops[i]? =some o) (h:∀e∈o.after,L.getD e.on false=true):i∈Region.ready .any ops L:=by
 unfold Region.ready
 rw[List.mem_filter,List.mem_range]
 refine ⟨(Array.getElem?_eq_some_iff.1 ho).1, ?_⟩
 rw[Bool.and_eq_true,ho]
 refine ⟨by simp[h1], ?_⟩
 simp only[Option.map_some,Option.getD_some,Array.all_eq_true_iff_forall_mem]
 intro e b
 simp[h e b]
def J3 (s0 N:Nat) (val:Nat->Value) (L:Array Bool) (a:Act):Act:=
 {a with tmps:=a.tmps.mapIdx fun t v=>if s0<=t/\t<s0+N/\L.getD (t-s0) false=true then val (t-s0) else v}
theorem Xz4 {s0 N:Nat} {val:Nat->Value} {L:Array Bool} {a:Act} {i:Nat} (hi:i<N) (hL:i<L.size):
  (J3 s0 N val L a).put (some (s0+i)) (val i)=J3 s0 N val (L.setIfInBounds i true) a:=by
 unfold J3 Act.put
 simp only[Act.mk.injEq,and_true]
 apply Array.ext_getElem?
 intro t
 rw[Array.getElem?_setIfInBounds]
 by_cases e:s0+i=t
 ·subst e
  by_cases hb:s0+i<a.tmps.size
  ·simp[hb,hi,Array.getD,hL]
  ·simp[hb]
 ·rw[if_neg e]
  simp only[Array.getElem?_mapIdx]
  congr 1
  funext v
  by_cases h:s0<=t/\t<s0+N
  ·have:(L.setIfInBounds i true).getD (t-s0) false=L.getD (t-s0) false:=by
    simp only[Array.getD_eq_getD_getElem?,Array.getElem?_setIfInBounds]
    rw[if_neg (by omega)]
   simp only[this]
  ·rw[if_neg (by omega),if_neg (by omega)]
theorem Xse {s0 N:Nat} {val:Nat->Value} {L:Array Bool} {a:Act} {t:Nat} (h1:s0<=t) (h2:t<s0+N) (h3:t<a.tmps.size) (hl:L.getD (t-s0) false=true):
  (J3 s0 N val L a).eval (.tmp t)=val (t-s0):=by
 simp only[J3,Act.eval,Array.getD_eq_getD_getElem?,Array.getElem?_mapIdx]
 rw[Array.getElem?_eq_getElem h3]
 simp only[Option.map_some,Option.getD_some]
 rw[if_pos ⟨h1,h2,by simpa [Array.getD_eq_getD_getElem?] using hl⟩]
theorem Xns {s0 N:Nat} {val:Nat->Value} {L:Array Bool} {a:Act} {t:Nat} (h:t<s0):(J3 s0 N val L a).eval (.tmp t)=a.eval (.tmp t):=by
 simp only[J3,Act.eval,Array.getD_eq_getD_getElem?,Array.getElem?_mapIdx]
 congr 1
 cases a.tmps[t]? with
 |none=>rfl
 |some v=>simp only[Option.map_some];rw[if_neg (by omega)]
theorem Xwi {s0 N:Nat} {val:Nat->Value} {L:Array Bool} {a:Act} (h:∀j,j<N->L.getD j false=false):J3 s0 N val L a=a:=by
 unfold J3
 cases a with
 |mk tmps defers=>
  simp only[Act.mk.injEq,and_true]
  apply Array.ext_getElem?
  intro t
  rw[Array.getElem?_mapIdx]
  cases tmps[t]? with
  |none=>rfl
  |some v=>
   simp only[Option.map_some]
   by_cases g:s0<=t/\t<s0+N
   ·rw[if_neg (fun e=>by rw[h _ (by omega)] at e;cases e.2.2)]
   ·rw[if_neg (fun e=>g ⟨e.1,e.2.1⟩)]
def left (N:Nat) (L:Array Bool):Nat:=((List.range N).filter fun i=> !L.getD i false).length
theorem X2x {N i:Nat} {L:Array Bool} (hi:i<N) (hL:i<L.size) (h:L.getD i false=false):left N (L.setIfInBounds i true)<left N L:=by
 unfold left
 have e:(List.range N).filter (fun j=> !(L.setIfInBounds i true).getD j false)=((List.range N).filter fun j=> !L.getD j false).filter (fun j=>decide (j≠i)):=by
  rw[List.filter_filter]
  apply List.filter_congr
  intro j _
  simp only[Array.getD_eq_getD_getElem?,Array.getElem?_setIfInBounds]
  by_cases e:i=j
  ·subst e;simp[hL]
  ·rw[if_neg e]
   have:decide (j≠i)=true:=by simp;omega
   rw[this,Bool.true_and]
 rw[e]
 apply List.length_filter_lt_length_iff_exists.2
 exact ⟨i,by rw[List.mem_filter];exact ⟨List.mem_range.2 hi,by simp[h]⟩,by simp⟩
theorem Ke {L:Array Bool} {i:Nat} (h:i<L.size):L.getD i true=L.getD i false:=by simp[Array.getD,h]
theorem X40 {N:Nat} {L:Array Bool}:∀m,m<=N->(∀j,j<m->L.getD j false=true)\/∃i,i<m/\L.getD i false=false/\∀j,j<i->L.getD j false=true:=by
 intro m
 induction m with
 |zero=>intro _;left;intro j h;omega
 |succ m ih =>
  intro b
  rcases ih (by omega) with h|⟨i,h1,h2,h3⟩
  ·cases hl : L.getD m false with
   |true => left; intro j c; by_cases e : j = m
            ·subst e;exact hl
            ·exact h j (by omega)
   |false=>right;exact ⟨m,by omega,hl,h⟩
  ·right;exact ⟨i,by omega,h2,h3⟩
theorem phase {F:Fence} {n:Nat} {P:Program} {ops:Array Oper} {Q:Exit->Act->World->Prop} {s0 N:Nat} {val:Nat->Value} {a:Act} {W:World} (hsz:ops.size=N+2)
  (hd : ∀ i, i < N -> ∃ o, ops[i]? = some o /\ o.dst = some (s0 + i) /\ o.guard = none /\ (∀ c, o.op ≠ .defer c) /\ (∀ e ∈ o.after, e.on < i /\ Region.binds .any e = true) /\
   ∀L:Array Bool,(∀e∈o.after,L.getD e.on false=true)->(execOp (J3 s0 N val L a).eval o).run P W= .ok (.value (val i)) W/\o.about P W (J3 s0 N val L a).eval=none)
  (hN:∃o,ops[N]? =some o/\(∀e∈o.after,e.on<N)/\∀j,j<N->∃e∈o.after,e.on=j/\Region.binds .any e=true)
  (hN1:∃o,ops[N+1]? =some o/\∃e∈o.after,e.on=N/\Region.binds .any e=true)
  (tail:∀fuel (L:Array Bool),L.size=N+2->(∀j,j<N->L.getD j false=true)->L.getD N true=false->L.getD (N+1) true=false->wpOpIn F n P ops Q N (wpAnyIn F n P .any ops Q (fuel+1) (L.setIfInBounds N true)) (J3 s0 N val L a) W):
  ∀fuel (L:Array Bool),L.size=N+2->L.getD N true=false->L.getD (N+1) true=false->left N L+2<=fuel->wpAnyIn F n P .any ops Q fuel L (J3 s0 N val L a) W:=by
 intro fuel
 induction fuel with
 |zero=>intro L _ _ _ h;omega
 |succ fuel ih=>
  intro L S y T z
  rw[wpAnyIn]
  constructor
  ·intro V
   exfalso
   rcases X40 (L:=L) (N:=N) N (Nat.le_refl _) with b|⟨i,B,J,t⟩
   ·obtain ⟨o,g,p,_⟩:=hN
    have:=Xe1 (L:=L) y g (fun e l=>b _ (p e l))
    rw[V] at this
    cases this
   ·obtain ⟨o,g,_,_,_,p,_⟩:=hd i B
    have:=Xe1 (L:=L) (by rw[Ke (by omega)];exact J) g (fun e l=>t _ (p e l).1)
    rw[V] at this
    cases this
  ·intro i B
   obtain ⟨X,C,d⟩:=Xe0 B
   by_cases hiN:i<N
   ·obtain ⟨o,g,q,Y,D,p,s⟩:=hd i hiN
    have b:∀e∈o.after,L.getD e.on false=true:=fun e l=>d o g e l (p e l).2
    obtain ⟨Z,G⟩:=s L b
    unfold wpOpIn
    rw[g]
    simp only
    rw[show Region.wanted o (yielded ops (J3 s0 N val L a).tmps)=true by unfold Region.wanted;rw[Y]]
    simp only[if_true]
    unfold Oper.wpIn
    rw[Oper.semAt_eq _ _ _ D,Z,Oper.uponIn_value,q,Xz4 hiN (by omega)]
    refine ⟨fun f z=>(by rw[G] at z;cases z), ?_⟩
    have J:L.getD i false=false:=by rw[<-Ke (by omega)];exact C
    have t:=X2x hiN (by omega:i<L.size) J
    refine ih (L.setIfInBounds i true) (by simpa using S) ?_ ?_ (by omega)
    ·simp only[Array.getD_eq_getD_getElem?,Array.getElem?_setIfInBounds]
     rw[if_neg (by omega)]
     simpa [Array.getD_eq_getD_getElem?] using y
    ·simp only[Array.getD_eq_getD_getElem?,Array.getElem?_setIfInBounds]
     rw[if_neg (by omega)]
     simpa [Array.getD_eq_getD_getElem?] using T
   ·by_cases hiE:i=N
    ·subst hiE
     obtain ⟨o,g,p,b⟩:=hN
     obtain ⟨m,rfl⟩:∃m,fuel=m+1:=⟨fuel-1,by omega⟩
     refine tail m L S (fun j hj=> ?_) y T
     obtain ⟨e,l,rfl,M⟩:=b j hj
     exact d o g e l M
    ·exfalso
     obtain rfl:i=N+1:=by omega
     obtain ⟨o,g,e,l,R,M⟩:=hN1
     have:=d o g e l M
     rw[R,<-Ke (by omega),y] at this
     cases this
theorem Xq0 {F:Fence} {n:Nat} {P:Program} {ops:Array Oper} {Q:Exit->Act->World->Prop} {s0 N:Nat} {val:Nat->Value} {vN:Value} {a:Act} {W W':World} (hsz:ops.size=N+2) (hta:s0+N<a.tmps.size)
  (hd : ∀ i, i < N -> ∃ o, ops[i]? = some o /\ o.dst = some (s0 + i) /\ o.guard = none /\ (∀ c, o.op ≠ .defer c) /\ (∀ e ∈ o.after, e.on < i /\ Region.binds .any e = true) /\
   ∀ρ:Operand->Value,(∀e∈o.after,ρ (.tmp (s0+e.on))=val e.on)->(∀t,t<s0->ρ (.tmp t)=a.eval (.tmp t))->(∀v,ρ (.const v)=v)->(execOp ρ o).run P W= .ok (.value (val i)) W/\o.about P W ρ=none)
  (hN : ∃ o, ops[N]? = some o /\ o.dst = some (s0 + N) /\ o.guard = none /\ (∀ c, o.op ≠ .defer c) /\ (∀ e ∈ o.after, e.on < N) /\ (∀ j, j < N -> ∃ e ∈ o.after, e.on = j /\ Region.binds .any e = true) /\
   ∀ρ:Operand->Value,(∀i,i<N->ρ (.tmp (s0+i))=val i)->(∀t,t<s0->ρ (.tmp t)=a.eval (.tmp t))->(execOp ρ o).run P W= .ok (.value vN) W/\o.about P W ρ=none)
  (hN1 : ∃ o, ops[N + 1]? = some o /\ o.dst = none /\ o.guard = none /\ (∀ c, o.op ≠ .defer c) /\ (∀ e ∈ o.after, e.on <= N) /\ (∃ e ∈ o.after, e.on = N /\ Region.binds .any e = true) /\
   ∀ρ:Operand->Value,(∀i,i<N->ρ (.tmp (s0+i))=val i)->ρ (.tmp (s0+N))=vN->(∀t,t<s0->ρ (.tmp t)=a.eval (.tmp t))->(execOp ρ o).run P W= .ok .skip W'/\o.about P W ρ=none)
  (hQ:∀a',Q .normal a' W'):wpAnyIn F n P .any ops Q ops.size (Array.replicate ops.size false) a W:=by
 have key:=phase (F:=F) (n:=n) (P:=P) (ops:=ops) (Q:=Q) (s0:=s0) (N:=N) (val:=val) (a:=a) (W:=W) hsz ?hd' ?hN' ?hN1' ?tail ops.size (Array.replicate ops.size false) (by simp[hsz]) (by simp[Array.getD,hsz]) (by simp[Array.getD,hsz]) ?cnt
 ·rw[Xwi (fun j hj=>by simp[Array.getD])] at key
  exact key
 case hd'=>
  intro i b
  obtain ⟨o,d,T,C,V,D,p⟩:=hd i b
  refine ⟨o,d,T,C,V,D,fun L J=>p _ (fun e he=> ?_) (fun t ht=>Xns ht) (fun v=>rfl)⟩
  have:=(D e he).1
  rw[Xse (by omega) (by omega) (by omega) (by rw[show s0+e.on-s0=e.on by omega];exact J e he),show s0+e.on-s0=e.on by omega]
 case hN'=>
  obtain ⟨o,d,_,_,_,D,p,_⟩:=hN
  exact ⟨o,d,D,p⟩
 case hN1'=>
  obtain ⟨o,d,_,_,_,_,p,_⟩:=hN1
  exact ⟨o,d,p⟩
 case cnt=>
  unfold left
  have:=List.length_filter_le (fun i=> !(Array.replicate ops.size false).getD i false) (List.range N)
  rw[List.length_range] at this
  omega
 case tail=>
  intro R L J g h0 d
  have q:∀i,i<N->(J3 s0 N val L a).eval (.tmp (s0+i))=val i:=fun i b=>by
   rw[Xse (by omega) (by omega) (by omega) (by rw[show s0+i-s0=i by omega];exact g i b),show s0+i-s0=i by omega]
  have s:∀t,t<s0->(J3 s0 N val L a).eval (.tmp t)=a.eval (.tmp t):=fun t ht=>Xns ht
  obtain ⟨o,X,Y,Z,g4,g5,g6,g7⟩:=hN
  obtain ⟨r1,r2⟩:=g7 _ q s
  unfold wpOpIn
  rw[X]
  simp only
  rw[show Region.wanted o (yielded ops (J3 s0 N val L a).tmps)=true by unfold Region.wanted;rw[Z]]
  simp only[if_true]
  unfold Oper.wpIn
  rw[Oper.semAt_eq _ _ _ g4,r1,Oper.uponIn_value,Y]
  refine ⟨fun f hf=>(by rw[r2] at hf;cases hf), ?_⟩
  have ba:(J3 s0 N val L a).tmps.size=a.tmps.size:=by simp[J3]
  have y:∀i,i<N->((J3 s0 N val L a).put (some (s0+N)) vN).eval (.tmp (s0+i))=val i:=fun i b=>by
   rw[<-q i b]
   simp only[Act.put,Act.eval,Array.getD_eq_getD_getElem?,Array.getElem?_setIfInBounds]
   rw[if_neg (by omega)]
  have z:((J3 s0 N val L a).put (some (s0+N)) vN).eval (.tmp (s0+N))=vN:=by
   simp only[Act.put,Act.eval,Array.getD_eq_getD_getElem?,Array.getElem?_setIfInBounds]
   rw[if_pos trivial,if_pos (by omega)]
   rfl
  have B:∀t,t<s0->((J3 s0 N val L a).put (some (s0+N)) vN).eval (.tmp t)=a.eval (.tmp t):=fun t ht=>by
   rw[<-s t ht]
   simp only[Act.put,Act.eval,Array.getD_eq_getD_getElem?,Array.getElem?_setIfInBounds]
   rw[if_neg (by omega)]
  generalize (J3 s0 N val L a).put (some (s0+N)) vN=a2 at *
  obtain ⟨o',S,k2,k3,k4,k5,k6,k7⟩:=hN1
  obtain ⟨q1,q2⟩:=k7 _ y z B
  have l:∀j,j<=N->(L.setIfInBounds N true).getD j false=true:=fun j hj=>by
   simp only[Array.getD_eq_getD_getElem?,Array.getElem?_setIfInBounds]
   by_cases e:N=j
   ·rw[if_pos e,if_pos (by omega)];rfl
   ·rw[if_neg e]
    have:=g j (by omega)
    rw[Array.getD_eq_getD_getElem?] at this
    exact this
  have M:(L.setIfInBounds N true).getD (N+1) true=false:=by
   simp only[Array.getD_eq_getD_getElem?,Array.getElem?_setIfInBounds]
   rw[if_neg (by omega)]
   rw[Array.getD_eq_getD_getElem?] at d
   exact d
  have bb:(L.setIfInBounds N true).size=N+2:=by simpa using J
  generalize L.setIfInBounds N true=L2 at *
  rw[wpAnyIn]
  refine ⟨fun hr=> ?_,fun i b=> ?_⟩
  ·exfalso
   have:=Xe1 (L:=L2) M S (fun e he=>l _ (k5 e he))
   rw[hr] at this
   cases this
  ·obtain ⟨m1,G,_⟩:=Xe0 b
   obtain rfl:i=N+1:=by
    by_cases e:i<=N
    ·have:=l i e
     rw[<-Ke (by omega),G] at this
     cases this
    ·omega
   unfold wpOpIn
   rw[S]
   simp only
   rw[show Region.wanted o' (yielded ops a2.tmps)=true by unfold Region.wanted;rw[k3]]
   simp only[if_true]
   unfold Oper.wpIn
   rw[Oper.semAt_eq _ _ _ k4,q1,Oper.uponIn_skip]
   refine ⟨fun f hf=>(by rw[q2] at hf;cases hf), ?_⟩
   refine wpAnyIn_done ?_ (hQ _) _
   apply List.eq_nil_iff_forall_not_mem.2
   intro i b
   obtain ⟨m1,G,_⟩:=Xe0 b
   have:(L2.setIfInBounds (N+1) true).getD i true=true:=by
    simp only[Array.getD_eq_getD_getElem?,Array.getElem?_setIfInBounds]
    by_cases e:N+1=i
    ·rw[if_pos e,if_pos (by omega)];rfl
    ·rw[if_neg e]
     have C:=l i (by omega)
     rw[<-Ke (by omega),Array.getD_eq_getD_getElem?] at C
     exact C
   rw[this] at G
   cases G


structure PS where
 named:Bool
 key:ByteArray
 pl:Int


def swp (a b n:Nat) (f:Nat->Int) (p:Nat):Int:=
 if a<=p/\p<a+n then f (b+(p-a)) else if b<=p/\p<b+n then f (a+(p-b)) else f p
def rot (a m b:Nat) (f:Nat->Int) (p:Nat):Int:=
 if a<=p/\p<a+(b-m) then f (m+(p-a)) else if a+(b-m)<=p/\p<b then f (p-(b-m)) else f p
theorem X0o (a b:Nat) (f:Nat->Int) (p:Nat):swp a b 0 f p=f p:=by
 unfold swp;rw[if_neg (by omega),if_neg (by omega)]
theorem X0p {a b n:Nat} (h:a+(n+1)<=b\/b+(n+1)<=a) (f:Nat->Int) (p:Nat):
  swp a b (n+1) f p=if p=b+n then swp a b n f (a+n) else if p=a+n then swp a b n f (b+n) else swp a b n f p:=by
 by_cases e1:p=b+n
 ·subst e1
  rw[if_pos rfl]
  unfold swp
  rw[if_neg (by omega),if_pos (by omega),if_neg (by omega),if_neg (by omega)]
  congr 1;omega
 rw[if_neg e1]
 by_cases e2:p=a+n
 ·subst e2
  rw[if_pos rfl]
  unfold swp
  rw[if_pos (by omega),if_neg (by omega),if_neg (by omega)]
  congr 1;omega
 rw[if_neg e2]
 unfold swp
 by_cases c1:a<=p/\p<a+n
 ·rw[if_pos (by omega),if_pos c1]
 ·rw[if_neg (by omega),if_neg c1]
  by_cases c2:b<=p/\p<b+n
  ·rw[if_pos (by omega),if_pos c2]
  ·rw[if_neg (by omega),if_neg c2]
theorem Xcz {f:Nat->Int} {x y:Nat} (h:x=y):f x=f y:=by rw[h]
theorem X0q {s i j:Nat} (h:j<i) (hj:0<j) (f:Nat->Int) (p:Nat):rot (s+j) (s+i) (s+i+j) (swp s (s+i) j f) p=rot s (s+i) (s+i+j) f p:=by
 simp only[rot,swp]
 repeat' split
 all_goals first|(exact Xcz (by omega))|(exfalso;omega)
theorem X0r {s i j:Nat} (h:i<j) (h0:0<i) (f:Nat->Int) (p:Nat):rot s (s+i) (s+j) (swp s (s+j) i f) p=rot s (s+i) (s+i+j) f p:=by
 simp only[rot,swp]
 repeat' split
 all_goals first|(exact Xcz (by omega))|(exfalso;omega)
theorem X0s {s i:Nat} (f:Nat->Int) (p:Nat):swp s (s+i) i f p=rot s (s+i) (s+i+i) f p:=by
 simp only[rot,swp]
 repeat' split
 all_goals first|(exact Xcz (by omega))|(exfalso;omega)


structure Tot (R:Int->Int->Prop):Prop where
 tr:∀x y z,R x y->R y z->R x z
 asym:∀x y,R x y->¬R y x
 to:∀x y,x≠y->R x y\/R y x
def Z0 (R:Int->Int->Prop) (f:Nat->Int) (a b:Nat):Prop:=∀p q,a<=p->p<q->q<b->R (f p) (f q)
def Xf3 (f:Nat->Int) (a m b:Nat):Prop:=∀p q,a<=p->p<m->m<=q->q<b->f p<f q
structure Merged (R:Int->Int->Prop) (f f':Nat->Int) (a b:Nat):Prop where
 out:∀p,p<a\/b<=p->f' p=f p
 inn:∀p,a<=p->p<b->∃q,a<=q/\q<b/\f' p=f q
 ris:Z0 R f' a b
theorem Qb {a m b:Nat} {f:Nat->Int} {p:Nat} (h:p<a\/b<=p) (h1:a<=m) (h2:m<=b):rot a m b f p=f p:=by
 unfold rot;rw[if_neg (by omega),if_neg (by omega)]
theorem U2 {a m b:Nat} {f:Nat->Int} {p:Nat} (h1:a<=p) (h2:p<a+(b-m)):rot a m b f p=f (m+(p-a)):=by
 unfold rot;rw[if_pos ⟨h1,h2⟩]
theorem Ge {a m b:Nat} {f:Nat->Int} {p:Nat} (h1:a+(b-m)<=p) (h2:p<b):rot a m b f p=f (p-(b-m)):=by
 unfold rot;rw[if_neg (by omega),if_pos ⟨h1,h2⟩]
theorem Xf4 {s m e:Nat} {f:Nat->Int} (h1:s<=m) (h2:m<=e) {a b:Nat} (ha:a<=s) (hb:e<=b):∀p,a<=p->p<b->∃q,a<=q/\q<b/\rot s m e f p=f q:=by
 intro p c d
 by_cases c1:p<s\/e<=p
 ·exact ⟨p,c,d,Qb c1 h1 h2⟩
 ·by_cases c2:p<s+(e-m)
  ·exact ⟨m+(p-s),by omega,by omega,U2 (by omega) c2⟩
  ·exact ⟨p-(e-m),by omega,by omega,Ge (by omega) (by omega)⟩
theorem X0e {R:Int->Int->Prop} {f:Nat->Int} {a m i b:Nat} (h1:a<m) (h2:m<=i) (h3:i<=b) (s1:Z0 R f a m) (s2:Z0 R f m b)
  (c1:∀p q,a<=p->p<m->m<=q->q<i->R (f q) (f p)) (c2:∀p q,a<=p->p<m->i<=q->q<b->R (f p) (f q)):Merged R f (rot a m i f) a b:=by
 refine ⟨fun p hp=>Qb (by omega) (by omega) (by omega),Xf4 (by omega) h2 (Nat.le_refl _) h3,fun p q hp hpq hq=> ?_⟩
 by_cases p1:p<a+(i-m)
 ·rw[U2 hp p1]
  by_cases q1:q<a+(i-m)
  ·rw[U2 (by omega) q1];exact s2 _ _ (by omega) (by omega) (by omega)
  ·by_cases q2:q<i
   ·rw[Ge (by omega) q2];exact c1 _ _ (by omega) (by omega) (by omega) (by omega)
   ·rw[Qb (by omega) (by omega) (by omega)];exact s2 _ _ (by omega) (by omega) (by omega)
 ·by_cases p2:p<i
  ·rw[Ge (by omega) p2]
   by_cases q2:q<i
   ·rw[Ge (by omega) q2];exact s1 _ _ (by omega) (by omega) (by omega)
   ·rw[Qb (by omega) (by omega) (by omega)];exact c2 _ _ (by omega) (by omega) (by omega) (by omega)
  ·rw[Qb (by omega) (by omega) (by omega),Qb (by omega) (by omega) (by omega)];exact s2 _ _ (by omega) (by omega) (by omega)
theorem Xnz {R:Int->Int->Prop} {f:Nat->Int} {a i m b:Nat} (h1:a<=i) (h2:i<=m) (h3:m<b) (s1:Z0 R f a m) (s2:Z0 R f m b)
  (c1:∀p q,a<=p->p<i->m<=q->q<b->R (f p) (f q)) (c2:∀p q,i<=p->p<m->m<=q->q<b->R (f q) (f p)):Merged R f (rot i m b f) a b:=by
 refine ⟨fun p hp=>Qb (by omega) (by omega) (by omega),Xf4 h2 (by omega) h1 (Nat.le_refl _),fun p q hp hpq hq=> ?_⟩
 by_cases p0:p<i
 ·rw[Qb (by omega) (by omega) (by omega)]
  by_cases q0:q<i
  ·rw[Qb (by omega) (by omega) (by omega)];exact s1 _ _ (by omega) (by omega) (by omega)
  ·by_cases q1:q<i+(b-m)
   ·rw[U2 (by omega) q1];exact c1 _ _ (by omega) (by omega) (by omega) (by omega)
   ·rw[Ge (by omega) (by omega)];exact s1 _ _ (by omega) (by omega) (by omega)
 ·by_cases p1:p<i+(b-m)
  ·rw[U2 (by omega) p1]
   by_cases q1:q<i+(b-m)
   ·rw[U2 (by omega) q1];exact s2 _ _ (by omega) (by omega) (by omega)
   ·rw[Ge (by omega) (by omega)];exact c2 _ _ (by omega) (by omega) (by omega) (by omega)
  ·rw[Ge (by omega) (by omega),Ge (by omega) (by omega)];exact s1 _ _ (by omega) (by omega) (by omega)
structure Parted (R:Int->Int->Prop) (f:Nat->Int) (a s m e b:Nat):Prop where
 ale:a<=s
 sm:s<=m
 me:m<=e
 eb:e<=b
 x1:∀p q,a<=p->p<s->e<=q->q<b->R (f p) (f q)
 x2:∀p q,s<=p->p<m->m<=q->q<e->R (f q) (f p)
theorem Xdo {s m e:Nat} (h:s=m\/m=e) (hs:s<=m) (he:m<=e) (f:Nat->Int) (p:Nat):rot s m e f p=f p:=by
 simp only[rot]
 repeat' split
 all_goals first|(exact Xcz (by omega))|(exfalso;omega)
section
variable {R:Int->Int->Prop} {f:Nat->Int} {a s m e b:Nat}
theorem Parted.rise1 (h:Parted R f a s m e b) (s1:Z0 R f a m):Z0 R (rot s m e f) a s:=fun p q hp hpq hq=>by
 have:=h.sm;have:=h.me
 rw[Qb (by omega) h.sm h.me,Qb (by omega) h.sm h.me];exact s1 p q hp hpq (by omega)
theorem Parted.rise2 (h:Parted R f a s m e b) (s2:Z0 R f m b):Z0 R (rot s m e f) s (s+(e-m)):=fun p q hp hpq hq=>by
 have:=h.eb;have:=h.me
 rw[U2 (by omega) (by omega),U2 (by omega) (by omega)];exact s2 _ _ (by omega) (by omega) (by omega)
theorem Parted.rise3 (h:Parted R f a s m e b) (s1:Z0 R f a m):Z0 R (rot s m e f) (s+(e-m)) e:=fun p q hp hpq hq=>by
 have:=h.ale;have:=h.sm;have:=h.me
 rw[Ge (by omega) (by omega),Ge (by omega) (by omega)];exact s1 _ _ (by omega) (by omega) (by omega)
theorem Parted.rise4 (h:Parted R f a s m e b) (s2:Z0 R f m b):Z0 R (rot s m e f) e b:=fun p q hp hpq hq=>by
 have:=h.sm;have:=h.me
 rw[Qb (by omega) h.sm h.me,Qb (by omega) h.sm h.me];exact s2 p q (by omega) hpq hq
theorem Parted.cross1 (h:Parted R f a s m e b) (c:Xf3 f a m b):Xf3 (rot s m e f) a s (s+(e-m)):=fun p q hp hps hq hqe=>by
 have:=h.sm;have:=h.me;have:=h.eb
 rw[Qb (by omega) h.sm h.me,U2 (by omega) (by omega)];exact c _ _ hp (by omega) (by omega) (by omega)
theorem Parted.cross2 (h:Parted R f a s m e b) (c:Xf3 f a m b):Xf3 (rot s m e f) (s+(e-m)) e b:=fun p q hp hpe hq hqb=>by
 have:=h.ale;have:=h.sm;have:=h.me
 rw[Ge (by omega) (by omega),Qb (by omega) h.sm h.me];exact c _ _ (by omega) (by omega) (by omega) hqb
theorem Parted.halves (h:Parted R f a s m e b) (s1:Z0 R f a m) (s2:Z0 R f m b):∀p q,a<=p->p<s+(e-m)->s+(e-m)<=q->q<b->R (rot s m e f p) (rot s m e f q):=by
 intro p q d g j c
 have:=h.ale;have:=h.sm;have:=h.me;have:=h.eb
 by_cases c1:p<s
 ·rw[Qb (p:=p) (by omega) h.sm h.me]
  by_cases c2:q<e
  ·rw[Ge (by omega) c2];exact s1 _ _ (by omega) (by omega) (by omega)
  ·rw[Qb (p:=q) (by omega) h.sm h.me];exact h.x1 _ _ d c1 (by omega) c
 ·rw[U2 (p:=p) (by omega) (by omega)]
  by_cases c2:q<e
  ·rw[Ge (by omega) c2];exact h.x2 _ _ (by omega) (by omega) (by omega) (by omega)
  ·rw[Qb (p:=q) (by omega) h.sm h.me];exact s2 _ _ (by omega) (by omega) c
theorem Parted.whole (h:Parted R f a s m e b) (s1:Z0 R f a m) (s2:Z0 R f m b) {f2 f3:Nat->Int} (m1:Merged R (rot s m e f) f2 a (s+(e-m))) (m2:Merged R f2 f3 (s+(e-m)) b):Merged R f f3 a b:=by
 have:=h.ale;have:=h.sm;have:=h.me;have:=h.eb
 have C:=h.halves s1 s2
 have y:∀p,a<=p->p<s+(e-m)->∃q,a<=q/\q<s+(e-m)/\f3 p=rot s m e f q:=fun p h1 h2=>by
  obtain ⟨q,g,j,d⟩:=m1.inn p h1 h2
  exact ⟨q,g,j,by rw[m2.out p (by omega),d]⟩
 have z:∀p,s+(e-m)<=p->p<b->∃q,s+(e-m)<=q/\q<b/\f3 p=rot s m e f q:=fun p h1 h2=>by
  obtain ⟨q,g,j,d⟩:=m2.inn p h1 h2
  exact ⟨q,g,j,by rw[d,m1.out q (by omega)]⟩
 have B:=Xf4 (f:=f) h.sm h.me h.ale h.eb
 refine ⟨fun p hp=> ?_,fun p h1 h2=> ?_,fun p q hp hpq hq=> ?_⟩
 ·rw[m2.out p (by omega),m1.out p (by omega),Qb (by omega) h.sm h.me]
 ·by_cases c:p<s+(e-m)
  ·obtain ⟨q,g,j,d⟩:=y p h1 c
   obtain ⟨r,l,o,t⟩:=B q g (by omega)
   exact ⟨r,l,o,by rw[d,t]⟩
  ·obtain ⟨q,g,j,d⟩:=z p (by omega) h2
   obtain ⟨r,l,o,t⟩:=B q (by omega) j
   exact ⟨r,l,o,by rw[d,t]⟩
 ·by_cases c:q<s+(e-m)
  ·rw[m2.out p (by omega),m2.out q (by omega)];exact m1.ris p q hp hpq c
  ·by_cases c2:p<s+(e-m)
   ·obtain ⟨J,D,F,G⟩:=y p hp c2
    obtain ⟨L,g,j,d⟩:=z q (by omega) hq
    rw[G,d]
    exact C _ _ D F g j
   ·exact m2.ris p q (by omega) hpq hq
theorem Xci {g:Nat->Int} {x y:Nat} (h:Z0 R g x y):Merged R g g x y:=⟨fun _ _=>rfl,fun p h1 h2=>⟨p,h1,h2,rfl⟩,h⟩
end
theorem X4d {R:Int->Int->Prop} (hR:Tot R) {f:Nat->Int} {a m b:Nat} (s2:Z0 R f m b) {h:Nat} (hm:m<=h) (hb:h<b):
  (R (f h) (f a)->∀q,m<=q->q<=h->R (f q) (f a))/\(R (f a) (f h)->∀q,h<=q->q<b->R (f a) (f q)):=by
 refine ⟨fun hr q h1 h2=> ?_,fun hr q h1 h2=> ?_⟩
 ·by_cases e:q=h
  ·subst e;exact hr
  ·exact hR.tr _ _ _ (s2 q h h1 (by omega) hb) hr
 ·by_cases e:h=q
  ·subst e;exact hr
  ·exact hR.tr _ _ _ hr (s2 h q hm (by omega) h2)


def Blk (R:Int->Int->Prop) (f fk:Nat->Int) (x y:Nat):Prop:=(∀p,x<=p->p<y->∃q,x<=q/\q<y/\fk p=f q)/\Z0 R fk x y
def Xd0 (R:Int->Int->Prop) (f fk:Nat->Int) (s a N:Nat):Prop:=∀x,s∣x->a<=x->x<N->Blk R f fk x (min (x+s) N)
def Upto (R:Int->Int->Prop) (f fk:Nat->Int) (s a:Nat):Prop:=∀x,s∣x->x<a->Blk R f fk x (x+s)
section
variable {R:Int->Int->Prop} {f fk fk':Nat->Int} {s a b m N:Nat}
theorem Blk.kept (h:Blk R f fk a b) (e:∀p,a<=p->p<b->fk' p=fk p):Blk R f fk' a b:=by
 refine ⟨fun p h1 h2=> ?_,fun p q h1 h2 h3=> ?_⟩
 ·rw[e p h1 h2];exact h.1 p h1 h2
 ·rw[e p h1 (by omega),e q (by omega) h3];exact h.2 p q h1 h2 h3
theorem Xp2 {x:Nat} (h1:s∣x) (h2:s∣a) (h3:a<=x) (h4:x<a+s):x=a:=by
 have b:s∣x-a:=Nat.dvd_sub h1 h2
 have:x-a=0:=Nat.eq_zero_of_dvd_of_lt b (by omega)
 omega
theorem Xd1 {x:Nat} (h1:s∣x) (h2:s∣a) (h3:x<a):x+s<=a:=by
 have b:s∣a-x:=Nat.dvd_sub h2 h1
 have:=Nat.le_of_dvd (by omega) b
 omega
theorem Upto.snoc (h:Upto R f fk s a) (hd:s∣a) (hb:Blk R f fk' a (a+s)) (he:∀p,p<a->fk' p=fk p):Upto R f fk' s (a+s):=by
 intro x b d
 by_cases c:x<a
 ·exact (h x b c).kept (fun p h1 h2=>he p (by have:=Xd1 b hd c;omega))
 ·have:=Xp2 b hd (by omega) d
  subst this;exact hb
theorem Xlm (hup:∀p q,p<q->q<N->f p<f q) (h1:Blk R f fk a m) (h2:Blk R f fk m b) (hb:b<=N):Xf3 fk a m b:=by
 intro p q g c j d
 obtain ⟨l,y,z,o⟩:=h1.1 p g c
 obtain ⟨s,B,C,t⟩:=h2.1 q j d
 rw[o,t]
 exact hup l s (by omega) (by omega)
theorem Xi3 (h1:Blk R f fk a m) (h2:Blk R f fk m b) (hm:Merged R fk fk' a b) (ham:a<=m) (hmb:m<=b):Blk R f fk' a b:=by
 refine ⟨fun p hp hq=> ?_,hm.ris⟩
 obtain ⟨q,o,s,g⟩:=hm.inn p hp hq
 by_cases c:q<m
 ·obtain ⟨r,j,l,d⟩:=h1.1 q o c
  exact ⟨r,j,by omega,by rw[g,d]⟩
 ·obtain ⟨r,j,l,d⟩:=h2.1 q (by omega) s
  exact ⟨r,by omega,l,by rw[g,d]⟩
theorem Xhs (h:Upto R f fk s a) (hd:s∣a) (ha:a<=N) (hN:N<a+s) (hl:a<N->Blk R f fk a N):Xd0 R f fk s 0 N:=by
 intro x b _ d
 by_cases c:x<a
 ·have g:=Xd1 b hd c
  rw[show min (x+s) N=x+s by omega];exact h x b c
 ·have:=Xp2 b hd (by omega) (by omega)
  subst this
  rw[show min (x+s) N=N by omega]
  exact hl d
end


theorem X4l {a k:Nat} (h:a<=k) (f:Nat->Int) (p:Nat):(if p=k+1 then rot a (a+1) (k+1) f k else if p=k then rot a (a+1) (k+1) f (k+1) else rot a (a+1) (k+1) f p)=rot a (a+1) (k+1+1) f p:=by
 simp only[rot]
 repeat' split
 all_goals first|(exact Xcz (by omega))|(exfalso;omega)
theorem Xoz {k m:Nat} (h:k+1<=m) (f:Nat->Int) (p:Nat):(if p=k then rot (k+1) m (m+1) f (k+1) else if p=k+1 then rot (k+1) m (m+1) f k else rot (k+1) m (m+1) f p)=rot k m (m+1) f p:=by
 simp only[rot]
 repeat' split
 all_goals first|(exact Xcz (by omega))|(exfalso;omega)
section
variable {R:Int->Int->Prop} {f:Nat->Int}
theorem Gs (hR:Tot R) {a b:Nat} (s:Z0 R f a b) {p q:Nat} (h1:a<=p) (h2:p<=q) (h3:q<b) {x:Int}:(R (f q) x->R (f p) x)/\(R x (f p)->R x (f q)):=by
 by_cases e:p=q
 ·subst e;exact ⟨id,id⟩
 ·exact ⟨fun h=>hR.tr _ _ _ (s p q h1 (by omega) h3) h,fun h=>hR.tr _ _ _ h (s p q h1 (by omega) h3)⟩
theorem Xcb (hR:Tot R) {x y:Int} (hxy:x<y) (h:¬R y x):R x y:=by
 rcases hR.to x y (by omega) with e|e
 ·exact e
 ·exact absurd e h
structure MidS (a m b lo hi n:Nat):Prop where
 la:a<=lo
 hm:hi<=m
 le:lo<=hi
 up:∀c,lo<=c->c<hi->m+c+1<=n/\n<b+c+1
 lo':lo=a\/lo+b=n
 hi':hi=m\/hi+m=n
 nm:m+lo<=n/\m+hi<=n/\n<=b+lo
theorem X4m {a m b mid:Nat} (h1:a<m) (h2:m<b) (hmid:mid=(a+b)/2):(mid<m->MidS a m b (mid+m-b) mid (mid+m))/\(m<=mid->MidS a m b a m (mid+m)):=by
 refine ⟨fun h=>⟨by omega,by omega,by omega,fun c h1 h2=>by omega,by omega,by omega,by omega⟩,fun h=>⟨by omega,by omega,by omega,fun c h1 h2=>by omega,by omega,by omega,by omega⟩⟩
theorem X1c (hR:Tot R) {a m b lo hi n:Nat} (M:MidS a m b lo hi n) (s1:Z0 R f a m) (s2:Z0 R f m b) {c:Nat} (h1:lo<=c) (h2:c<hi) (h:R (f c) (f (n-1-c))):∀c',lo<=c'->c'<=c->R (f c') (f (n-1-c')):=by
 intro c' d g
 have u:=M.up c h1 h2
 have j:=M.up c' d (by omega)
 have:=M.la;have:=M.hm
 exact (Gs hR s2 (p:=n-1-c) (q:=n-1-c') (by omega) (by omega) (by omega)).2 ((Gs hR s1 (p:=c') (q:=c) (by omega) g (by omega)).1 h)
theorem Xxq (hR:Tot R) {a m b lo hi n:Nat} (M:MidS a m b lo hi n) (s1:Z0 R f a m) (s2:Z0 R f m b) {c:Nat} (h1:lo<=c) (h2:c<hi) (h:R (f (n-1-c)) (f c)):∀c',c<=c'->c'<hi->R (f (n-1-c')) (f c'):=by
 intro c' d g
 have u:=M.up c h1 h2
 have j:=M.up c' (by omega) g
 have:=M.la;have:=M.hm
 exact (Gs hR s2 (p:=n-1-c') (q:=n-1-c) (by omega) (by omega) (by omega)).1 ((Gs hR s1 (p:=c) (q:=c') (by omega) d (by omega)).2 h)
theorem Xum (hR:Tot R) {a m b lo hi n s:Nat} (M:MidS a m b lo hi n) (s1:Z0 R f a m) (s2:Z0 R f m b) (h1:lo<=s) (h2:s<=hi)
  (hl:∀c,lo<=c->c<s->R (f c) (f (n-1-c))) (hr:∀c,s<=c->c<hi->R (f (n-1-c)) (f c)):Parted R f a s m (n-s) b:=by
 have:=M.la;have:=M.hm;have:=M.nm
 refine ⟨by omega,by omega,by omega,by omega,fun p q hp hps hq hqb=> ?_,fun p q hp hpm hq hqe=> ?_⟩
 ·by_cases e:s=lo
  ·exfalso
   rcases M.lo' with e2|e2<;>omega
  ·have d:=hl (s-1) (by omega) (by omega)
   have u:=M.up (s-1) (by omega) (by omega)
   exact (Gs hR s2 (p:=n-1-(s-1)) (q:=q) (by omega) (by omega) hqb).2 ((Gs hR s1 (p:=p) (q:=s-1) hp (by omega) (by omega)).1 d)
 ·by_cases e:s=hi
  ·exfalso
   rcases M.hi' with e2|e2<;>omega
  ·have d:=hr s (Nat.le_refl _) (by omega)
   have u:=M.up s (by omega) (by omega)
   exact (Gs hR s2 (p:=q) (q:=n-1-s) hq (by omega) (by omega)).1 ((Gs hR s1 (p:=s) (q:=p) (by omega) hp hpm).2 d)
end


def Za (h:Nat->Bool):Nat->Bool
 |0=>false
 |k+1=>Za h k||h k
def Yt (g:Nat->Bool):Nat->List Nat
 |0=> []
 |i+1=>if g i=true then Yt g i else Yt g i++ [i]
theorem Xx6 {h:Nat->Bool} {k n:Nat} (hk:k<n) (e:h k=true):Za h n=true:=by
 induction n with
 |zero=>omega
 |succ n ih=>
  rw[Za]
  by_cases e2:k=n
  ·subst e2;rw[e];simp
  ·rw[ih (by omega)];rfl
theorem Xuv {h h':Nat->Bool}:∀n,(∀k,k<n->h k=h' k)->Za h n=Za h' n:=by
 intro n
 induction n with
 |zero=>intro _;rfl
 |succ n ih=>intro e;rw[Za,Za,ih (fun k hk=>e k (by omega)),e n (by omega)]
theorem Xrk {g g':Nat->Bool}:∀n,(∀k,k<n->g k=g' k)->Yt g n=Yt g' n:=by
 intro n
 induction n with
 |zero=>intro _;rfl
 |succ n ih=>intro e;rw[Yt,Yt,ih (fun k hk=>e k (by omega)),e n (by omega)]
theorem V4 (g:Nat->Bool):∀i,(Yt g i).length<=i/\∀x∈Yt g i,x<i:=by
 intro i
 induction i with
 |zero=>exact ⟨Nat.le_refl _,fun x hx=>by cases hx⟩
 |succ i ih=>
  rw[Yt]
  split
  ·exact ⟨by omega,fun x hx=>by have:=ih.2 x hx;omega⟩
  ·refine ⟨by simp;omega,fun x hx=> ?_⟩
   rcases List.mem_append.1 hx with hx|hx
   ·have:=ih.2 x hx;omega
   ·simp at hx;omega


def RawInts (B:Nat) (w:World) (v:Value) (l:List Int):Prop:=
 l.length<=9223372036854775807/\(∀i,i<l.length->-9223372036854775808<=Xj l i/\Xj l i<=9223372036854775807)/\
 ∃a cap,v= .slice a l.length cap/\(0<l.length->∃b o,a=some ⟨b,o,none⟩/\b<B/\∀i,i<l.length->w.cell? ⟨b,o+i,none⟩=some (.int .i64 (Xj l i)))
def RawStrs (B:Nat) (w:World) (v:Value) (l:List ByteArray):Prop:=
 l.length<=9223372036854775807/\(∀i,i<l.length->(Xf l i).size<=9223372036854775807)/\
 ∃a cap,v= .slice a l.length cap/\(0<l.length->∃b o,a=some ⟨b,o,none⟩/\b<B/\∀i,i<l.length->w.cell? ⟨b,o+i,none⟩=some (.string (Xf l i)))
structure RawIn (B:Nat) (w:World) (x:VN) (ka ki:Value):Prop where
 keys:RawStrs B w ka x.keys
 kids:RawInts B w ki x.kids
 size:x.s.size<=9223372036854775807
 klo: -9223372036854775808<=x.kind
 khi:x.kind<=9223372036854775807
 nlo: -9223372036854775808<=x.n
 nhi:x.n<=9223372036854775807
structure RawAt (B:Nat) (w:World) (b o:Nat) (x:VN) (ka ki:Value):Prop where
 c0:w.cell? ⟨b,o,none⟩=some (.int .i64 x.kind)
 c1:w.cell? ⟨b,o+1,none⟩=some (.int .i64 x.n)
 c2:w.cell? ⟨b,o+2,none⟩=some (.string x.s)
 c3:w.cell? ⟨b,o+3,none⟩=some ka
 c4:w.cell? ⟨b,o+4,none⟩=some ki
 inn:RawIn B w x ka ki
def RawNodes (B:Nat) (w:World) (v:Value) (vs:List VN):Prop:=
 vs.length<=9223372036854775807/\∃a cap,v= .slice a vs.length cap/\(0<vs.length->∃b o,a=some ⟨b,o,none⟩/\b<B/\∀i,i<vs.length->∃ka ki,RawAt B w b (o+i *5) (Xb vs i) ka ki)
structure Small (x:VN):Prop where
 s:x.s.size<=1048576
 kn:x.keys.length<=1048576
 ks:∀i,i<x.keys.length->(Xf x.keys i).size<=1048576
 ki:x.kids.length<=1048576
theorem RawInts.fit {B:Nat} {w:World} {v:Value} {l:List Int} (h:RawInts B w v l) (hs:l.length<=1048576):IntsAt B w v l:=⟨by omega,h.2.1,h.2.2⟩
theorem RawStrs.fit {B:Nat} {w:World} {v:Value} {l:List ByteArray} (h:RawStrs B w v l) (hs:l.length<=1048576) (hk:∀i,i<l.length->(Xf l i).size<=1048576):StrsAt B w v l:=
 ⟨by omega,fun i hi=>by have:=hk i hi;omega,h.2.2⟩
theorem RawIn.fit {B:Nat} {w:World} {x:VN} {ka ki:Value} (h:RawIn B w x ka ki) (hs:Small x):NodeIn B w x ka ki:=
 ⟨h.keys.fit hs.kn hs.ks,h.kids.fit hs.ki,by have:=hs.s;omega,h.klo,h.khi,h.nlo,h.nhi⟩
theorem RawNodes.fit {B:Nat} {w:World} {v:Value} {vs:List VN} (h:RawNodes B w v vs) (hn:vs.length<=1048576) (hs:∀i,i<vs.length->Small (Xb vs i)):NodesAt B w v vs:=by
 obtain ⟨_,a,d,e,f⟩:=h
 refine ⟨by omega,a,d,e,fun hl=> ?_⟩
 obtain ⟨b,o,g,j,l⟩:=f hl
 refine ⟨b,o,g,j,fun i hi=> ?_⟩
 obtain ⟨p,q,c⟩:=l i hi
 exact ⟨p,q,c.c0,c.c1,c.c2,c.c3,c.c4,c.inn.fit (hs i hi)⟩
theorem RawInts.below {B:Nat} {w w':World} {v:Value} {l:List Int} (h:RawInts B w v l) (hb:Below B w w'):RawInts B w' v l:=by
 obtain ⟨f,g,a,d,e,j⟩:=h
 refine ⟨f,g,a,d,e,fun hl=> ?_⟩
 obtain ⟨b,o,p,c,q⟩:=j hl
 exact ⟨b,o,p,c,fun i hi=>(Xc hb c).trans (q i hi)⟩
theorem RawStrs.below {B:Nat} {w w':World} {v:Value} {l:List ByteArray} (h:RawStrs B w v l) (hb:Below B w w'):RawStrs B w' v l:=by
 obtain ⟨f,g,a,d,e,j⟩:=h
 refine ⟨f,g,a,d,e,fun hl=> ?_⟩
 obtain ⟨b,o,p,c,q⟩:=j hl
 exact ⟨b,o,p,c,fun i hi=>(Xc hb c).trans (q i hi)⟩
theorem RawIn.below {B:Nat} {w w':World} {x:VN} {ka ki:Value} (h:RawIn B w x ka ki) (hb:Below B w w'):RawIn B w' x ka ki:=
 {h with keys:=h.keys.below hb,kids:=h.kids.below hb}
theorem RawAt.below {B:Nat} {w w':World} {b o:Nat} {x:VN} {ka ki:Value} (h:RawAt B w b o x ka ki) (hb:Below B w w') (hB:b<B):RawAt B w' b o x ka ki:=
 ⟨(Xc hb hB).trans h.c0,(Xc hb hB).trans h.c1,(Xc hb hB).trans h.c2,(Xc hb hB).trans h.c3,(Xc hb hB).trans h.c4,h.inn.below hb⟩
theorem RawNodes.below {B:Nat} {w w':World} {v:Value} {vs:List VN} (h:RawNodes B w v vs) (hb:Below B w w'):RawNodes B w' v vs:=by
 obtain ⟨f,a,d,e,g⟩:=h
 refine ⟨f,a,d,e,fun hl=> ?_⟩
 obtain ⟨b,o,j,c,l⟩:=g hl
 refine ⟨b,o,j,c,fun i hi=> ?_⟩
 obtain ⟨p,q,s⟩:=l i hi
 exact ⟨p,q,s.below hb c⟩


def txt (l:List UInt8):ByteArray:=⟨l.toArray⟩
theorem Xlb (s:ByteArray):txt s.data.toList=s:=by
 apply ByteArray.ext;simp[txt]
theorem X4k {a b:ByteArray} (h:(a.toList==b.toList)=true):a=b:=by
 have c:=eq_of_beq h
 rw[ByteArray.toList_eq,ByteArray.toList_eq] at c
 rw[<-Xlb a,<-Xlb b,c]


theorem Zu {P:Program} {w:World} {ops:Array Oper} {o:Oper} {a:Act} {K:Act->World->Prop} {Q:Exit->Act->World->Prop} {E:Prop} (hgd:o.guard=none) (F:FuncId) (x:Operand) (T:TypeId)
  (ho:o.op= .call {callee:= .value (.func F),args:= #[x],argTypes:= #[T]}) (v:Value) (hx:a.eval x=v) (hcf:∀w,(callFunc F #[v]).run P w= .ok (.enter F #[v]) w) {R:Ending->World->Prop} (hc:Calls P F #[v] w R)
  (h:∀e w',R e w'->∃u,e= .returned u/\K (a.put o.dst u) w'):
  if Region.wanted o (yielded ops a.tmps)=true then Oper.wp P o a w K Q else E:=by
 have b:Region.wanted o (yielded ops a.tmps)=true:=by simp[Region.wanted,hgd]
 rw[if_pos b]
 unfold Oper.wp execOp
 have c:a.eval (.func F)= .func (.func F) #[] #[]:=rfl
 simp[ho,resolve,invoke,hx,c,Deferred.ofValue,hcf,Result.andThen,Oper.upon_enter]
 refine hc.mono fun e w' hr=> ?_
 obtain ⟨u,rfl,d⟩:=h e w' hr
 exact d


theorem Kf {P:Program} {w:World} {ops:Array Oper} {o:Oper} {a:Act} {K:Act->World->Prop} {Q:Exit->Act->World->Prop} {E:Prop} (hgd:o.guard=none) (F:FuncId) (x y:Operand) (T U:TypeId)
  (ho:o.op= .call {callee:= .value (.func F),args:= #[x,y],argTypes:= #[T,U]}) (v u:Value) (hx:a.eval x=v) (hy:a.eval y=u) (hcf:∀w,(callFunc F #[v,u]).run P w= .ok (.enter F #[v,u]) w) {R:Ending->World->Prop} (hc:Calls P F #[v,u] w R)
  (h:∀e w',R e w'->∃u,e= .returned u/\K (a.put o.dst u) w'):
  if Region.wanted o (yielded ops a.tmps)=true then Oper.wp P o a w K Q else E:=by
 have b:Region.wanted o (yielded ops a.tmps)=true:=by simp[Region.wanted,hgd]
 rw[if_pos b]
 unfold Oper.wp execOp
 have c:a.eval (.func F)= .func (.func F) #[] #[]:=rfl
 simp[ho,resolve,invoke,hx,hy,c,Deferred.ofValue,hcf,Result.andThen,Oper.upon_enter]
 refine hc.mono fun e w' hr=> ?_
 obtain ⟨u,rfl,d⟩:=h e w' hr
 exact d


end Go.Proofs.YtdjddneidbddpaaGreatDoor
