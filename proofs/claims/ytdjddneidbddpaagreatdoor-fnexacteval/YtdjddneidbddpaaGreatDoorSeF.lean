import Derived.Test.YtdjddneidbddpaaGreatDoorSeQ
import Derived.Test.YtdjddneidbddpaaGreatDoorEqSS
import Derived.Test.YtdjddneidbddpaaGreatDoorSSort
import Derived.Test.YtdjddneidbddpaaGreatDoorStbN
import Derived.Test.YtdjddneidbddpaaGreatDoorStepI
import Derived.Laws.Concat
namespace Go.Proofs.YtdjddneidbddpaaGreatDoor
set_option linter.unusedSectionVars false
set_option maxRecDepth 100000
set_option maxHeartbeats 12800000
open Go.RowKit
set_option linter.unusedSimpArgs false
set_option linter.unusedVariables false
theorem TreeAt.full {B:Nat} {w:World}:∀{f:Nat} {t:VT} {v:Value},TreeAt B w f t v->Gd f t:=by
 intro f
 induction f with
 |zero=>intro t v h;exact h.elim
 |succ f ih=>
  intro t v h
  obtain ⟨l,n,s,keys,kids⟩:=t
  have g:∀d,Q8 B w d kids.length (fun j u=>TreeAt B w f (Yf kids j) u)->∀j,j<kids.length->Gd f (Yf kids j):=by
   rintro d ⟨_,a,o,e,p⟩ j c
   obtain ⟨b,z,C,q⟩:=p (by omega)
   obtain ⟨t,x,_,y⟩:=q j c
   exact ih y
  rcases h with ⟨_,_,_,_,hk,_⟩|⟨_,_,_,hk,_⟩|⟨_,_,_,hk,_⟩|⟨_,_,_,hk,_⟩|⟨_,_,_,_,d,_,hi⟩|⟨_,_,_,ks,d,_,_,hi⟩
  ·subst hk;exact fun j c=>absurd c (by simp)
  ·subst hk;exact fun j c=>absurd c (by simp)
  ·subst hk;exact fun j c=>absurd c (by simp)
  ·subst hk;exact fun j c=>absurd c (by simp)
  ·exact g d hi
  ·exact g d hi
theorem TreeAt.less {B:Nat} {w:World}:∀{g f:Nat} {t:VT} {v:Value},Gd g t->TreeAt B w f t v->TreeAt B w g t v:=by
 intro g
 induction g with
 |zero=>intro f t v p _;exact p.elim
 |succ g ih=>
  intro f t v p h
  cases f with
  |zero=>exact h.elim
  |succ f=>
   obtain ⟨y,n,s,keys,kids⟩:=t
   have d:∀c,Q8 B w c kids.length (fun j u=>TreeAt B w f (Yf kids j) u)->Q8 B w c kids.length (fun j u=>TreeAt B w g (Yf kids j) u):=by
    rintro c ⟨z,a,q,e,C⟩
    refine ⟨z,a,q,e,fun hn=> ?_⟩
    obtain ⟨b,D,l,o⟩:=C hn
    refine ⟨b,D,l,fun j hj=> ?_⟩
    obtain ⟨t,x,F,G⟩:=o j hj
    exact ⟨t,x,F,ih (p j hj) G⟩
   rcases h with h|h|h|h|⟨h1,l,o,h4,c,e,hi⟩|⟨h1,l,o,ks,c,e,hs,hi⟩
   ·exact Or.inl h
   ·exact Or.inr (Or.inl h)
   ·exact Or.inr (Or.inr (Or.inl h))
   ·exact Or.inr (Or.inr (Or.inr (Or.inl h)))
   ·exact Or.inr (Or.inr (Or.inr (Or.inr (Or.inl ⟨h1,l,o,h4,c,e,d c hi⟩))))
   ·exact Or.inr (Or.inr (Or.inr (Or.inr (Or.inr ⟨h1,l,o,ks,c,e,hs,d c hi⟩))))
structure Reads2 (w w':World):Prop where
 size:w.heap.size<=w'.heap.size
 ifc:∀b o t x,w.cell? ⟨b,o,none⟩=some (.iface t x)->w'.cell? ⟨b,o,none⟩=some (.iface t x)
 str:∀b o s,w.cell? ⟨b,o,none⟩=some (.string s)->w'.cell? ⟨b,o,none⟩=some (.string s)
theorem StrsAt.reads {B B':Nat} {w w':World} {v:Value} {l:List ByteArray} (hr:Reads2 w w') (hB:B<=B') (h:StrsAt B w v l):StrsAt B' w' v l:=by
 obtain ⟨d,f,a,c,e,g⟩:=h
 refine ⟨d,f,a,c,e,fun hp=> ?_⟩
 obtain ⟨b,o,j,q,p⟩:=g hp
 exact ⟨b,o,j,by omega,fun i hi=>hr.str _ _ _ (p i hi)⟩
theorem TreeAt.reads {B B':Nat} {w w':World} (hr:Reads2 w w') (hB:B<=B'):∀{f:Nat} {t:VT} {v:Value},TreeAt B w f t v->TreeAt B' w' f t v:=by
 intro f
 induction f with
 |zero=>intro t v h;exact h.elim
 |succ f ih=>
  intro t v h
  obtain ⟨p,n,s,keys,kids⟩:=t
  have d:∀c,Q8 B w c kids.length (fun j u=>TreeAt B w f (Yf kids j) u)->Q8 B' w' c kids.length (fun j u=>TreeAt B' w' f (Yf kids j) u):=by
   rintro c ⟨q,a,o,e,y⟩
   refine ⟨q,a,o,e,fun hn=> ?_⟩
   obtain ⟨b,z,l,g⟩:=y hn
   refine ⟨b,z,by omega,fun j hj=> ?_⟩
   obtain ⟨t,x,C,D⟩:=g j hj
   exact ⟨t,x,hr.ifc _ _ _ _ C,ih D⟩
  rcases h with h|h|h|h|⟨h1,l,g,h4,c,e,hi⟩|⟨h1,l,g,ks,c,e,hs,hi⟩
  ·exact Or.inl h
  ·exact Or.inr (Or.inl h)
  ·exact Or.inr (Or.inr (Or.inl h))
  ·exact Or.inr (Or.inr (Or.inr (Or.inl h)))
  ·exact Or.inr (Or.inr (Or.inr (Or.inr (Or.inl ⟨h1,l,g,h4,c,e,d c hi⟩))))
  ·exact Or.inr (Or.inr (Or.inr (Or.inr (Or.inr ⟨h1,l,g,ks,c,e,hs.reads hr hB,d c hi⟩))))
def Rep (w:World) (ns:List VN) (x:Value):Prop:=okB ns=true/\TreeAt w.heap.size w 80 (Xaa ns) x
theorem Rep.reads {w w':World} {ns:List VN} {x:Value} (h:Rep w ns x) (hr:Reads2 w w'):Rep w' ns x:=⟨h.1,h.2.reads hr hr.size⟩
theorem Rep.iface {w:World} {ns:List VN} {x:Value} (h:Rep w ns x):∃t y,x= .iface t y:=h.2.iface
theorem Xhe {ns:List VN} (h:okB ns=true):Yb 80 (Xaa ns) 0=ns:=by
 rw[Xo8 h 0]
 have:ns.map (X5 ((0:Nat):Int))=ns.map id:=List.map_congr_left fun x _=>Xgl x
 rw[this,List.map_id]
theorem Xk3 {ns:List VN} (h:okB ns=true):Gd 80 (Xaa ns):=by
 have p:=(Xm h).1
 exact (V0 h 80 (ns.length-1) (by omega) (by omega)).full
theorem Xk4 {ns:List VN} (h:okB ns=true) {f:Nat} {t:VT} (hf:Gd f t) (hl:Yb f t 0=ns):t=Xaa ns:=by
 have b:=Xe9 hf ns 0 (f+80) (by omega) (fun j hj=>by rw[Nat.zero_add,hl])
 have c:=Xe9 (Xk3 h) ns 0 (f+80) (by omega) (fun j hj=>by rw[Nat.zero_add,Xhe h])
 rw[hl] at b
 rw[Xhe h] at c
 exact b.symm.trans c
theorem Rep.of {w:World} {ns:List VN} {x:Value} {f:Nat} {t:VT} (ht:TreeAt w.heap.size w f t x) (hl:Yb f t 0=ns) (ok:okB ns=true):Rep w ns x:=by
 have e:=Xk4 ok ht.full hl
 subst e
 exact ⟨ok,ht.less (Xk3 ok)⟩
theorem Xsf (ns:List VN):Xaa ns= .mk (Xd ns).kind (Xd ns).n (Xd ns).s (Xd ns).keys ((Xe ns).map fun k=>Xt ns 79 k.toNat):=rfl
theorem X22 (ns:List VN) {j:Nat} (h:j<(Xe ns).length):Yf ((Xe ns).map fun k=>Xt ns 79 k.toNat) j=Xt ns 79 (Xj (Xe ns) j).toNat:=G7 h
theorem X4f {ns:List VN} (ok:okB ns=true) {j:Nat} (h:j<(Xe ns).length):Yb 79 (Xt ns 79 (Xj (Xe ns) j).toNat) 0=PL ns j:=by
 obtain ⟨q,b,c⟩:=Zh ok h
 have p:=(Xm ok).1
 unfold PL
 rw[b,Int.toNat_natCast]
 exact (G0 ok (by omega) (by omega)).1


theorem Vm (B:Nat) (v:Value) (vs:List VN) (w:World) (h:NodesAt B w v vs) (hB:B<=w.heap.size) (ok:okB vs=true):
  Calls Tryz.prog 74 #[v] w fun e w'=>e= .returned (.tuple #[v, .int .i64 0])/\Below w.heap.size w w':=by
 have c:=Xa h
 obtain ⟨_,a,d,rfl,_⟩:=h
 go_enter Tryz.func74,Tryz.ntmps74
 go_wp2_with fail
 refine (Xax B _ vs _ c.out hB).mono ?_
 rintro e f ⟨rfl,b⟩
 rw[ok]
 go_wp2_with fail
 go_ret2
 exact ⟨rfl,b⟩
theorem Gk (B:Nat) (v:Value) (vs:List VN) (w:World) (h:NodesAt B w v vs) (hB:B<=w.heap.size) (ok:okB vs=false):
  Calls Tryz.prog 74 #[v] w fun e w'=>e= .returned (.tuple #[.slice none 0 0, .int .i64 3])/\Below w.heap.size w w':=by
 have c:=Xa h
 obtain ⟨_,a,d,rfl,_⟩:=h
 go_enter Tryz.func74,Tryz.ntmps74
 go_wp2_with fail
 refine (Xax B _ vs _ c.out hB).mono ?_
 rintro e f ⟨rfl,b⟩
 rw[ok]
 go_wp2_with fail
 go_ret2
 exact ⟨rfl,b⟩
theorem Xfm (u v:Value):∀w,(callFunc 130 #[u,v]).run Tryz.prog w= .ok (.enter 130 #[u,v]) w:=fun w=>by kernel_rfl
theorem Xyq {base B m:Nat} {w:World} {v:Value} {ps:List Nat} {cs:Nat->Value} {L:Nat->List VN} (h:w.ownsRow base 25 1 v ps.length (ps.map cs)) (hm:ps.length<=1048576) (hB:B<=w.heap.size) (hps:∀x∈ps,x<m) (hc:∀i,i<m->NodesAt B w (cs i) (L i)):Uv w.heap.size w v ps.length (fun j=>L (ps.getD j 0)):=by
 obtain ⟨a,c,e⟩:=Xg h
 subst e
 refine ⟨hm,a,c,rfl,fun hp=> ?_⟩
 obtain ⟨g,d,e,_,b⟩:=h.form hp
 cases e
 refine ⟨g,rfl,b,fun i hi=>⟨cs (ps.getD i 0), ?_, ?_⟩⟩
 ·rw[h.cellAt i (by omega),List.getElem?_map,List.getElem?_eq_getElem (by omega),List.getD_eq_getElem?_getD,List.getElem?_eq_getElem (by omega)]
  rfl
 ·refine (hc _ ?_).wide hB
  apply hps
  rw[List.getD_eq_getElem?_getD,List.getElem?_eq_getElem (by omega)]
  exact List.getElem_mem _
theorem Xho:(Tryz.prog.info? 25).map (fun i=>(i.zero,i.size,i.bytes))=some (some (.slice none 0 0),1,24):=by kernel_rfl
theorem Q4 {B:Nat} {w:World} {v:Value} {us:List VN} (h:NodesAt B w v us) (hl:0<us.length):∃b o c aK nK cK aI nI cI,v= .slice (some ⟨b,o,none⟩) us.length c/\b<B/\nI=(Xd us).kids.length/\nK=(Xd us).keys.length/\w.cell? ⟨b,o+(us.length-1) *5,none⟩=some (.int .i64 (Xd us).kind)/\w.cell? ⟨b,o+(us.length-1) *5+1,none⟩=some (.int .i64 (Xd us).n)/\w.cell? ⟨b,o+(us.length-1) *5+2,none⟩=some (.string (Xd us).s)/\w.cell? ⟨b,o+(us.length-1) *5+3,none⟩=some (.slice aK nK cK)/\w.cell? ⟨b,o+(us.length-1) *5+4,none⟩=some (.slice aI nI cI):=by
 obtain ⟨_,a,c,rfl,g⟩:=h
 obtain ⟨b,o,rfl,j,f⟩:=g hl
 obtain ⟨q,t,d⟩:=f (us.length-1) (by omega)
 obtain ⟨_,_,aK,cK,l,_⟩:=d.inn.keys
 obtain ⟨_,_,aI,cI,p,_⟩:=d.inn.kids
 exact ⟨b,o,c,aK,_,cK,aI,_,cI,rfl,j,rfl,rfl,d.c0,d.c1,d.c2,by rw[d.c3,l];rfl,by rw[d.c4,p];rfl⟩
theorem Xpp (B:Nat) (v1 v2:Value) (us vs:List VN) (w:World) (hn1:NodesAt B w v1 us) (hn2:NodesAt B w v2 vs) (hB:B<=w.heap.size) (ok1:okB us=true) (ok2:okB vs=true) (hno:¬((Xd us).kind=5/\(Xd vs).kind=5)):
  Calls Tryz.prog 132 #[v1,v2] w fun e w'=>∃r base KV IV,e= .returned (.tuple #[r, .int .i64 (Vz us vs)])/\w.heap.size<=base/\Nest base w' r (Kg us vs) KV IV/\Below w.heap.size w w':=by
 obtain ⟨ba,bb⟩:=(Xm ok1).1
 obtain ⟨bc,bd⟩:=(Xm ok2).1
 obtain ⟨b1,o1,c1,t,y,z,C,D,F,rfl,bn,u1,u2,d0,d1,d2,d3,d4⟩:=Q4 hn1 (by omega)
 clear u1 u2
 obtain ⟨G,o2,c2,be,bf,bg,bh,bi,bj,rfl,bo,u1,u2,Z,g1,g2,g3,g4⟩:=Q4 hn2 (by omega)
 clear u1 u2
 have HO:=Xa (fun a=>Xe6 ok1 ok2 a hno)
 have HD:=Xa (fun a=>Xoh ok1 ok2 a)
 have g:=Xa (fun a=>Xak ok1 a)
 have j:=Xa (fun a=>Xak ok2 a)
 have b:Hid (Gr us vs=Xr 3 ((Xd us).n-(Xd vs).n) ByteArray.empty):=rfl
 obtain ⟨N1,J⟩:∃N1,us.length=N1:=⟨_,rfl⟩
 obtain ⟨N2,L⟩:∃N2,vs.length=N2:=⟨_,rfl⟩
 rw[J] at ba bb d0 d1 d2 d3 d4|-
 rw[L] at bc bd Z g1 g2 g3 g4|-
 have z1:((N1:Int)-1).toNat=N1-1:=by omega
 have z2:((N2:Int)-1).toNat=N2-1:=by omega
 obtain ⟨o,M⟩:∃k,(Xd us).kind=k:=⟨_,rfl⟩
 obtain ⟨ky,P⟩:∃k,(Xd vs).kind=k:=⟨_,rfl⟩
 obtain ⟨R,S⟩:∃k,(Xd us).n=k:=⟨_,rfl⟩
 obtain ⟨ny,T⟩:∃k,(Xd vs).n=k:=⟨_,rfl⟩
 obtain ⟨sx,V⟩:∃k,(Xd us).s=k:=⟨_,rfl⟩
 obtain ⟨sy,X⟩:∃k,(Xd vs).s=k:=⟨_,rfl⟩
 rw[M] at d0 HO HD g hno
 rw[P] at Z HO HD j hno
 rw[S] at d1 b g
 rw[T] at g1 b j
 rw[V] at d2
 rw[X] at g2
 have c:Hid (Below w.heap.size w ((w.alloc (.cells #[.int .i64 o, .int .i64 R, .string sx, .slice t y z, .slice C D F] 75)).alloc (.cells #[.int .i64 ky, .int .i64 ny, .string sy, .slice be bf bg, .slice bh bi bj] 75))):=((Below.refl _ _).alloc (Nat.le_refl _) _).alloc (by simp) _
 clear hn1 hn2 J L M P S T V X ok1 ok2
 have d:Below w.heap.size w (w.alloc (.cells #[.int .i64 o, .int .i64 R, .string sx, .slice t y z, .slice C D F] 75)):=(Below.refl _ _).alloc (Nat.le_refl _) _
 have e0:=(Xc d (show G<w.heap.size by omega)).trans Z
 have e1:=(Xc d (show G<w.heap.size by omega)).trans g1
 have e2:=(Xc d (show G<w.heap.size by omega)).trans g2
 have e3:=(Xc d (show G<w.heap.size by omega)).trans g3
 have e4:=(Xc d (show G<w.heap.size by omega)).trans g4
 clear d Z g1 g2 g3 g4
 by_cases h3:o=3/\ky=3
 ·obtain ⟨rfl,rfl⟩:=h3
  have l:=Xa (HD.out ⟨rfl,rfl⟩)
  obtain ⟨bp,bq⟩:=g.out rfl
  obtain ⟨br,bs⟩:=j.out rfl
  have bk:=Xa (Xdq (R-ny) (by omega) (by omega))
  go_enter Tryz.func132,Tryz.ntmps132
  go_wp2_with fail
  refine (Kt (R-ny) _).mono ?_
  rintro e w3 ⟨r,KV,IV,rfl,hn,hb⟩
  have p:=Xa (c.out.trans (hb.mono c.out.size))
  have bl:=Xa (hn.low c.out.size)
  have Y:=Xa (hn.nodes (by simp[Xr]) bk.out.2)
  obtain ⟨ar,cr,er⟩:=Xg hn.row
  simp only[Xr,List.length_cons,List.length_nil] at er
  subst er
  clear hn hb
  cases ok:okB (Xr 3 (R-ny) ByteArray.empty)
  ·go_wp2_with fail
   refine (Gk w3.heap.size _ _ w3 Y.out (Nat.le_refl _) ok).mono ?_
   rintro e w4 ⟨rfl,f⟩
   have q:=Xa (p.out.trans (f.mono p.out.size))
   clear f
   go_wp2_with fail
   go_ret2
   exact ⟨_,w.heap.size,fun _=>undef,fun _=>undef,by rw[l.out.1,b.out,ok];rfl,Nat.le_refl _,by rw[l.out.2,b.out,ok];exact Nest.nil _ _ _ _,q.out⟩
  ·go_wp2_with fail
   refine (Vm w3.heap.size _ _ w3 Y.out (Nat.le_refl _) ok).mono ?_
   rintro e w4 ⟨rfl,f⟩
   have q:=Xa (p.out.trans (f.mono p.out.size))
   have bm:=Xa (bl.out.below f)
   clear f
   go_wp2_with fail
   go_ret2
   exact ⟨_,w.heap.size,KV,IV,by rw[l.out.1,b.out,ok];rfl,Nat.le_refl _,by rw[l.out.2,b.out,ok];exact bm.out,q.out⟩
 ·have l:=Xa (HO.out h3)
  by_cases k3:o=3
  ·have q2:(ky==3)=false:=by simp;intro e;exact h3 ⟨k3,e⟩
   have q1:(o==3)=true:=by simpa using k3
   have q3:(o !=5)=true:=by simp;omega
   clear h3 k3 hno
   go_enter Tryz.func132,Tryz.ntmps132
   go_wp2_with fail
   go_ret2
   exact ⟨_,w.heap.size,fun _=>undef,fun _=>undef,by rw[l.out.1];rfl,Nat.le_refl _,by rw[l.out.2];exact Nest.nil _ _ _ _,c.out⟩
  ·have q1:(o==3)=false:=by simpa using k3
   by_cases k5:o=5
   ·have q3:(o !=5)=false:=by simpa using k5
    have q4:(ky !=5)=true:=by simp;intro e;exact hno ⟨k5,e⟩
    clear h3 k3 k5 hno
    go_enter Tryz.func132,Tryz.ntmps132
    go_wp2_with fail
    go_ret2
    exact ⟨_,w.heap.size,fun _=>undef,fun _=>undef,by rw[l.out.1];rfl,Nat.le_refl _,by rw[l.out.2];exact Nest.nil _ _ _ _,c.out⟩
   ·have q3:(o !=5)=true:=by simpa using k5
    clear h3 k3 k5 hno
    go_enter Tryz.func132,Tryz.ntmps132
    go_wp2_with fail
    go_ret2
    exact ⟨_,w.heap.size,fun _=>undef,fun _=>undef,by rw[l.out.1];rfl,Nat.le_refl _,by rw[l.out.2];exact Nest.nil _ _ _ _,c.out⟩


theorem X3d (s:ByteArray) (w:World):Calls Tryz.prog 100 #[.string s] w fun e w'=>∃r KV IV,e= .returned r/\Nest w.heap.size w' r (Xr 4 0 s) KV IV/\Below w.heap.size w w':=by
 go_enter Tryz.func100,Tryz.ntmps100
 go_wp2_with fail
 go_ret
 exact ⟨_,_,_,rfl,Vt w 4 0 _,(Below.refl _ _).alloc (Nat.le_refl _) _⟩
theorem Xj7 (B:Nat) (v:Value) (vs:List VN) (w:World) (h:NodesAt B w v vs) (ok:okB vs=true) (hB:B<=w.heap.size):
  Calls Tryz.prog 36 #[v] w fun e w'=>∃r KV IV,e= .returned r/\Nest w.heap.size w' r vs KV IV/\Below w.heap.size w w':=by
 have H:=Xa h
 obtain ⟨_,a,l,rfl,_⟩:=h
 have t:=(Xm ok).1
 have d:=Xa (Xc1 (L:=fun _=>vs) (m:=1) (fun i hi=>ok) 0 (by omega)).2
 go_enter Tryz.func36,Tryz.ntmps36
 go_wp2_with fail
 refine (Xlc w.heap.size w.heap.size (.slice none 0 0) _ [] vs (fun _=>undef) (fun _=>undef) w (Nest.nil _ _ _ _) (NodesAt.wide H.out hB) (Nat.le_refl _) (Nat.le_refl _) (by simp;omega) d.out).mono ?_
 rintro e o ⟨r,KV,IV,rfl,b⟩
 have f:Below w.heap.size w o:=(Below.refl _ _).grown b.2.1 (Nat.le_refl _) (fun k hk=>by simp[Value.ownBlock] at hk)
 have c:=b.1
 have p:vs.map (X5 (([]:List VN).length:Int))=vs:=by
  have:∀x:VN,X5 (([]:List VN).length:Int) x=x:=fun x=>Xgn x
  rw[List.map_congr_left (fun x _=>this x)];simp
 rw[List.nil_append,p] at c
 have q:=Xa c
 have s:=Xa f
 obtain ⟨y,z,g⟩:=Xg c.row
 obtain ⟨M,j⟩:∃M,vs.length=M:=⟨_,rfl⟩
 rw[j] at g
 subst g
 clear b c f j
 go_wp2_with fail
 go_ret
 exact ⟨_,KV,IV,rfl,q.out,s.out⟩
theorem Xsm {us:List VN} (hok:okB us=true) (hk:(Xd us).kind=4):(Xd us).s.size<=60:=by
 rcases Ju hok with k|k|⟨k,a,b⟩|⟨k,a⟩|⟨k,a⟩|⟨k,a⟩
 ·omega
 ·omega
 ·omega
 ·exact a
 ·omega
 ·omega
theorem Xxx (s:ByteArray) (h:s.size<=140737488355328):∀i,i<(Xr 4 0 s).length->Fits (Xb (Xr 4 0 s) i):=by
 intro i b
 obtain rfl:i=0:=by simp[Xr] at b;omega
 refine ⟨by simp[Xr,Xb],fun i b=>absurd b (by simp[Xr,Xb]),by simp[Xr,Xb],fun i b=>absurd b (by simp[Xr,Xb]),by simpa [Xr,Xb] using h,by simp[Xr,Xb],by simp[Xr,Xb],by simp[Xr,Xb],by simp[Xr,Xb]⟩
theorem Xrj (B:Nat) (v1 v2:Value) (us vs:List VN) (w:World) (hn1:NodesAt B w v1 us) (hn2:NodesAt B w v2 vs) (hB:B<=w.heap.size) (ok1:okB us=true) (ok2:okB vs=true) (hno:(Xd us).kind≠(Xd vs).kind\/((Xd us).kind≠5/\(Xd us).kind≠6)):
  Calls Tryz.prog 131 #[v1,v2] w fun e w'=>∃r base KV IV,e= .returned (.tuple #[r, .int .i64 (Qg us vs)])/\w.heap.size<=base/\Nest base w' r (Zt us vs) KV IV/\Below w.heap.size w w':=by
 obtain ⟨bq,br⟩:=(Xm ok1).1
 obtain ⟨bs,bt⟩:=(Xm ok2).1
 obtain ⟨b1,o1,c1,bd,be,bf,bg,bh,bi,rfl,b8,u1,u2,d0,d1,d2,d3,d4⟩:=Q4 hn1 (by omega)
 clear u1 u2
 obtain ⟨b2,o2,c2,bu,bv,bw,bx,bz,b0,rfl,b9,u1,u2,g0,g1,g2,g3,g4⟩:=Q4 hn2 (by omega)
 clear u1 u2
 have H1:=Xa (fun a=>Xi8 ok1 ok2 a)
 have H2:=Xa (fun a b=>Xi9 ok1 ok2 a b)
 have H3:=Xa (fun a b c=>Xcm ok1 ok2 a b c)
 have H4:=Xa (fun a b c=>G9 ok1 ok2 a b c)
 have H5:=Xa (fun a=>Xsz (us:=us) (vs:=vs) a)
 have H6:=Xa (fun a=>Xp5 (us:=us) (vs:=vs) a)
 have z:=Xa (fun a=>Xak ok1 a)
 have C:=Xa (fun a=>Xak ok2 a)
 have D:=Xa (fun a=>Xsm ok1 a)
 have F:=Xa (fun a=>Xsm ok2 a)
 have bj:=Xa (fun W (p:Below w.heap.size w W)=>Xj7 B _ us W (hn1.below (p.mono hB)) ok1 (Nat.le_trans hB p.size))
 have bk:=Xa (fun W (p:Below w.heap.size w W)=>Xj7 B _ vs W (hn2.below (p.mono hB)) ok2 (Nat.le_trans hB p.size))
 have S:Hid (Xi6 us vs=Xr 3 ((Xd us).n+(Xd vs).n) ByteArray.empty):=rfl
 have T:Hid (Xi7 us vs=Xr 4 0 ((Xd us).s++(Xd vs).s)):=rfl
 have bl:=Xa (Ju ok1)
 obtain ⟨N1,V⟩:∃N1,us.length=N1:=⟨_,rfl⟩
 obtain ⟨N2,X⟩:∃N2,vs.length=N2:=⟨_,rfl⟩
 rw[V] at bq br d0 d1 d2 d3 d4 bj|-
 rw[X] at bs bt g0 g1 g2 g3 g4 bk|-
 have b3:=Xa V
 have b4:=Xa X
 have z1:((N1:Int)-1).toNat=N1-1:=by omega
 have z2:((N2:Int)-1).toNat=N2-1:=by omega
 obtain ⟨j,M⟩:∃k,(Xd us).kind=k:=⟨_,rfl⟩
 obtain ⟨Y,Z⟩:∃k,(Xd vs).kind=k:=⟨_,rfl⟩
 obtain ⟨nx,bm⟩:∃k,(Xd us).n=k:=⟨_,rfl⟩
 obtain ⟨ny,bn⟩:∃k,(Xd vs).n=k:=⟨_,rfl⟩
 obtain ⟨P,bo⟩:∃k,(Xd us).s=k:=⟨_,rfl⟩
 obtain ⟨R,bp⟩:∃k,(Xd vs).s=k:=⟨_,rfl⟩
 have ca:=Xa M
 have cb:=Xa Z
 rw[M] at d0 H1 H2 H3 H4 H5 H6 z D hno
 rw[Z] at g0 H2 H3 H4 C F hno
 rw[bm] at d1 S z
 rw[bn] at g1 S C
 rw[bo] at d2 T D
 rw[bp] at g2 T F
 have b5:Hid (j=1\/j=2\/j=3\/j=4\/j=5\/j=6):=by
  rw[Hid,<-M]
  rcases bl.out with k|k|⟨k,_,_⟩|⟨k,_⟩|⟨k,_⟩|⟨k,_⟩<;>omega
 have d:Hid (Below w.heap.size w ((w.alloc (.cells #[.int .i64 j, .int .i64 nx, .string P, .slice bd be bf, .slice bg bh bi] 75)).alloc (.cells #[.int .i64 Y, .int .i64 ny, .string R, .slice bu bv bw, .slice bx bz b0] 75))):=((Below.refl _ _).alloc (Nat.le_refl _) _).alloc (by simp) _
 clear hn1 hn2 V X M Z bm bn bo bp ok1 ok2 bl
 have y:Below w.heap.size w (w.alloc (.cells #[.int .i64 j, .int .i64 nx, .string P, .slice bd be bf, .slice bg bh bi] 75)):=(Below.refl _ _).alloc (Nat.le_refl _) _
 have e0:=(Xc y (show b2<w.heap.size by omega)).trans g0
 have e1:=(Xc y (show b2<w.heap.size by omega)).trans g1
 have e2:=(Xc y (show b2<w.heap.size by omega)).trans g2
 have e3:=(Xc y (show b2<w.heap.size by omega)).trans g3
 have e4:=(Xc y (show b2<w.heap.size by omega)).trans g4
 clear y g0 g1 g2 g3 g4
 by_cases k1:j=1
 ·have l:=Xa (H1.out k1)
  have q1:(j==1)=true:=by simpa using k1
  clear k1 hno
  go_enter Tryz.func131,Tryz.ntmps131
  go_wp2_with fail
  refine (bk.out _ d.out).mono ?_
  rintro e G ⟨r,KV,IV,rfl,o,p⟩
  have f:=Xa (d.out.trans (p.mono d.out.size))
  have q:=Xa (o.low d.out.size)
  obtain ⟨ar,cr,J⟩:=Xg o.row
  rw[b4.out] at J
  subst J
  clear o p
  go_wp2_with fail
  go_ret2
  exact ⟨_,w.heap.size,KV,IV,by rw[l.out.1];rfl,Nat.le_refl _,by rw[l.out.2];exact q.out,f.out⟩
 have q1:(j==1)=false:=by simpa using k1
 by_cases k2:Y=1
 ·have l:=Xa (H2.out k1 k2)
  have q2:(Y==1)=true:=by simpa using k2
  clear k1 k2 hno
  go_enter Tryz.func131,Tryz.ntmps131
  go_wp2_with fail
  refine (bj.out _ d.out).mono ?_
  rintro e G ⟨r,KV,IV,rfl,o,p⟩
  have f:=Xa (d.out.trans (p.mono d.out.size))
  have q:=Xa (o.low d.out.size)
  obtain ⟨ar,cr,J⟩:=Xg o.row
  rw[b3.out] at J
  subst J
  clear o p
  go_wp2_with fail
  go_ret2
  exact ⟨_,w.heap.size,KV,IV,by rw[l.out.1];rfl,Nat.le_refl _,by rw[l.out.2];exact q.out,f.out⟩
 have q2:(Y==1)=false:=by simpa using k2
 by_cases k:j=Y
 case neg=>
  have l:=Xa (H3.out k1 k2 (fun h=>k h.1))
  have q3:(j !=Y)=true:=by simpa using k
  clear k1 k2 k hno
  go_enter Tryz.func131,Tryz.ntmps131
  go_wp2_with fail
  go_ret2
  exact ⟨_,w.heap.size,fun _=>undef,fun _=>undef,by rw[l.out.1];rfl,Nat.le_refl _,by rw[l.out.2];exact Nest.nil _ _ _ _,d.out⟩
 case pos=>
 have q3:(j !=Y)=false:=by simpa using k
 have ba:j≠5/\j≠6:=by rcases hno with h|h;exact absurd k h;exact h
 by_cases k3:j=3
 ·have l:=Xa (H4.out k1 k (by omega))
  rw[H5.out k3,S.out] at l
  have q4:(j==3)=true:=by simpa using k3
  obtain ⟨cc,cd⟩:=z.out k3
  obtain ⟨ce,cf⟩:=C.out (by omega)
  have bb:=Xa (Xdq (nx+ny) (by omega) (by omega)).2
  clear k1 k2 k k3 hno ba
  go_enter Tryz.func131,Tryz.ntmps131
  go_wp2_with fail
  refine (Kt (nx+ny) _).mono ?_
  rintro e G ⟨r,KV,IV,rfl,o,p⟩
  have f:=Xa (d.out.trans (p.mono d.out.size))
  have q:=Xa (o.low d.out.size)
  have L:=Xa (o.nodes (by simp[Xr]) bb.out)
  obtain ⟨ar,cr,J⟩:=Xg o.row
  simp only[Xr,List.length_cons,List.length_nil] at J
  subst J
  clear o p
  cases ok:okB (Xr 3 (nx+ny) ByteArray.empty)
  ·go_wp2_with fail
   refine (Gk G.heap.size _ _ G L.out (Nat.le_refl _) ok).mono ?_
   rintro e w4 ⟨rfl,g⟩
   have t:=Xa (f.out.trans (g.mono f.out.size))
   clear g
   go_wp2_with fail
   go_ret2
   exact ⟨_,w.heap.size,fun _=>undef,fun _=>undef,by rw[l.out.1,ok];rfl,Nat.le_refl _,by rw[l.out.2,ok];exact Nest.nil _ _ _ _,t.out⟩
  ·go_wp2_with fail
   refine (Vm G.heap.size _ _ G L.out (Nat.le_refl _) ok).mono ?_
   rintro e w4 ⟨rfl,g⟩
   have t:=Xa (f.out.trans (g.mono f.out.size))
   have bc:=Xa (q.out.below g)
   clear g
   go_wp2_with fail
   go_ret2
   exact ⟨_,w.heap.size,KV,IV,by rw[l.out.1,ok];rfl,Nat.le_refl _,by rw[l.out.2,ok];exact bc.out,t.out⟩
 have q4:(j==3)=false:=by simpa using k3
 by_cases k4:j=4
 ·have l:=Xa (H4.out k1 k (by omega))
  rw[H6.out k4,T.out] at l
  have q5:(j==4)=true:=by simpa using k4
  have s1:=D.out k4
  have s2:=F.out (by omega)
  have b6:∀w,(Op.stringOp .add P R).run Tryz.prog w= .ok (.string (P++R)) w:=fun w=>run_string_add_sum w P R (by omega)
  have b7:¬(P.size+R.size>9223372036854775807):=by omega
  have bb:=Xa (Xxx (P++R) (by rw[ByteArray.size_append];omega))
  clear k1 k2 k k3 k4 hno ba
  go_enter Tryz.func131,Tryz.ntmps131
  go_wp2_with fail
  refine (X3d (P++R) _).mono ?_
  rintro e G ⟨r,KV,IV,rfl,o,p⟩
  have f:=Xa (d.out.trans (p.mono d.out.size))
  have q:=Xa (o.low d.out.size)
  have L:=Xa (o.nodes (by simp[Xr]) bb.out)
  obtain ⟨ar,cr,J⟩:=Xg o.row
  simp only[Xr,List.length_cons,List.length_nil] at J
  subst J
  clear o p
  cases ok:okB (Xr 4 0 (P++R))
  ·go_wp2_with fail
   refine (Gk G.heap.size _ _ G L.out (Nat.le_refl _) ok).mono ?_
   rintro e w4 ⟨rfl,g⟩
   have t:=Xa (f.out.trans (g.mono f.out.size))
   clear g
   go_wp2_with fail
   go_ret2
   exact ⟨_,w.heap.size,fun _=>undef,fun _=>undef,by rw[l.out.1,ok];rfl,Nat.le_refl _,by rw[l.out.2,ok];exact Nest.nil _ _ _ _,t.out⟩
  ·go_wp2_with fail
   refine (Vm G.heap.size _ _ G L.out (Nat.le_refl _) ok).mono ?_
   rintro e w4 ⟨rfl,g⟩
   have t:=Xa (f.out.trans (g.mono f.out.size))
   have bc:=Xa (q.out.below g)
   clear g
   go_wp2_with fail
   go_ret2
   exact ⟨_,w.heap.size,KV,IV,by rw[l.out.1,ok];rfl,Nat.le_refl _,by rw[l.out.2,ok];exact bc.out,t.out⟩
 have q5:(j==4)=false:=by simpa using k4
 ·have k7:j=2:=by rcases b5.out with h|h|h|h|h|h<;>omega
  have l:=Xa (H3.out k1 k2 (fun h=>h.2 k7))
  have q6:(j==5)=false:=by simp;omega
  have q7:(j==6)=false:=by simp;omega
  clear k1 k2 k k3 k4 k7 hno ba
  go_enter Tryz.func131,Tryz.ntmps131
  go_wp2_with fail
  go_ret2
  exact ⟨_,w.heap.size,fun _=>undef,fun _=>undef,by rw[l.out.1];rfl,Nat.le_refl _,by rw[l.out.2];exact Nest.nil _ _ _ _,d.out⟩


theorem X3n {us vs:List VN} (h1:okB us=true) (h2:okB vs=true) {i k:Nat} (hi:i<(Xe us).length) (hk:k<(Xe vs).length):okB (PL us i)=true/\okB (PL vs k)=true/\ord (PL us i) (PL vs k) (PL us i).length ((PL us i).length-1) ((PL vs k).length-1)=Y9 (PL us i) (PL vs k):=by
 have a:=Ua (Zv h1).1 i hi
 have b:=Ua (Zv h2).1 k hk
 exact ⟨a,b,(Xac a b).symm⟩
theorem Xps (B : Nat) (v1 v2 : Value) (us vs : List VN) (w : World) (hn1 : NodesAt B w v1 us) (hn2 : NodesAt B w v2 vs) (hB : B <= w.heap.size) (ok1 : okB us = true) (ok2 : okB vs = true) (hk1 : (Xd us).kind = 5) (hk2 : (Xd vs).kind = 5) :
  Calls Tryz.prog 132 #[v1,v2] w fun e w'=>∃r base KV IV,e= .returned (.tuple #[r, .int .i64 (Vz us vs)])/\w.heap.size<=base/\Nest base w' r (Kg us vs) KV IV/\Below w.heap.size w w':=by
 have b9:=Xa hn1
 have ca:=Xa hn2
 have HM:=Xa (Xoi ok1 ok2 ⟨hk1,hk2⟩)
 have ft:=Xa (Xof ok1 hk1 vs hn1.fits)
 have dp:=Xa (Xsi ok1 vs)
 have d:=Xa (Ks hn1.fits)
 have l:=Xa (Ks hn2.fits)
 have cb:Hid (Zl us=(Xe us).length):=by unfold Hid Zl;rw[if_pos ok1]
 have cc:Hid (Zl vs=(Xe vs).length):=by unfold Hid Zl;rw[if_pos ok2]
 rw[cb.out] at d
 rw[cc.out] at l
 have cd:=Xa ok1
 have ce:=Xa ok2
 have bq:Hid (∀i k,i<(Xe us).length->k<(Xe vs).length->okB (PL us i)=true/\okB (PL vs k)=true/\ord (PL us i) (PL vs k) (PL us i).length ((PL us i).length-1) ((PL vs k).length-1)=Y9 (PL us i) (PL vs k)):=fun i k hi hk=>X3n ok1 ok2 hi hk
 have cf:Hid (Vj us vs=Yi 5 [] (U5 us vs) (Yg us vs (Xe us).length).length):=rfl
 have dq:=Xa (fun i=>Vy us vs i)
 have cg:Hid (∀i,Yg us vs (i+1)=if Za (Wo us vs i) (Xe vs).length=true then Yg us vs i else Yg us vs i++ [i]):=fun i=>rfl
 have br:Hid (U5 us vs=fun j=>PL us ((Yg us vs (Xe us).length).getD j 0)):=rfl
 obtain ⟨i0,dr,ds,dt,du⟩:=info_parts Xho
 obtain ⟨dv,dw⟩:=(Xm ok1).1
 obtain ⟨dx,dy⟩:=(Xm ok2).1
 obtain ⟨b1,o1,c1,ch,ci,cj,ck,cl,cm,e1,fu,u1,u2,d0,d1,d2,d3,d4⟩:=Q4 hn1 (by omega)
 clear u1 u2
 subst e1
 obtain ⟨b2,o2,c2,dz,d5,d6,d7,d8,d9,e1,fv,u1,u2,g0,g1,g2,g3,g4⟩:=Q4 hn2 (by omega)
 clear u1 u2
 subst e1
 obtain ⟨N1,cn⟩:∃N1,us.length=N1:=⟨_,rfl⟩
 obtain ⟨N2,cp⟩:∃N2,vs.length=N2:=⟨_,rfl⟩
 rw[cn] at dv dw d0 d1 d2 d3 d4 b9|-
 rw[cp] at dx dy g0 g1 g2 g3 g4 ca|-
 have z1:((N1:Int)-1).toNat=N1-1:=by omega
 have z2:((N2:Int)-1).toNat=N2-1:=by omega
 rw[hk1] at d0
 rw[hk2] at g0
 obtain ⟨nx,cq⟩:∃k,(Xd us).n=k:=⟨_,rfl⟩
 obtain ⟨ny,cs⟩:∃k,(Xd vs).n=k:=⟨_,rfl⟩
 obtain ⟨sx,ct⟩:∃k,(Xd us).s=k:=⟨_,rfl⟩
 obtain ⟨sy,cu⟩:∃k,(Xd vs).s=k:=⟨_,rfl⟩
 rw[cq] at d1
 rw[cs] at g1
 rw[ct] at d2
 rw[cu] at g2
 obtain ⟨V,be⟩:∃V,((w.alloc (.cells #[.int .i64 5, .int .i64 nx, .string sx, .slice ch ci cj, .slice ck cl cm] 75)).alloc (.cells #[.int .i64 5, .int .i64 ny, .string sy, .slice dz d5 d6, .slice d7 d8 d9] 75))=V:=⟨_,rfl⟩
 have cv:=Xa be
 have cw:Hid (V.heap.size=w.heap.size+1+1):=by rw[Hid,<-be];simp
 have cx:Hid (Below w.heap.size w V):=by rw[Hid,<-be];exact ((Below.refl _ _).alloc (Nat.le_refl _) _).alloc (by simp) _
 have R:Below w.heap.size w (w.alloc (.cells #[.int .i64 5, .int .i64 nx, .string sx, .slice ch ci cj, .slice ck cl cm] 75)):=(Below.refl _ _).alloc (Nat.le_refl _) _
 have e0:=(Xc R (show b2<w.heap.size by omega)).trans g0
 have e1:=(Xc R (show b2<w.heap.size by omega)).trans g1
 have e2:=(Xc R (show b2<w.heap.size by omega)).trans g2
 have e3:=(Xc R (show b2<w.heap.size by omega)).trans g3
 have e4:=(Xc R (show b2<w.heap.size by omega)).trans g4
 clear R g0 g1 g2 g3 g4 hn1 hn2 cn cp cq cs ct cu ok1 ok2 hk1 hk2 be
 go_enter Tryz.func132,Tryz.ntmps132
 go_wp2_with fail
 rw[cv.out]
 clear d0 d1 d2 d3 d4 e0 e1 e2 e3 e4 cv
 have cy:=cx.out.size
 obtain ⟨WB,X⟩:∃WB,V.alloc (.cells #[] 25)=WB:=⟨_,rfl⟩
 have cz:Hid (WB.ownsRow w.heap.size 25 1 (.slice (some ⟨V.heap.size,0,none⟩) 0 0) 0 []):=by
  have:=World.ownsRow_lit (base:=w.heap.size) (e:=25) (size:=1) V #[] 0 cy (by simp[maxLen]) rfl
  rw[X] at this
  simpa [Hid] using this
 have bf:Hid (Below w.heap.size w WB):=by rw[Hid,<-X];exact cx.out.alloc cy _
 have fw:WB.heap.size=V.heap.size+1:=by rw[<-X];simp
 rw[X]
 clear X
 refine (Kn B _ us WB (b9.out.below (bf.out.mono hB)) (Nat.le_trans hB bf.out.size) cd.out).mono ?_
 rintro e w1 ⟨r1,Y,K1,I1,fx,rfl,bs,G⟩
 have bg:=Xa (bf.out.trans (G.mono bf.out.size))
 have bt:=Xa bs
 have bm:=Xa (Vd cz.out ((From.refl w.heap.size WB).below G))
 have fy:=G.size
 obtain ⟨M,hM⟩:∃M,(Xe us).length=M:=⟨_,rfl⟩
 obtain ⟨M',bu⟩:∃M',(Xe vs).length=M':=⟨_,rfl⟩
 obtain ⟨aM,cM,eM⟩:=Xg bs.row
 rw[hM] at eM bt d bq cf br
 rw[bu] at l bq cg
 subst eM
 have fa:=Xa hM
 have c6:=Xa bu
 clear bs G hM bu
 go_wp2_with fail
 refine (Kn B _ vs w1 (ca.out.below (bg.out.mono hB)) (Nat.le_trans hB bg.out.size) ce.out).mono ?_
 rintro e WW ⟨r2,fb,K2,I2,fz,rfl,bh,p⟩
 rw[c6.out] at bh
 have fc:=Xa (bg.out.trans (p.mono bg.out.size))
 have c7:=Xa (bt.out.below p)
 have c8:=Xa bh
 have fd:=Xa (Vd bm.out ((From.refl w.heap.size w1).below p))
 have f0:=p.size
 obtain ⟨f1,fe,ff⟩:=Xg bh.row
 subst ff
 have fr:M<=80:=d.out.1
 have fg:M'<=80:=l.out.1
 clear bh p bt bm cz
 go_wp2_with fail
 go_loopw [8,11,12,13] (fun o i _ _ wr=>∃(n:Nat),n<=M/\i= .int .i64 n/\wr.ownsRow w.heap.size 25 1 o (Yg us vs n).length ((Yg us vs n).map Y)/\(∀g,o.ownBlock=some g->g=V.heap.size\/WW.heap.size<=g)/\From (V.heap.size+1) WW wr/\Below w.heap.size w wr) (fun _ i _ _ _=>M-(intOf i).toNat)
 case atStart=>exact ⟨0,Nat.zero_le _,rfl,by rw[<-cw.out];exact fd.out,fun g hg=>by have:=cw.out;simp[Value.ownBlock] at hg;omega,From.refl _ _,fc.out⟩
 case round =>
  obtain ⟨i,hi,rfl,bn,t,bv,bw⟩:=hrel
  obtain ⟨W,rfl⟩:∃W,W=wr:=⟨_,rfl⟩
  have J:=Xa bn
  have Z:=Xa t
  have bx:=Xa bv
  have c9:=Xa bw
  have ba:=Xa (c7.out.from (bx.out.mono (by omega)))
  have bi:=Xa (c8.out.from (bx.out.mono (by omega)))
  have zW:=bw.size
  have f2:=bv.1
  have bz:=Xa (dq.out i)
  have bb:=Xa (cg.out i)
  obtain ⟨ps,b0⟩:∃ps,Yg us vs i=ps:=⟨_,rfl⟩
  have b3:=Xa b0
  rw[b0] at J bz bb
  obtain ⟨NP,bj⟩:∃NP,ps.length=NP:=⟨_,rfl⟩
  have S:=Xa bj
  obtain ⟨ao,co,eo⟩:=Xg J.out
  rw[bj] at eo
  subst eo
  have fs:NP<=i:=by rw[<-bj];exact bz.out.1
  clear bn t bv bw b0 bj
  by_cases hlt:i<M
  ·obtain ⟨b1,f3,em,f4,da⟩:=ba.out.row.form (show 0<M by omega)
   cases em
   have b4:W.cell? ⟨b1,i,none⟩=some (Y i):=by rw[ba.out.row.cellAt i (by omega)];simp[hlt]
   have db:=Xa ((ba.out.nest i hlt).nodes (by have:=(d.out.2 i hlt).1.1;omega) (d.out.2 i hlt).2)
   obtain ⟨aR,cR,eR⟩:=Xg (ba.out.nest i hlt).row
   obtain ⟨NR,dc⟩:∃NR,(PL us i).length=NR:=⟨_,rfl⟩
   have dd:Hid (Y i= .slice aR NR cR):=by rw[Hid,eR,dc]
   rw[dd.out] at b4 db
   clear dc eR
   go_wp2_with fail
   go_loopw [12,13] (fun h k w4=>∃(n:Nat) (q:Bool),n<=M'/\k= .int .i64 n/\h= .bool q/\Hid (q=Za (Wo us vs i) n)/\Below W.heap.size W w4) (fun _ k _=>M'-(intOf k).toNat)
   case atStart=>exact ⟨0,false,Nat.zero_le _,rfl,rfl,rfl,Below.refl _ _⟩
   case round =>
    obtain ⟨k,q,hk,rfl,rfl,HQ,b⟩:=hrel
    obtain ⟨D,rfl⟩:∃D,D=wr:=⟨_,rfl⟩
    by_cases hlk:k<M'
    ·obtain ⟨b2,f5,eg,f6,fh⟩:=bi.out.row.form (show 0<M' by omega)
     cases eg
     have fi:D.cell? ⟨b2,k,none⟩=some (fb k):=(Xc b fh).trans (by rw[bi.out.row.cellAt k (by omega)];simp[hlk])
     have de:D.cell? ⟨b1,i,none⟩=some (.slice aR NR cR):=(Xc b da).trans b4
     have df:=Xa ((bi.out.nest k hlk).nodes (by have:=(l.out.2 k hlk).1.1;omega) (l.out.2 k hlk).2)
     obtain ⟨aG,cG,eG⟩:=Xg (bi.out.nest k hlk).row
     obtain ⟨NG,dg⟩:∃NG,(PL vs k).length=NG:=⟨_,rfl⟩
     rw[eG,dg] at fi df
     have bk:=Xa (bq.out i k hlt hlk)
     have b5:Hid (Za (Wo us vs i) (k+1)=(Za (Wo us vs i) k||Wo us vs i k)):=rfl
     have b6:Hid (Wo us vs i k=decide (Y9 (PL us i) (PL vs k)=0)):=rfl
     clear dg eG
     cases q
     ·obtain ⟨Q,dh⟩:∃Q,Y9 (PL us i) (PL vs k)=Q:=⟨_,rfl⟩
      rw[dh] at b6 bk
      have bo:Hid (∀W',Below D.heap.size D W'->Calls Tryz.prog 130 #[.slice aR NR cR, .slice aG NG cG] W' fun e w'=>e= .returned (.int .i64 Q)/\Below W'.heap.size W' w'):=fun W' hb'=>by
       have hz:=Nat.le_trans b.size hb'.size
       have di:Below W.heap.size W W':=b.trans (hb'.mono b.size)
       have a1:=Xm bk.out.1
       have a2:=Xm bk.out.2.1
       have:=Xee W.heap.size _ _ (PL us i) (PL vs k) W' ⟨db.out.below di,df.out.below di,a1.2.1,a2.2.1⟩ hz a1.1 a2.1
       rw[bk.out.2.2] at this
       exact this
      have T:Hid (Below D.heap.size D D.drew):=(Below.refl _ _).drew
      clear dh
      rcases (show ((Q==0)=true/\Hid (true=Za (Wo us vs i) (k+1)))\/((Q==0)=false/\Hid (false=Za (Wo us vs i) (k+1))) by
       by_cases hQ0:Q=0
       ·exact .inl ⟨by simpa using hQ0,by rw[Hid,b5.out,b6.out,hQ0];simp⟩
       ·exact .inr ⟨by simpa using hQ0,by rw[Hid,b5.out,b6.out,<-HQ.out];simp[hQ0]⟩) with ⟨hQb,z⟩|⟨hQb,z⟩
      all_goals
       go_wp2_with fail
       refine wp_region_any (by kernel_rfl) ?_
       change wpAny _ _ _ _ _ _ _ (World.drew _)
       refine wpAny_take (i:=0) (v:= .bool false) rfl (by kernel_rfl) (by kernel_rfl) (by kernel_rfl) (fun _ _ _ h=>h) (Or.inl ⟨by kernel_rfl,fun w=> ?_⟩) ?_
       ·go_simp
       refine wpAny_take (i:=1) (v:= .bool false) rfl (by kernel_rfl) (by kernel_rfl) (by kernel_rfl) (fun _ _ _ h=>h) (Or.inl ⟨by kernel_rfl,fun w=> ?_⟩) ?_
       ·go_simp
       refine wpAny_take (i:=2) (v:= .slice (some ⟨b1,0,none⟩) M cM) rfl (by kernel_rfl) (by kernel_rfl) (by kernel_rfl) (fun _ _ _ h=>h) (Or.inl ⟨by kernel_rfl,fun w=> ?_⟩) ?_
       ·go_simp
       refine wpAny_take (i:=3) (v:= .int .i64 i) rfl (by kernel_rfl) (by kernel_rfl) (by kernel_rfl) (fun _ _ _ h=>h) (Or.inl ⟨by kernel_rfl,fun w=> ?_⟩) ?_
       ·go_simp
       refine wpAny_take (i:=4) (v:= .pointer (some ⟨b1,i,none⟩)) rfl (by kernel_rfl) (by kernel_rfl) (by kernel_rfl) (fun _ _ _ h=>h) (Or.inl ⟨by kernel_rfl,fun w=> ?_⟩) ?_
       ·go_simp
       refine wpAny_take (i:=6) (v:= .slice (some ⟨b2,0,none⟩) M' fe) rfl (by kernel_rfl) (by kernel_rfl) (by kernel_rfl) (fun _ _ _ h=>h) (Or.inl ⟨by kernel_rfl,fun w=> ?_⟩) ?_
       ·go_simp
       refine wpAny_take (i:=7) (v:= .int .i64 k) rfl (by kernel_rfl) (by kernel_rfl) (by kernel_rfl) (fun _ _ _ h=>h) (Or.inl ⟨by kernel_rfl,fun w=> ?_⟩) ?_
       ·go_simp
       refine wpAny_take (i:=8) (v:= .pointer (some ⟨b2,k,none⟩)) rfl (by kernel_rfl) (by kernel_rfl) (by kernel_rfl) (fun _ _ _ h=>h) (Or.inl ⟨by kernel_rfl,fun w=> ?_⟩) ?_
       ·go_simp
       refine wpAny_ready (rs:= [5,9]) (by kernel_rfl) (by simp) ?_
       refine AllReady.cons rfl (fun K hK=> ?_) ?_
       ·go_simp
        refine hK _ _ ?_
        clear hK K
        refine wpAny_ready (rs:= [9]) (by kernel_rfl) (by simp) ?_
        refine AllReady.cons rfl (fun K hK=> ?_) AllReady.nil
        go_simp
        refine hK _ _ ?_
        clear hK K
        refine wpAny_ready (rs:= [10]) (by kernel_rfl) (by simp) ?_
        refine AllReady.cons rfl (fun K hK=> ?_) AllReady.nil
        refine Xgv (by kernel_rfl) 130 (.tmp 73) (.tmp 77) 25 25 (by kernel_rfl) (.slice aR NR cR) (.slice aG NG cG) (by kernel_rfl) (by kernel_rfl) (Xfm _ _) (bo.out _ T.out) ?_
        rintro e w5 ⟨rfl,bc⟩
        have bd:Hid (Below W.heap.size W w5):=b.trans ((T.out.trans (bc.mono T.out.size)).mono b.size)
        clear bc
        refine ⟨_,rfl, ?_⟩
        go_simp
        refine hK _ _ ?_
        clear hK K
        refine wpAny_ready (rs:= [11]) (by kernel_rfl) (by simp) ?_
        refine AllReady.cons rfl (fun K hK=> ?_) AllReady.nil
        go_simp
        refine hK _ _ ?_
        clear hK K
        refine wpAny_ready (rs:= [12]) (by kernel_rfl) (by simp) ?_
        refine AllReady.cons rfl (fun K hK=> ?_) AllReady.nil
        go_simp
        refine hK _ _ ?_
        clear hK K
        refine wpAny_ready (rs:= [13]) (by kernel_rfl) (by simp) ?_
        refine AllReady.cons rfl (fun K hK=> ?_) AllReady.nil
        go_simp
        refine hK _ _ ?_
        clear hK K
        refine wpAny_done (by kernel_rfl) ?_ _
        go_wp2_with fail
        go_roundw
        case rel=>exact ⟨k+1,_,by omega,by go_num,rfl,z,bd.out⟩
        case measure=>simp[intOf];omega
       ·refine AllReady.cons rfl (fun K hK=> ?_) AllReady.nil
        go_simp
        refine hK _ _ ?_
        clear hK K
        refine wpAny_ready (rs:= [5]) (by kernel_rfl) (by simp) ?_
        refine AllReady.cons rfl (fun K hK=> ?_) AllReady.nil
        go_simp
        refine hK _ _ ?_
        clear hK K
        refine wpAny_ready (rs:= [10]) (by kernel_rfl) (by simp) ?_
        refine AllReady.cons rfl (fun K hK=> ?_) AllReady.nil
        refine Xgv (by kernel_rfl) 130 (.tmp 73) (.tmp 77) 25 25 (by kernel_rfl) (.slice aR NR cR) (.slice aG NG cG) (by kernel_rfl) (by kernel_rfl) (Xfm _ _) (bo.out _ T.out) ?_
        rintro e w5 ⟨rfl,bc⟩
        have bd:Hid (Below W.heap.size W w5):=b.trans ((T.out.trans (bc.mono T.out.size)).mono b.size)
        clear bc
        refine ⟨_,rfl, ?_⟩
        go_simp
        refine hK _ _ ?_
        clear hK K
        refine wpAny_ready (rs:= [11]) (by kernel_rfl) (by simp) ?_
        refine AllReady.cons rfl (fun K hK=> ?_) AllReady.nil
        go_simp
        refine hK _ _ ?_
        clear hK K
        refine wpAny_ready (rs:= [12]) (by kernel_rfl) (by simp) ?_
        refine AllReady.cons rfl (fun K hK=> ?_) AllReady.nil
        go_simp
        refine hK _ _ ?_
        clear hK K
        refine wpAny_ready (rs:= [13]) (by kernel_rfl) (by simp) ?_
        refine AllReady.cons rfl (fun K hK=> ?_) AllReady.nil
        go_simp
        refine hK _ _ ?_
        clear hK K
        refine wpAny_done (by kernel_rfl) ?_ _
        go_wp2_with fail
        go_roundw
        case rel=>exact ⟨k+1,_,by omega,by go_num,rfl,z,bd.out⟩
        case measure=>simp[intOf];omega
     ·have z:Hid (true=Za (Wo us vs i) (k+1)):=by rw[Hid,b5.out,<-HQ.out];rfl
      go_wp2_with fail
      go_quiet (fail)
      go_wp2_with fail
      go_roundw
      case rel=>exact ⟨k+1,true,by omega,by go_num,rfl,z,below_drewN b nq⟩
      case measure=>simp[intOf];omega
    ·obtain rfl:k=M':=by omega
     have de:D.cell? ⟨b1,i,none⟩=some (.slice aR NR cR):=(Xc b da).trans b4
     have P:=Xa (bx.out.below b)
     have C:=Xa (c9.out.trans (b.mono zW))
     have F:=Xa (Vd J.out ((From.refl w.heap.size W).below b))
     cases q
     ·have b7:Hid (Yg us vs (i+1)=ps++ [i]):=by rw[Hid,bb.out,<-HQ.out];rfl
      go_wp2_with (at_builtin;refine wpList_append_own_at _ rfl _ _ 28 rfl w.heap.size 25 i0 (.slice none 0 0) 1 24 Tryz.underlying28 dr ds dt du rfl (by decide) _ _ _ rfl (F.out.alloc _) ⟨D.heap.size,0,none⟩ 1 1 [.slice aR NR cR] rfl rfl ?c1 ?c2 ?c3 ?c4 ?c5 ?_)
      case c1=>exact cell_one_new _ _ _
      case c2=>intro u hu;simp at hu;subst hu;rfl
      case c3=>have:=S.out;unfold maxLen;omega
      case c4=>have:=S.out;omega
      case c5=>have:=C.out.size;simp;omega
      intro v' w5 t f _ dj
      have b8:Hid (w5.ownsRow w.heap.size 25 1 v' (Yg us vs (i+1)).length ((Yg us vs (i+1)).map Y)):=by
       rw[Hid,b7.out,List.map_append,List.length_append]
       simp only[List.map_cons,List.map_nil,List.length_singleton]
       rw[dd.out]
       exact t
      have z4:=b.size
      have fj:Hid (∀g,v'.ownBlock=some g->g=V.heap.size\/WW.heap.size<=g):=fun g hg=>by
       rcases dj with e|e
       ·rw[e] at hg;exact Z.out g hg
       ·rw[e] at hg;simp at hg;omega
      have fk:Hid (From (V.heap.size+1) WW w5):=by
       have fl:=f.size
       refine ⟨by have:=P.out.1;simp at fl;omega,fun c h1 h2=> ?_⟩
       refine Eq.trans ?_ (P.out.2 c h1 h2)
       have fm:c<D.heap.size:=by have:=P.out.1;omega
       refine (f.block c (by simp;omega) (fun e=> ?_)).trans (((Below.refl D.heap.size D).alloc (Nat.le_refl _) _).block c fm)
       have:=Z.out c (by simpa using e.symm)
       omega
      have bd:Hid (Below w.heap.size w w5):=(C.out.alloc C.out.size _).grown f (by have:=C.out.size;simp;omega) (fun y hy=>(F.out.lt y hy).1)
      clear t f dj
      go_wp2_with fail
      go_roundw
      case rel=>exact ⟨i+1,by omega,by go_num,b8.out,fj.out,fk.out,bd.out⟩
      case measure=>simp[intOf];omega
     ·have b7:Hid (Yg us vs (i+1)=ps):=by rw[Hid,bb.out,<-HQ.out,if_pos rfl]
      have b8:Hid (D.ownsRow w.heap.size 25 1 (.slice ao NP co) (Yg us vs (i+1)).length ((Yg us vs (i+1)).map Y)):=by rw[Hid,b7.out];exact F.out
      go_wp2_with fail
      go_roundw
      case rel=>exact ⟨i+1,by omega,by go_num,b8.out,Z.out,P.out,C.out⟩
      case measure=>simp[intOf];omega
  ·obtain rfl:i=M:=by omega
   have dk:=Xa (Xyq (L:=PL us) J.out (by have:=S.out;omega) (Nat.le_refl _) (m:=i) bz.out.2 (fun j hj=>(ba.out.nest j hj).nodes (by have:=(d.out.2 j hj).1.1;omega) (d.out.2 j hj).2))
   rw[S.out] at dk
   have fn:Hid (Vj us vs=Yi 5 [] (fun j=>PL us (ps.getD j 0)) NP):=by rw[Hid,cf.out,br.out,b3.out,S.out]
   have bp:Hid (∀j,j<NP->okB (PL us (ps.getD j 0))=true):=fun j hj=>by
    have:=dp.out j
    rw[fa.out,b3.out,S.out,br.out,b3.out] at this
    exact this hj
   have fo:=Xa (Ve bp.out NP (Nat.le_refl _))
   go_wp2_with fail
   refine (Xa5 W.heap.size 5 _ _ [] NP (fun j=>PL us (ps.getD j 0)) W ⟨by simp,fun i hi=>absurd hi (by simp),none,0,rfl,fun h=>absurd h (by simp)⟩ dk.out (Nat.le_refl _) (by omega) (by simp) (by have:=fo.out;omega) (Xc1 bp.out)).mono ?_
   rintro e w6 ⟨r,KV,IV,rfl,bl,dl⟩
   rw[<-fn.out] at bl
   have fp:=Xa bl
   have fq:=Xa (c9.out.trans (dl.mono zW))
   obtain ⟨ar,cr,er⟩:=Xg bl.row
   obtain ⟨NN,dm⟩:∃NN,(Vj us vs).length=NN:=⟨_,rfl⟩
   rw[dm] at er
   subst er
   clear bl dl dm
   go_wp2_with fail
   go_ret2
   exact ⟨_,W.heap.size,KV,IV,by rw[HM.out.1];rfl,zW,by rw[HM.out.2];exact fp.out,fq.out⟩


def Jh (m:List (List VN)) (v:List VN) (k:Nat):List (List VN):=((m.take k).filter Xu).map fun _=>v
theorem Xkz (m:List (List VN)) (v:List VN):Jh m v 0= []:=rfl
theorem Xzw {m:List (List VN)} {v:List VN} {k:Nat} (h:k<m.length) (ht:Xu (Xn m k)=true):Jh m v (k+1)=Jh m v k++ [v]:=by
 unfold Jh
 rw[Vg h,if_pos ht,List.map_append]
 rfl
theorem X2u {m:List (List VN)} {v:List VN} {k:Nat} (h:k<m.length) (ht:Xu (Xn m k)=false):Jh m v (k+1)=Jh m v k:=by
 unfold Jh
 rw[Vg h,if_neg (by rw[ht];simp),List.append_nil]
theorem Xzx (m:List (List VN)) (v:List VN):Jh m v m.length=(m.filter Xu).map fun _=>v:=by unfold Jh;rw[List.take_length]
theorem Xzy (m:List (List VN)) (v:List VN) (k:Nat):(Jh m v k).length<=k:=by
 unfold Jh
 rw[List.length_map]
 exact Nat.le_trans (List.length_filter_le _ _) (by rw[List.length_take];exact Nat.min_le_left _ _)
def Qr (m:List (List VN)) (k:Nat):List (List VN):=(m.take k).filter Xu
theorem Xk0 (m:List (List VN)):Qr m 0= []:=rfl
theorem Xzz {m:List (List VN)} {k:Nat} (h:k<m.length) (ht:Xu (Xn m k)=true):Qr m (k+1)=Qr m k++ [Xn m k]:=by
 unfold Qr
 rw[Vg h,if_pos ht]
theorem X2v {m:List (List VN)} {k:Nat} (h:k<m.length) (ht:Xu (Xn m k)=false):Qr m (k+1)=Qr m k:=by
 unfold Qr
 rw[Vg h,if_neg (by rw[ht];simp),List.append_nil]
theorem Xnm (m:List (List VN)):Qr m m.length=m.filter Xu:=by unfold Qr;rw[List.take_length]
theorem Xz0 (m:List (List VN)) (k:Nat):(Qr m k).length<=k:=by
 unfold Qr
 exact Nat.le_trans (List.length_filter_le _ _) (by rw[List.length_take];exact Nat.min_le_left _ _)
end Go.Proofs.YtdjddneidbddpaaGreatDoor
