import Derived.Test.YtdjddneidbddpaaGreatDoorSeQ
import Derived.Test.YtdjddneidbddpaaGreatDoorLowN
import Derived.Test.YtdjddneidbddpaaGreatDoorSSort
import Derived.Test.YtdjddneidbddpaaGreatDoorEqS2
import Derived.Test.YtdjddneidbddpaaGreatDoorStbN
import Derived.Test.YtdjddneidbddpaaGreatDoorStepI
import Derived.Laws.Concat
namespace Go.Proofs.YtdjddneidbddpaaGreatDoor
set_option linter.unusedSectionVars false
set_option maxHeartbeats 12800000
open Go.RowKit
set_option linter.unusedSimpArgs false
set_option linter.unusedVariables false
theorem TreeAt.full {B:Nat} {w:World}:∀{f:Nat} {t:VT} {v:Value},TreeAt B w f t v->Ge f t:=by
 intro f
 induction f with
 |zero=>intro t v h;exact h.elim
 | succ f ih =>
  intro t v h
  obtain ⟨l,n,s,keys,kids⟩:=t
  have g:∀d,Jb B w d kids.length (fun j u=>TreeAt B w f (Yg kids j) u)->∀j,j<kids.length->Ge f (Yg kids j):=by
   rintro d ⟨_,a,o,e,p⟩ j c
   obtain ⟨b,z,C,q⟩:=p (by omega)
   obtain ⟨t,x,_,y⟩:=q j c
   exact ih y
  rcases h with ⟨_,_,_,_,hk,_⟩|⟨_,_,_,hk,_⟩|⟨_,_,_,hk,_⟩|⟨_,_,_,hk,_⟩|⟨_,_,_,_,d,_,hi⟩|⟨_,_,_,ks,d,_,_,hi⟩
  ·subst hk;exact fun j c=>absurd c (by simp)
  ·subst hk;exact fun j c=>absurd c (by simp)
  ·subst hk;exact fun j c=>absurd c (by simp)
  ·subst hk;exact fun j c=>absurd c (by simp)
  ·exact g d hi
  ·exact g d hi
theorem TreeAt.less {B:Nat} {w:World}:∀{g f:Nat} {t:VT} {v:Value},Ge g t->TreeAt B w f t v->TreeAt B w g t v:=by
 intro g
 induction g with
 |zero=>intro f t v p _;exact p.elim
 | succ g ih =>
  intro f t v p h
  cases f with
  |zero=>exact h.elim
  | succ f =>
   obtain ⟨y,n,s,keys,kids⟩:=t
   have d:∀c,Jb B w c kids.length (fun j u=>TreeAt B w f (Yg kids j) u)->Jb B w c kids.length (fun j u=>TreeAt B w g (Yg kids j) u):=by
    rintro c ⟨z,a,q,e,C⟩
    refine ⟨z,a,q,e,fun hn=> ?_⟩
    obtain ⟨b,D,l,o⟩:=C hn
    refine ⟨b,D,l,fun j hj=> ?_⟩
    obtain ⟨t,x,F,G⟩:=o j hj
    exact ⟨t,x,F,ih (p j hj) G⟩
   rcases h with h|h|h|h|⟨h1,l,o,h4,c,e,hi⟩|⟨h1,l,o,ks,c,e,hs,hi⟩
   ·exact Or.inl h
   ·exact Or.inr (Or.inl h)
   ·exact Or.inr (Or.inr (Or.inl h))
   ·exact Or.inr (Or.inr (Or.inr (Or.inl h)))
   ·exact Or.inr (Or.inr (Or.inr (Or.inr (Or.inl ⟨h1,l,o,h4,c,e,d c hi⟩))))
   ·exact Or.inr (Or.inr (Or.inr (Or.inr (Or.inr ⟨h1,l,o,ks,c,e,hs,d c hi⟩))))
structure Reads2 (w w':World):Prop where
 size:w.heap.size<=w'.heap.size
 ifc:∀b o t x,w.cell? ⟨b,o,none⟩=some (.iface t x)->w'.cell? ⟨b,o,none⟩=some (.iface t x)
 str:∀b o s,w.cell? ⟨b,o,none⟩=some (.string s)->w'.cell? ⟨b,o,none⟩=some (.string s)
theorem StrsAt.reads {B B':Nat} {w w':World} {v:Value} {l:List ByteArray} (hr:Reads2 w w') (hB:B<=B') (h:StrsAt B w v l):StrsAt B' w' v l:=by
 obtain ⟨d,f,a,c,e,g⟩:=h
 refine ⟨d,f,a,c,e,fun hp=> ?_⟩
 obtain ⟨b,o,j,q,p⟩:=g hp
 exact ⟨b,o,j,by omega,fun i hi=>hr.str _ _ _ (p i hi)⟩
theorem TreeAt.reads {B B':Nat} {w w':World} (hr:Reads2 w w') (hB:B<=B'):∀{f:Nat} {t:VT} {v:Value},TreeAt B w f t v->TreeAt B' w' f t v:=by
 intro f
 induction f with
 |zero=>intro t v h;exact h.elim
 | succ f ih =>
  intro t v h
  obtain ⟨p,n,s,keys,kids⟩:=t
  have d:∀c,Jb B w c kids.length (fun j u=>TreeAt B w f (Yg kids j) u)->Jb B' w' c kids.length (fun j u=>TreeAt B' w' f (Yg kids j) u):=by
   rintro c ⟨q,a,o,e,y⟩
   refine ⟨q,a,o,e,fun hn=> ?_⟩
   obtain ⟨b,z,l,g⟩:=y hn
   refine ⟨b,z,by omega,fun j hj=> ?_⟩
   obtain ⟨t,x,C,D⟩:=g j hj
   exact ⟨t,x,hr.ifc _ _ _ _ C,ih D⟩
  rcases h with h|h|h|h|⟨h1,l,g,h4,c,e,hi⟩|⟨h1,l,g,ks,c,e,hs,hi⟩
  ·exact Or.inl h
  ·exact Or.inr (Or.inl h)
  ·exact Or.inr (Or.inr (Or.inl h))
  ·exact Or.inr (Or.inr (Or.inr (Or.inl h)))
  ·exact Or.inr (Or.inr (Or.inr (Or.inr (Or.inl ⟨h1,l,g,h4,c,e,d c hi⟩))))
  ·exact Or.inr (Or.inr (Or.inr (Or.inr (Or.inr ⟨h1,l,g,ks,c,e,hs.reads hr hB,d c hi⟩))))
def Rep (w:World) (ns:List VN) (x:Value):Prop:=okB ns=true/\TreeAt w.heap.size w 80 (Xac ns) x
theorem Rep.reads {w w':World} {ns:List VN} {x:Value} (h:Rep w ns x) (hr:Reads2 w w'):Rep w' ns x:=⟨h.1,h.2.reads hr hr.size⟩
theorem Rep.iface {w:World} {ns:List VN} {x:Value} (h:Rep w ns x):∃t y,x= .iface t y:=h.2.iface
theorem Xhk {ns:List VN} (h:okB ns=true):Yc 80 (Xac ns) 0=ns:=by
 rw[Xpg h 0]
 have:ns.map (X5 ((0:Nat):Int))=ns.map id:=List.map_congr_left fun x _=>Xgr x
 rw[this,List.map_id]
theorem Xk9 {ns:List VN} (h:okB ns=true):Ge 80 (Xac ns):=by
 have p:=(Xm h).1
 exact (V3 h 80 (ns.length-1) (by omega) (by omega)).full
theorem Xla {ns:List VN} (h:okB ns=true) {f:Nat} {t:VT} (hf:Ge f t) (hl:Yc f t 0=ns):t=Xac ns:=by
 have b:=Xfh hf ns 0 (f+80) (by omega) (fun j hj=>by rw[Nat.zero_add,hl])
 have c:=Xfh (Xk9 h) ns 0 (f+80) (by omega) (fun j hj=>by rw[Nat.zero_add,Xhk h])
 rw[hl] at b
 rw[Xhk h] at c
 exact b.symm.trans c
theorem Rep.of {w:World} {ns:List VN} {x:Value} {f:Nat} {t:VT} (ht:TreeAt w.heap.size w f t x) (hl:Yc f t 0=ns) (ok:okB ns=true):Rep w ns x:=by
 have e:=Xla ok ht.full hl
 subst e
 exact ⟨ok,ht.less (Xk9 ok)⟩
theorem Xso (ns:List VN):Xac ns= .mk (Xd ns).kind (Xd ns).n (Xd ns).s (Xd ns).keys ((Xe ns).map fun k=>Xt ns 79 k.toNat):=rfl
theorem X25 (ns:List VN) {j:Nat} (h:j<(Xe ns).length):Yg ((Xe ns).map fun k=>Xt ns 79 k.toNat) j=Xt ns 79 (Xj (Xe ns) j).toNat:=G8 h
theorem X4l {ns:List VN} (ok:okB ns=true) {j:Nat} (h:j<(Xe ns).length):Yc 79 (Xt ns 79 (Xj (Xe ns) j).toNat) 0=PL ns j:=by
 obtain ⟨q,b,c⟩:=Zh ok h
 have p:=(Xm ok).1
 unfold PL
 rw[b,Int.toNat_natCast]
 exact (G7 ok (by omega) (by omega)).1


theorem Vo (B:Nat) (v:Value) (vs:List VN) (w:World) (h:NodesAt B w v vs) (hB:B<=w.heap.size) (ok:okB vs=true):
  Calls Tryz.prog 74 #[v] w fun e w'=>e= .returned (.tuple #[v, .int .i64 0])/\Below w.heap.size w w':=by
 have c:=Xa h
 obtain ⟨_,a,d,rfl,_⟩:=h
 go_enter Tryz.func74,Tryz.ntmps74
 go_wp2_with fail
 refine (Xa1 B _ vs _ c.out hB).mono ?_
 rintro e f ⟨rfl,b⟩
 rw[ok]
 go_wp2_with fail
 go_ret2
 exact ⟨rfl,b⟩
theorem Gl (B:Nat) (v:Value) (vs:List VN) (w:World) (h:NodesAt B w v vs) (hB:B<=w.heap.size) (ok:okB vs=false):
  Calls Tryz.prog 74 #[v] w fun e w'=>e= .returned (.tuple #[.slice none 0 0, .int .i64 3])/\Below w.heap.size w w':=by
 have c:=Xa h
 obtain ⟨_,a,d,rfl,_⟩:=h
 go_enter Tryz.func74,Tryz.ntmps74
 go_wp2_with fail
 refine (Xa1 B _ vs _ c.out hB).mono ?_
 rintro e f ⟨rfl,b⟩
 rw[ok]
 go_wp2_with fail
 go_ret2
 exact ⟨rfl,b⟩
theorem Wa (u v:Value):∀w,(callFunc 130 #[u,v]).run Tryz.prog w= .ok (.enter 130 #[u,v]) w:=fun w=>by kernel_rfl
theorem Xyv {base B m:Nat} {w:World} {v:Value} {ps:List Nat} {cs:Nat->Value} {L:Nat->List VN} (h:w.ownsRow base 25 1 v ps.length (ps.map cs)) (hm:ps.length<=1048576) (hB:B<=w.heap.size) (hps:∀x∈ps,x<m) (hc:∀i,i<m->NodesAt B w (cs i) (L i)):Uw w.heap.size w v ps.length (fun j=>L (ps.getD j 0)):=by
 obtain ⟨a,c,e⟩:=Xg h
 subst e
 refine ⟨hm,a,c,rfl,fun hp=> ?_⟩
 obtain ⟨g,d,e,_,b⟩:=h.form hp
 cases e
 refine ⟨g,rfl,b,fun i hi=>⟨cs (ps.getD i 0), ?_, ?_⟩⟩
 ·rw[h.cellAt i (by omega),List.getElem?_map,List.getElem?_eq_getElem (by omega),List.getD_eq_getElem?_getD,List.getElem?_eq_getElem (by omega)]
  rfl
 ·refine (hc _ ?_).wide hB
  apply hps
  rw[List.getD_eq_getElem?_getD,List.getElem?_eq_getElem (by omega)]
  exact List.getElem_mem _
theorem Xhu:(Tryz.prog.info? 25).map (fun i=>(i.zero,i.size,i.bytes))=some (some (.slice none 0 0),1,24):=by kernel_rfl
theorem Q8 {B:Nat} {w:World} {v:Value} {us:List VN} (h:NodesAt B w v us) (hl:0<us.length):∃b o c aK nK cK aI nI cI,v= .slice (some ⟨b,o,none⟩) us.length c/\b<B/\nI=(Xd us).kids.length/\nK=(Xd us).keys.length/\w.cell? ⟨b,o+(us.length-1) *5,none⟩=some (.int .i64 (Xd us).kind)/\w.cell? ⟨b,o+(us.length-1) *5+1,none⟩=some (.int .i64 (Xd us).n)/\w.cell? ⟨b,o+(us.length-1) *5+2,none⟩=some (.string (Xd us).s)/\w.cell? ⟨b,o+(us.length-1) *5+3,none⟩=some (.slice aK nK cK)/\w.cell? ⟨b,o+(us.length-1) *5+4,none⟩=some (.slice aI nI cI):=by
 obtain ⟨_,a,c,rfl,g⟩:=h
 obtain ⟨b,o,rfl,j,f⟩:=g hl
 obtain ⟨q,t,d⟩:=f (us.length-1) (by omega)
 obtain ⟨_,_,aK,cK,l,_⟩:=d.inn.keys
 obtain ⟨_,_,aI,cI,p,_⟩:=d.inn.kids
 exact ⟨b,o,c,aK,_,cK,aI,_,cI,rfl,j,rfl,rfl,d.c0,d.c1,d.c2,by rw[d.c3,l];rfl,by rw[d.c4,p];rfl⟩
set_option maxRecDepth 100000 in
theorem Xpw (B:Nat) (v1 v2:Value) (us vs:List VN) (w:World) (hn1:NodesAt B w v1 us) (hn2:NodesAt B w v2 vs) (hB:B<=w.heap.size) (ok1:okB us=true) (ok2:okB vs=true) (hno:¬((Xd us).kind=5/\(Xd vs).kind=5)):
  Calls Tryz.prog 132 #[v1,v2] w fun e w'=>∃r base KV IV,e= .returned (.tuple #[r, .int .i64 (V0 us vs)])/\w.heap.size<=base/\Nest base w' r (Ki us vs) KV IV/\Below w.heap.size w w':=by
 obtain ⟨ba,bb⟩:=(Xm ok1).1
 obtain ⟨bc,bd⟩:=(Xm ok2).1
 obtain ⟨b1,o1,c1,t,y,z,C,D,F,rfl,bn,u1,u2,d0,d1,d2,d3,d4⟩:=Q8 hn1 (by omega)
 clear u1 u2
 obtain ⟨G,o2,c2,be,bf,bg,bh,bi,bj,rfl,bo,u1,u2,Z,g1,g2,g3,g4⟩:=Q8 hn2 (by omega)
 clear u1 u2
 have HO:=Xa (fun a=>Xfe ok1 ok2 a hno)
 have HD:=Xa (fun a=>Xoo ok1 ok2 a)
 have g:=Xa (fun a=>Xam ok1 a)
 have j:=Xa (fun a=>Xam ok2 a)
 have b:Hid (Gs us vs=Xr 3 ((Xd us).n-(Xd vs).n) ByteArray.empty):=rfl
 obtain ⟨N1,J⟩:∃N1,us.length=N1:=⟨_,rfl⟩
 obtain ⟨N2,L⟩:∃N2,vs.length=N2:=⟨_,rfl⟩
 rw[J] at ba bb d0 d1 d2 d3 d4|-
 rw[L] at bc bd Z g1 g2 g3 g4|-
 have z1:((N1:Int)-1).toNat=N1-1:=by omega
 have z2:((N2:Int)-1).toNat=N2-1:=by omega
 obtain ⟨o,M⟩:∃k,(Xd us).kind=k:=⟨_,rfl⟩
 obtain ⟨ky,P⟩:∃k,(Xd vs).kind=k:=⟨_,rfl⟩
 obtain ⟨R,S⟩:∃k,(Xd us).n=k:=⟨_,rfl⟩
 obtain ⟨ny,T⟩:∃k,(Xd vs).n=k:=⟨_,rfl⟩
 obtain ⟨sx,V⟩:∃k,(Xd us).s=k:=⟨_,rfl⟩
 obtain ⟨sy,X⟩:∃k,(Xd vs).s=k:=⟨_,rfl⟩
 rw[M] at d0 HO HD g hno
 rw[P] at Z HO HD j hno
 rw[S] at d1 b g
 rw[T] at g1 b j
 rw[V] at d2
 rw[X] at g2
 have c:Hid (Below w.heap.size w ((w.alloc (.cells #[.int .i64 o, .int .i64 R, .string sx, .slice t y z, .slice C D F] 75)).alloc (.cells #[.int .i64 ky, .int .i64 ny, .string sy, .slice be bf bg, .slice bh bi bj] 75))):=((Below.refl _ _).alloc (Nat.le_refl _) _).alloc (by simp) _
 clear hn1 hn2 J L M P S T V X ok1 ok2
 have d:Below w.heap.size w (w.alloc (.cells #[.int .i64 o, .int .i64 R, .string sx, .slice t y z, .slice C D F] 75)):=(Below.refl _ _).alloc (Nat.le_refl _) _
 have e0:=(Xc d (show G<w.heap.size by omega)).trans Z
 have e1:=(Xc d (show G<w.heap.size by omega)).trans g1
 have e2:=(Xc d (show G<w.heap.size by omega)).trans g2
 have e3:=(Xc d (show G<w.heap.size by omega)).trans g3
 have e4:=(Xc d (show G<w.heap.size by omega)).trans g4
 clear d Z g1 g2 g3 g4
 by_cases h3:o=3/\ky=3
 ·obtain ⟨rfl,rfl⟩:=h3
  have l:=Xa (HD.out ⟨rfl,rfl⟩)
  obtain ⟨bp,bq⟩:=g.out rfl
  obtain ⟨br,bs⟩:=j.out rfl
  have bk:=Xa (Xdy (R-ny) (by omega) (by omega))
  go_enter Tryz.func132,Tryz.ntmps132
  go_wp2_with fail
  refine (Kw (R-ny) _).mono ?_
  rintro e w3 ⟨r,KV,IV,rfl,hn,hb⟩
  have p:=Xa (c.out.trans (hb.mono c.out.size))
  have bl:=Xa (hn.low c.out.size)
  have Y:=Xa (hn.nodes (by simp[Xr]) bk.out.2)
  obtain ⟨ar,cr,er⟩:=Xg hn.row
  simp only[Xr,List.length_cons,List.length_nil] at er
  subst er
  clear hn hb
  cases ok:okB (Xr 3 (R-ny) ByteArray.empty)
  ·go_wp2_with fail
   refine (Gl w3.heap.size _ _ w3 Y.out (Nat.le_refl _) ok).mono ?_
   rintro e w4 ⟨rfl,f⟩
   have q:=Xa (p.out.trans (f.mono p.out.size))
   clear f
   go_wp2_with fail
   go_ret2
   exact ⟨_,w.heap.size,fun _=>undef,fun _=>undef,by rw[l.out.1,b.out,ok];rfl,Nat.le_refl _,by rw[l.out.2,b.out,ok];exact Nest.nil _ _ _ _,q.out⟩
  ·go_wp2_with fail
   refine (Vo w3.heap.size _ _ w3 Y.out (Nat.le_refl _) ok).mono ?_
   rintro e w4 ⟨rfl,f⟩
   have q:=Xa (p.out.trans (f.mono p.out.size))
   have bm:=Xa (bl.out.below f)
   clear f
   go_wp2_with fail
   go_ret2
   exact ⟨_,w.heap.size,KV,IV,by rw[l.out.1,b.out,ok];rfl,Nat.le_refl _,by rw[l.out.2,b.out,ok];exact bm.out,q.out⟩
 ·have l:=Xa (HO.out h3)
  by_cases k3:o=3
  ·have q2:(ky==3)=false:=by simp;intro e;exact h3 ⟨k3,e⟩
   have q1:(o==3)=true:=by simpa using k3
   have q3:(o !=5)=true:=by simp;omega
   clear h3 k3 hno
   go_enter Tryz.func132,Tryz.ntmps132
   go_wp2_with fail
   go_ret2
   exact ⟨_,w.heap.size,fun _=>undef,fun _=>undef,by rw[l.out.1];rfl,Nat.le_refl _,by rw[l.out.2];exact Nest.nil _ _ _ _,c.out⟩
  ·have q1:(o==3)=false:=by simpa using k3
   by_cases k5:o=5
   ·have q3:(o !=5)=false:=by simpa using k5
    have q4:(ky !=5)=true:=by simp;intro e;exact hno ⟨k5,e⟩
    clear h3 k3 k5 hno
    go_enter Tryz.func132,Tryz.ntmps132
    go_wp2_with fail
    go_ret2
    exact ⟨_,w.heap.size,fun _=>undef,fun _=>undef,by rw[l.out.1];rfl,Nat.le_refl _,by rw[l.out.2];exact Nest.nil _ _ _ _,c.out⟩
   ·have q3:(o !=5)=true:=by simpa using k5
    clear h3 k3 k5 hno
    go_enter Tryz.func132,Tryz.ntmps132
    go_wp2_with fail
    go_ret2
    exact ⟨_,w.heap.size,fun _=>undef,fun _=>undef,by rw[l.out.1];rfl,Nat.le_refl _,by rw[l.out.2];exact Nest.nil _ _ _ _,c.out⟩


theorem X3j (s:ByteArray) (w:World):Calls Tryz.prog 100 #[.string s] w fun e w'=>∃r KV IV,e= .returned r/\Nest w.heap.size w' r (Xr 4 0 s) KV IV/\Below w.heap.size w w':=by
 go_enter Tryz.func100,Tryz.ntmps100
 go_wp2_with fail
 go_ret
 exact ⟨_,_,_,rfl,Vu w 4 0 _,(Below.refl _ _).alloc (Nat.le_refl _) _⟩
theorem Xkd (B:Nat) (v:Value) (vs:List VN) (w:World) (h:NodesAt B w v vs) (ok:okB vs=true) (hB:B<=w.heap.size):
  Calls Tryz.prog 36 #[v] w fun e w'=>∃r KV IV,e= .returned r/\Nest w.heap.size w' r vs KV IV/\Below w.heap.size w w':=by
 have H:=Xa h
 obtain ⟨_,a,l,rfl,_⟩:=h
 have t:=(Xm ok).1
 have d:=Xa (Xc9 (L:=fun _=>vs) (m:=1) (fun i hi=>ok) 0 (by omega)).2
 go_enter Tryz.func36,Tryz.ntmps36
 go_wp2_with fail
 refine (Xli w.heap.size w.heap.size (.slice none 0 0) _ [] vs (fun _=>undef) (fun _=>undef) w (Nest.nil _ _ _ _) (NodesAt.wide H.out hB) (Nat.le_refl _) (Nat.le_refl _) (by simp;omega) d.out).mono ?_
 rintro e o ⟨r,KV,IV,rfl,b⟩
 have f:Below w.heap.size w o:=(Below.refl _ _).grown b.2.1 (Nat.le_refl _) (fun k hk=>by simp[Value.ownBlock] at hk)
 have c:=b.1
 have p:vs.map (X5 (([]:List VN).length:Int))=vs:=by
  have:∀x:VN,X5 (([]:List VN).length:Int) x=x:=fun x=>Xgt x
  rw[List.map_congr_left (fun x _=>this x)];simp
 rw[List.nil_append,p] at c
 have q:=Xa c
 have s:=Xa f
 obtain ⟨y,z,g⟩:=Xg c.row
 obtain ⟨M,j⟩:∃M,vs.length=M:=⟨_,rfl⟩
 rw[j] at g
 subst g
 clear b c f j
 go_wp2_with fail
 go_ret
 exact ⟨_,KV,IV,rfl,q.out,s.out⟩
theorem Xsv {us:List VN} (hok:okB us=true) (hk:(Xd us).kind=4):(Xd us).s.size<=60:=by
 rcases Jw hok with k|k|⟨k,a,b⟩|⟨k,a⟩|⟨k,a⟩|⟨k,a⟩
 ·omega
 ·omega
 ·omega
 ·exact a
 ·omega
 ·omega
theorem Xx5 (s:ByteArray) (h:s.size<=140737488355328):∀i,i<(Xr 4 0 s).length->Fits (Xb (Xr 4 0 s) i):=by
 intro i b
 obtain rfl:i=0:=by simp[Xr] at b;omega
 refine ⟨by simp[Xr,Xb],fun i b=>absurd b (by simp[Xr,Xb]),by simp[Xr,Xb],fun i b=>absurd b (by simp[Xr,Xb]),by simpa [Xr,Xb] using h,by simp[Xr,Xb],by simp[Xr,Xb],by simp[Xr,Xb],by simp[Xr,Xb]⟩
set_option maxRecDepth 100000 in
theorem Xrt (B:Nat) (v1 v2:Value) (us vs:List VN) (w:World) (hn1:NodesAt B w v1 us) (hn2:NodesAt B w v2 vs) (hB:B<=w.heap.size) (ok1:okB us=true) (ok2:okB vs=true) (hno:(Xd us).kind≠(Xd vs).kind\/((Xd us).kind≠5/\(Xd us).kind≠6)):
  Calls Tryz.prog 131 #[v1,v2] w fun e w'=>∃r base KV IV,e= .returned (.tuple #[r, .int .i64 (Qk us vs)])/\w.heap.size<=base/\Nest base w' r (Zt us vs) KV IV/\Below w.heap.size w w':=by
 obtain ⟨bq,br⟩:=(Xm ok1).1
 obtain ⟨bs,bt⟩:=(Xm ok2).1
 obtain ⟨b1,o1,c1,bd,be,bf,bg,bh,bi,rfl,b8,u1,u2,d0,d1,d2,d3,d4⟩:=Q8 hn1 (by omega)
 clear u1 u2
 obtain ⟨b2,o2,c2,bu,bv,bw,bx,bz,b0,rfl,b9,u1,u2,g0,g1,g2,g3,g4⟩:=Q8 hn2 (by omega)
 clear u1 u2
 have H1:=Xa (fun a=>Xje ok1 ok2 a)
 have H2:=Xa (fun a b=>Xjf ok1 ok2 a b)
 have H3:=Xa (fun a b c=>Xcu ok1 ok2 a b c)
 have H4:=Xa (fun a b c=>Ua ok1 ok2 a b c)
 have H5:=Xa (fun a=>Xs9 (us:=us) (vs:=vs) a)
 have H6:=Xa (fun a=>Xqd (us:=us) (vs:=vs) a)
 have z:=Xa (fun a=>Xam ok1 a)
 have C:=Xa (fun a=>Xam ok2 a)
 have D:=Xa (fun a=>Xsv ok1 a)
 have F:=Xa (fun a=>Xsv ok2 a)
 have bj:=Xa (fun W (p:Below w.heap.size w W)=>Xkd B _ us W (hn1.below (p.mono hB)) ok1 (Nat.le_trans hB p.size))
 have bk:=Xa (fun W (p:Below w.heap.size w W)=>Xkd B _ vs W (hn2.below (p.mono hB)) ok2 (Nat.le_trans hB p.size))
 have S:Hid (Xjc us vs=Xr 3 ((Xd us).n+(Xd vs).n) ByteArray.empty):=rfl
 have T:Hid (Xjd us vs=Xr 4 0 ((Xd us).s++(Xd vs).s)):=rfl
 have bl:=Xa (Jw ok1)
 obtain ⟨N1,V⟩:∃N1,us.length=N1:=⟨_,rfl⟩
 obtain ⟨N2,X⟩:∃N2,vs.length=N2:=⟨_,rfl⟩
 rw[V] at bq br d0 d1 d2 d3 d4 bj|-
 rw[X] at bs bt g0 g1 g2 g3 g4 bk|-
 have b3:=Xa V
 have b4:=Xa X
 have z1:((N1:Int)-1).toNat=N1-1:=by omega
 have z2:((N2:Int)-1).toNat=N2-1:=by omega
 obtain ⟨j,M⟩:∃k,(Xd us).kind=k:=⟨_,rfl⟩
 obtain ⟨Y,Z⟩:∃k,(Xd vs).kind=k:=⟨_,rfl⟩
 obtain ⟨nx,bm⟩:∃k,(Xd us).n=k:=⟨_,rfl⟩
 obtain ⟨ny,bn⟩:∃k,(Xd vs).n=k:=⟨_,rfl⟩
 obtain ⟨P,bo⟩:∃k,(Xd us).s=k:=⟨_,rfl⟩
 obtain ⟨R,bp⟩:∃k,(Xd vs).s=k:=⟨_,rfl⟩
 have ca:=Xa M
 have cb:=Xa Z
 rw[M] at d0 H1 H2 H3 H4 H5 H6 z D hno
 rw[Z] at g0 H2 H3 H4 C F hno
 rw[bm] at d1 S z
 rw[bn] at g1 S C
 rw[bo] at d2 T D
 rw[bp] at g2 T F
 have b5:Hid (j=1\/j=2\/j=3\/j=4\/j=5\/j=6):=by
  rw[Hid,<-M]
  rcases bl.out with k|k|⟨k,_,_⟩|⟨k,_⟩|⟨k,_⟩|⟨k,_⟩<;>omega
 have d:Hid (Below w.heap.size w ((w.alloc (.cells #[.int .i64 j, .int .i64 nx, .string P, .slice bd be bf, .slice bg bh bi] 75)).alloc (.cells #[.int .i64 Y, .int .i64 ny, .string R, .slice bu bv bw, .slice bx bz b0] 75))):=((Below.refl _ _).alloc (Nat.le_refl _) _).alloc (by simp) _
 clear hn1 hn2 V X M Z bm bn bo bp ok1 ok2 bl
 have y:Below w.heap.size w (w.alloc (.cells #[.int .i64 j, .int .i64 nx, .string P, .slice bd be bf, .slice bg bh bi] 75)):=(Below.refl _ _).alloc (Nat.le_refl _) _
 have e0:=(Xc y (show b2<w.heap.size by omega)).trans g0
 have e1:=(Xc y (show b2<w.heap.size by omega)).trans g1
 have e2:=(Xc y (show b2<w.heap.size by omega)).trans g2
 have e3:=(Xc y (show b2<w.heap.size by omega)).trans g3
 have e4:=(Xc y (show b2<w.heap.size by omega)).trans g4
 clear y g0 g1 g2 g3 g4
 by_cases k1:j=1
 ·have l:=Xa (H1.out k1)
  have q1:(j==1)=true:=by simpa using k1
  clear k1 hno
  go_enter Tryz.func131,Tryz.ntmps131
  go_wp2_with fail
  refine (bk.out _ d.out).mono ?_
  rintro e G ⟨r,KV,IV,rfl,o,p⟩
  have f:=Xa (d.out.trans (p.mono d.out.size))
  have q:=Xa (o.low d.out.size)
  obtain ⟨ar,cr,J⟩:=Xg o.row
  rw[b4.out] at J
  subst J
  clear o p
  go_wp2_with fail
  go_ret2
  exact ⟨_,w.heap.size,KV,IV,by rw[l.out.1];rfl,Nat.le_refl _,by rw[l.out.2];exact q.out,f.out⟩
 have q1:(j==1)=false:=by simpa using k1
 by_cases k2:Y=1
 ·have l:=Xa (H2.out k1 k2)
  have q2:(Y==1)=true:=by simpa using k2
  clear k1 k2 hno
  go_enter Tryz.func131,Tryz.ntmps131
  go_wp2_with fail
  refine (bj.out _ d.out).mono ?_
  rintro e G ⟨r,KV,IV,rfl,o,p⟩
  have f:=Xa (d.out.trans (p.mono d.out.size))
  have q:=Xa (o.low d.out.size)
  obtain ⟨ar,cr,J⟩:=Xg o.row
  rw[b3.out] at J
  subst J
  clear o p
  go_wp2_with fail
  go_ret2
  exact ⟨_,w.heap.size,KV,IV,by rw[l.out.1];rfl,Nat.le_refl _,by rw[l.out.2];exact q.out,f.out⟩
 have q2:(Y==1)=false:=by simpa using k2
 by_cases k:j=Y
 case neg=>
  have l:=Xa (H3.out k1 k2 (fun h=>k h.1))
  have q3:(j !=Y)=true:=by simpa using k
  clear k1 k2 k hno
  go_enter Tryz.func131,Tryz.ntmps131
  go_wp2_with fail
  go_ret2
  exact ⟨_,w.heap.size,fun _=>undef,fun _=>undef,by rw[l.out.1];rfl,Nat.le_refl _,by rw[l.out.2];exact Nest.nil _ _ _ _,d.out⟩
 case pos=>
 have q3:(j !=Y)=false:=by simpa using k
 have ba:j≠5/\j≠6:=by rcases hno with h|h;exact absurd k h;exact h
 by_cases k3:j=3
 ·have l:=Xa (H4.out k1 k (by omega))
  rw[H5.out k3,S.out] at l
  have q4:(j==3)=true:=by simpa using k3
  obtain ⟨cc,cd⟩:=z.out k3
  obtain ⟨ce,cf⟩:=C.out (by omega)
  have bb:=Xa (Xdy (nx+ny) (by omega) (by omega)).2
  clear k1 k2 k k3 hno ba
  go_enter Tryz.func131,Tryz.ntmps131
  go_wp2_with fail
  refine (Kw (nx+ny) _).mono ?_
  rintro e G ⟨r,KV,IV,rfl,o,p⟩
  have f:=Xa (d.out.trans (p.mono d.out.size))
  have q:=Xa (o.low d.out.size)
  have L:=Xa (o.nodes (by simp[Xr]) bb.out)
  obtain ⟨ar,cr,J⟩:=Xg o.row
  simp only[Xr,List.length_cons,List.length_nil] at J
  subst J
  clear o p
  cases ok:okB (Xr 3 (nx+ny) ByteArray.empty)
  ·go_wp2_with fail
   refine (Gl G.heap.size _ _ G L.out (Nat.le_refl _) ok).mono ?_
   rintro e w4 ⟨rfl,g⟩
   have t:=Xa (f.out.trans (g.mono f.out.size))
   clear g
   go_wp2_with fail
   go_ret2
   exact ⟨_,w.heap.size,fun _=>undef,fun _=>undef,by rw[l.out.1,ok];rfl,Nat.le_refl _,by rw[l.out.2,ok];exact Nest.nil _ _ _ _,t.out⟩
  ·go_wp2_with fail
   refine (Vo G.heap.size _ _ G L.out (Nat.le_refl _) ok).mono ?_
   rintro e w4 ⟨rfl,g⟩
   have t:=Xa (f.out.trans (g.mono f.out.size))
   have bc:=Xa (q.out.below g)
   clear g
   go_wp2_with fail
   go_ret2
   exact ⟨_,w.heap.size,KV,IV,by rw[l.out.1,ok];rfl,Nat.le_refl _,by rw[l.out.2,ok];exact bc.out,t.out⟩
 have q4:(j==3)=false:=by simpa using k3
 by_cases k4:j=4
 ·have l:=Xa (H4.out k1 k (by omega))
  rw[H6.out k4,T.out] at l
  have q5:(j==4)=true:=by simpa using k4
  have s1:=D.out k4
  have s2:=F.out (by omega)
  have b6:∀w,(Op.stringOp .add P R).run Tryz.prog w= .ok (.string (P++R)) w:=fun w=>run_string_add_sum w P R (by omega)
  have b7:¬(P.size+R.size>9223372036854775807):=by omega
  have bb:=Xa (Xx5 (P++R) (by rw[ByteArray.size_append];omega))
  clear k1 k2 k k3 k4 hno ba
  go_enter Tryz.func131,Tryz.ntmps131
  go_wp2_with fail
  refine (X3j (P++R) _).mono ?_
  rintro e G ⟨r,KV,IV,rfl,o,p⟩
  have f:=Xa (d.out.trans (p.mono d.out.size))
  have q:=Xa (o.low d.out.size)
  have L:=Xa (o.nodes (by simp[Xr]) bb.out)
  obtain ⟨ar,cr,J⟩:=Xg o.row
  simp only[Xr,List.length_cons,List.length_nil] at J
  subst J
  clear o p
  cases ok:okB (Xr 4 0 (P++R))
  ·go_wp2_with fail
   refine (Gl G.heap.size _ _ G L.out (Nat.le_refl _) ok).mono ?_
   rintro e w4 ⟨rfl,g⟩
   have t:=Xa (f.out.trans (g.mono f.out.size))
   clear g
   go_wp2_with fail
   go_ret2
   exact ⟨_,w.heap.size,fun _=>undef,fun _=>undef,by rw[l.out.1,ok];rfl,Nat.le_refl _,by rw[l.out.2,ok];exact Nest.nil _ _ _ _,t.out⟩
  ·go_wp2_with fail
   refine (Vo G.heap.size _ _ G L.out (Nat.le_refl _) ok).mono ?_
   rintro e w4 ⟨rfl,g⟩
   have t:=Xa (f.out.trans (g.mono f.out.size))
   have bc:=Xa (q.out.below g)
   clear g
   go_wp2_with fail
   go_ret2
   exact ⟨_,w.heap.size,KV,IV,by rw[l.out.1,ok];rfl,Nat.le_refl _,by rw[l.out.2,ok];exact bc.out,t.out⟩
 have q5:(j==4)=false:=by simpa using k4
 ·have k7:j=2:=by rcases b5.out with h|h|h|h|h|h<;>omega
  have l:=Xa (H3.out k1 k2 (fun h=>h.2 k7))
  have q6:(j==5)=false:=by simp;omega
  have q7:(j==6)=false:=by simp;omega
  clear k1 k2 k k3 k4 k7 hno ba
  go_enter Tryz.func131,Tryz.ntmps131
  go_wp2_with fail
  go_ret2
  exact ⟨_,w.heap.size,fun _=>undef,fun _=>undef,by rw[l.out.1];rfl,Nat.le_refl _,by rw[l.out.2];exact Nest.nil _ _ _ _,d.out⟩


theorem X3t {us vs:List VN} (h1:okB us=true) (h2:okB vs=true) {i k:Nat} (hi:i<(Xe us).length) (hk:k<(Xe vs).length):okB (PL us i)=true/\okB (PL vs k)=true/\ord (PL us i) (PL vs k) (PL us i).length ((PL us i).length-1) ((PL vs k).length-1)=Za (PL us i) (PL vs k):=by
 have a:=Ub (Zv h1).1 i hi
 have b:=Ub (Zv h2).1 k hk
 exact ⟨a,b,(Xae a b).symm⟩
set_option maxRecDepth 100000 in
theorem Xpz (B : Nat) (v1 v2 : Value) (us vs : List VN) (w : World) (hn1 : NodesAt B w v1 us) (hn2 : NodesAt B w v2 vs) (hB : B <= w.heap.size) (ok1 : okB us = true) (ok2 : okB vs = true) (hk1 : (Xd us).kind = 5) (hk2 : (Xd vs).kind = 5) :
  Calls Tryz.prog 132 #[v1,v2] w fun e w'=>∃r base KV IV,e= .returned (.tuple #[r, .int .i64 (V0 us vs)])/\w.heap.size<=base/\Nest base w' r (Ki us vs) KV IV/\Below w.heap.size w w':=by
 have b9:=Xa hn1
 have ca:=Xa hn2
 have HM:=Xa (Xop ok1 ok2 ⟨hk1,hk2⟩)
 have fu:=Xa (Xom ok1 hk1 vs hn1.fits)
 have dq:=Xa (Xsr ok1 vs)
 have f:=Xa (Kv hn1.fits)
 have C:=Xa (Kv hn2.fits)
 have cb:Hid (Zl us=(Xe us).length):=by unfold Hid Zl;rw[if_pos ok1]
 have cc:Hid (Zl vs=(Xe vs).length):=by unfold Hid Zl;rw[if_pos ok2]
 rw[cb.out] at f
 rw[cc.out] at C
 have cd:=Xa ok1
 have ce:=Xa ok2
 have bq:Hid (∀i k,i<(Xe us).length->k<(Xe vs).length->okB (PL us i)=true/\okB (PL vs k)=true/\ord (PL us i) (PL vs k) (PL us i).length ((PL us i).length-1) ((PL vs k).length-1)=Za (PL us i) (PL vs k)):=fun i k hi hk=>X3t ok1 ok2 hi hk
 have cf:Hid (Vl us vs=Yj 5 [] (U6 us vs) (Yh us vs (Xe us).length).length):=rfl
 have dr:=Xa (fun i=>Vz us vs i)
 have cg:Hid (∀i,Yh us vs (i+1)=if Zb (Wq us vs i) (Xe vs).length=true then Yh us vs i else Yh us vs i++ [i]):=fun i=>rfl
 have br:Hid (U6 us vs=fun j=>PL us ((Yh us vs (Xe us).length).getD j 0)):=rfl
 obtain ⟨i0,ds,dt,du,dv⟩:=info_parts Xhu
 obtain ⟨dw,dx⟩:=(Xm ok1).1
 obtain ⟨dy,dz⟩:=(Xm ok2).1
 obtain ⟨b1,o1,c1,ch,ci,cj,ck,cl,cm,e1,fv,u1,u2,d0,d1,d2,d3,d4⟩:=Q8 hn1 (by omega)
 clear u1 u2
 subst e1
 obtain ⟨b2,o2,c2,d5,d6,d7,d8,d9,fa,e1,fw,u1,u2,g0,g1,g2,g3,g4⟩:=Q8 hn2 (by omega)
 clear u1 u2
 subst e1
 obtain ⟨N1,cn⟩:∃N1,us.length=N1:=⟨_,rfl⟩
 obtain ⟨N2,cp⟩:∃N2,vs.length=N2:=⟨_,rfl⟩
 rw[cn] at dw dx d0 d1 d2 d3 d4 b9|-
 rw[cp] at dy dz g0 g1 g2 g3 g4 ca|-
 have z1:((N1:Int)-1).toNat=N1-1:=by omega
 have z2:((N2:Int)-1).toNat=N2-1:=by omega
 rw[hk1] at d0
 rw[hk2] at g0
 obtain ⟨nx,cq⟩:∃k,(Xd us).n=k:=⟨_,rfl⟩
 obtain ⟨ny,cs⟩:∃k,(Xd vs).n=k:=⟨_,rfl⟩
 obtain ⟨sx,ct⟩:∃k,(Xd us).s=k:=⟨_,rfl⟩
 obtain ⟨sy,cu⟩:∃k,(Xd vs).s=k:=⟨_,rfl⟩
 rw[cq] at d1
 rw[cs] at g1
 rw[ct] at d2
 rw[cu] at g2
 obtain ⟨Z,bf⟩:∃Z,((w.alloc (.cells #[.int .i64 5, .int .i64 nx, .string sx, .slice ch ci cj, .slice ck cl cm] 75)).alloc (.cells #[.int .i64 5, .int .i64 ny, .string sy, .slice d5 d6 d7, .slice d8 d9 fa] 75))=Z:=⟨_,rfl⟩
 have cv:=Xa bf
 have cw:Hid (Z.heap.size=w.heap.size+1+1):=by rw[Hid,<-bf];simp
 have cx:Hid (Below w.heap.size w Z):=by rw[Hid,<-bf];exact ((Below.refl _ _).alloc (Nat.le_refl _) _).alloc (by simp) _
 have X:Below w.heap.size w (w.alloc (.cells #[.int .i64 5, .int .i64 nx, .string sx, .slice ch ci cj, .slice ck cl cm] 75)):=(Below.refl _ _).alloc (Nat.le_refl _) _
 have e0:=(Xc X (show b2<w.heap.size by omega)).trans g0
 have e1:=(Xc X (show b2<w.heap.size by omega)).trans g1
 have e2:=(Xc X (show b2<w.heap.size by omega)).trans g2
 have e3:=(Xc X (show b2<w.heap.size by omega)).trans g3
 have e4:=(Xc X (show b2<w.heap.size by omega)).trans g4
 clear X g0 g1 g2 g3 g4 hn1 hn2 cn cp cq cs ct cu ok1 ok2 hk1 hk2 bf
 go_enter Tryz.func132,Tryz.ntmps132
 go_wp2_with fail
 rw[cv.out]
 clear d0 d1 d2 d3 d4 e0 e1 e2 e3 e4 cv
 have cy:=cx.out.size
 obtain ⟨WB,ba⟩:∃WB,Z.alloc (.cells #[] 25)=WB:=⟨_,rfl⟩
 have cz:Hid (WB.ownsRow w.heap.size 25 1 (.slice (some ⟨Z.heap.size,0,none⟩) 0 0) 0 []):=by
  have:=World.ownsRow_lit (base:=w.heap.size) (e:=25) (size:=1) Z #[] 0 cy (by simp[maxLen]) rfl
  rw[ba] at this
  simpa [Hid] using this
 have bg:Hid (Below w.heap.size w WB):=by rw[Hid,<-ba];exact cx.out.alloc cy _
 have fx:WB.heap.size=Z.heap.size+1:=by rw[<-ba];simp
 rw[ba]
 clear ba
 refine (Kp B _ us WB (b9.out.below (bg.out.mono hB)) (Nat.le_trans hB bg.out.size) cd.out).mono ?_
 rintro e w1 ⟨r1,bb,K1,I1,fy,rfl,bs,R⟩
 have bh:=Xa (bg.out.trans (R.mono bg.out.size))
 have bt:=Xa bs
 have bn:=Xa (Vg cz.out ((From.refl w.heap.size WB).below R))
 have fz:=R.size
 obtain ⟨M,hM⟩:∃M,(Xe us).length=M:=⟨_,rfl⟩
 obtain ⟨M',bu⟩:∃M',(Xe vs).length=M':=⟨_,rfl⟩
 obtain ⟨aM,cM,eM⟩:=Xg bs.row
 rw[hM] at eM bt f bq cf br
 rw[bu] at C bq cg
 subst eM
 have fb:=Xa hM
 have c6:=Xa bu
 clear bs R hM bu
 go_wp2_with fail
 refine (Kp B _ vs w1 (ca.out.below (bh.out.mono hB)) (Nat.le_trans hB bh.out.size) ce.out).mono ?_
 rintro e WW ⟨r2,fc,K2,I2,f0,rfl,bi,D⟩
 rw[c6.out] at bi
 have fd:=Xa (bh.out.trans (D.mono bh.out.size))
 have c7:=Xa (bt.out.below D)
 have c8:=Xa bi
 have fe:=Xa (Vg bn.out ((From.refl w.heap.size w1).below D))
 have f1:=D.size
 obtain ⟨f2,c9,ff⟩:=Xg bi.row
 subst ff
 have fs:M<=80:=f.out.1
 have fg:M'<=80:=C.out.1
 clear bi D bt bn cz
 go_wp2_with fail
 go_loopw [8,11,12,13] (fun o i _ _ wr=>∃(n:Nat),n<=M/\i= .int .i64 n/\wr.ownsRow w.heap.size 25 1 o (Yh us vs n).length ((Yh us vs n).map bb)/\(∀g,o.ownBlock=some g->g=Z.heap.size\/WW.heap.size<=g)/\From (Z.heap.size+1) WW wr/\Below w.heap.size w wr) (fun _ i _ _ _=>M-(intOf i).toNat)
 case atStart=>exact ⟨0,Nat.zero_le _,rfl,by rw[<-cw.out];exact fe.out,fun g hg=>by have:=cw.out;simp[Value.ownBlock] at hg;omega,From.refl _ _,fd.out⟩
 case round =>
  obtain ⟨i,hi,rfl,bo,F,bv,bw⟩:=hrel
  obtain ⟨W,rfl⟩:∃W,W=wr:=⟨_,rfl⟩
  have S:=Xa bo
  have bc:=Xa F
  have bx:=Xa bv
  have da:=Xa bw
  have bd:=Xa (c7.out.from (bx.out.mono (by omega)))
  have bj:=Xa (c8.out.from (bx.out.mono (by omega)))
  have zW:=bw.size
  have f3:=bv.1
  have bz:=Xa (dr.out i)
  have be:=Xa (cg.out i)
  obtain ⟨ps,b0⟩:∃ps,Yh us vs i=ps:=⟨_,rfl⟩
  have b3:=Xa b0
  rw[b0] at S bz be
  obtain ⟨NP,bk⟩:∃NP,ps.length=NP:=⟨_,rfl⟩
  have Y:=Xa bk
  obtain ⟨ao,co,eo⟩:=Xg S.out
  rw[bk] at eo
  subst eo
  have ft:NP<=i:=by rw[<-bk];exact bz.out.1
  clear bo F bv bw b0 bk
  by_cases hlt:i<M
  ·obtain ⟨b1,f4,em,f5,db⟩:=bd.out.row.form (show 0<M by omega)
   cases em
   have b4:W.cell? ⟨b1,i,none⟩=some (bb i):=by rw[bd.out.row.cellAt i (by omega)];simp[hlt]
   have dc:=Xa ((bd.out.nest i hlt).nodes (by have:=(f.out.2 i hlt).1.1;omega) (f.out.2 i hlt).2)
   obtain ⟨aR,cR,eR⟩:=Xg (bd.out.nest i hlt).row
   obtain ⟨NR,dd⟩:∃NR,(PL us i).length=NR:=⟨_,rfl⟩
   have de:Hid (bb i= .slice aR NR cR):=by rw[Hid,eR,dd]
   rw[de.out] at b4 dc
   clear dd eR
   go_wp2_with fail
   go_loopw [12,13] (fun h k w4=>∃(n:Nat) (q:Bool),n<=M'/\k= .int .i64 n/\h= .bool q/\Hid (q=Zb (Wq us vs i) n)/\Below W.heap.size W w4) (fun _ k _=>M'-(intOf k).toNat)
   case atStart=>exact ⟨0,false,Nat.zero_le _,rfl,rfl,rfl,Below.refl _ _⟩
   case round =>
    obtain ⟨k,q,hk,rfl,rfl,HQ,b⟩:=hrel
    obtain ⟨J,rfl⟩:∃J,J=wr:=⟨_,rfl⟩
    by_cases hlk:k<M'
    ·obtain ⟨b2,f6,eg,f7,fh⟩:=bj.out.row.form (show 0<M' by omega)
     cases eg
     have fi:J.cell? ⟨b2,k,none⟩=some (fc k):=(Xc b fh).trans (by rw[bj.out.row.cellAt k (by omega)];simp[hlk])
     have df:J.cell? ⟨b1,i,none⟩=some (.slice aR NR cR):=(Xc b db).trans b4
     have dg:=Xa ((bj.out.nest k hlk).nodes (by have:=(C.out.2 k hlk).1.1;omega) (C.out.2 k hlk).2)
     obtain ⟨aG,cG,eG⟩:=Xg (bj.out.nest k hlk).row
     obtain ⟨NG,dh⟩:∃NG,(PL vs k).length=NG:=⟨_,rfl⟩
     rw[eG,dh] at fi dg
     have bl:=Xa (bq.out i k hlt hlk)
     have b5:Hid (Zb (Wq us vs i) (k+1)=(Zb (Wq us vs i) k||Wq us vs i k)):=rfl
     have b6:Hid (Wq us vs i k=decide (Za (PL us i) (PL vs k)=0)):=rfl
     clear dh eG
     cases q
     ·obtain ⟨Q,di⟩:∃Q,Za (PL us i) (PL vs k)=Q:=⟨_,rfl⟩
      rw[di] at b6 bl
      have T:Hid (∀W',Below J.heap.size J W'->Calls Tryz.prog 130 #[.slice aR NR cR, .slice aG NG cG] W' fun e w'=>e= .returned (.int .i64 Q)/\Below W'.heap.size W' w'):=fun W' hb'=>by
       have hz:=Nat.le_trans b.size hb'.size
       have dj:Below W.heap.size W W':=b.trans (hb'.mono b.size)
       have a1:=Xm bl.out.1
       have a2:=Xm bl.out.2.1
       have:=Xen W.heap.size _ _ (PL us i) (PL vs k) W' ⟨dc.out.below dj,dg.out.below dj,a1.2.1,a2.2.1⟩ hz a1.1 a2.1
       rw[bl.out.2.2] at this
       exact this
      have d:Hid (Below J.heap.size J J.drew):=(Below.refl _ _).drew
      clear di
      by_cases hQ0:Q=0
      ·have fj:(Q==0)=true:=by simpa using hQ0
       have l:Hid (true=Zb (Wq us vs i) (k+1)):=by rw[Hid,b5.out,b6.out,hQ0];simp
       clear hQ0
       go_wp2_with fail
       refine wp_region_any (by kernel_rfl) ?_
       change wpAny _ _ _ _ _ _ _ (World.drew _)
       refine wpAny_take (i:=0) (v:= .bool false) rfl (by kernel_rfl) (by kernel_rfl) (by kernel_rfl) (fun _ _ _ h=>h) (Or.inl ⟨by kernel_rfl,fun w=> ?_⟩) ?_
       ·go_simp
       refine wpAny_take (i:=1) (v:= .bool false) rfl (by kernel_rfl) (by kernel_rfl) (by kernel_rfl) (fun _ _ _ h=>h) (Or.inl ⟨by kernel_rfl,fun w=> ?_⟩) ?_
       ·go_simp
       refine wpAny_take (i:=2) (v:= .slice (some ⟨b1,0,none⟩) M cM) rfl (by kernel_rfl) (by kernel_rfl) (by kernel_rfl) (fun _ _ _ h=>h) (Or.inl ⟨by kernel_rfl,fun w=> ?_⟩) ?_
       ·go_simp
       refine wpAny_take (i:=3) (v:= .int .i64 i) rfl (by kernel_rfl) (by kernel_rfl) (by kernel_rfl) (fun _ _ _ h=>h) (Or.inl ⟨by kernel_rfl,fun w=> ?_⟩) ?_
       ·go_simp
       refine wpAny_take (i:=4) (v:= .pointer (some ⟨b1,i,none⟩)) rfl (by kernel_rfl) (by kernel_rfl) (by kernel_rfl) (fun _ _ _ h=>h) (Or.inl ⟨by kernel_rfl,fun w=> ?_⟩) ?_
       ·go_simp
       refine wpAny_take (i:=6) (v:= .slice (some ⟨b2,0,none⟩) M' c9) rfl (by kernel_rfl) (by kernel_rfl) (by kernel_rfl) (fun _ _ _ h=>h) (Or.inl ⟨by kernel_rfl,fun w=> ?_⟩) ?_
       ·go_simp
       refine wpAny_take (i:=7) (v:= .int .i64 k) rfl (by kernel_rfl) (by kernel_rfl) (by kernel_rfl) (fun _ _ _ h=>h) (Or.inl ⟨by kernel_rfl,fun w=> ?_⟩) ?_
       ·go_simp
       refine wpAny_take (i:=8) (v:= .pointer (some ⟨b2,k,none⟩)) rfl (by kernel_rfl) (by kernel_rfl) (by kernel_rfl) (fun _ _ _ h=>h) (Or.inl ⟨by kernel_rfl,fun w=> ?_⟩) ?_
       ·go_simp
       refine wpAny_ready (rs:= [5,9]) (by kernel_rfl) (by simp) ?_
       refine AllReady.cons rfl (fun K hK=> ?_) ?_
       ·go_simp
        refine hK _ _ ?_
        clear hK K
        refine wpAny_ready (rs:= [9]) (by kernel_rfl) (by simp) ?_
        refine AllReady.cons rfl (fun K hK=> ?_) AllReady.nil
        go_simp
        refine hK _ _ ?_
        clear hK K
        refine wpAny_ready (rs:= [10]) (by kernel_rfl) (by simp) ?_
        refine AllReady.cons rfl (fun K hK=> ?_) AllReady.nil
        refine Xab (by kernel_rfl) 130 (.tmp 73) (.tmp 77) 25 25 (by kernel_rfl) (.slice aR NR cR) (.slice aG NG cG) (by kernel_rfl) (by kernel_rfl) (Wa _ _) (T.out _ d.out) ?_
        rintro e w5 ⟨rfl,p⟩
        have t:Hid (Below W.heap.size W w5):=b.trans ((d.out.trans (p.mono d.out.size)).mono b.size)
        clear p
        refine ⟨_,rfl, ?_⟩
        go_simp
        refine hK _ _ ?_
        clear hK K
        refine wpAny_ready (rs:= [11]) (by kernel_rfl) (by simp) ?_
        refine AllReady.cons rfl (fun K hK=> ?_) AllReady.nil
        go_simp
        refine hK _ _ ?_
        clear hK K
        refine wpAny_ready (rs:= [12]) (by kernel_rfl) (by simp) ?_
        refine AllReady.cons rfl (fun K hK=> ?_) AllReady.nil
        go_simp
        refine hK _ _ ?_
        clear hK K
        refine wpAny_ready (rs:= [13]) (by kernel_rfl) (by simp) ?_
        refine AllReady.cons rfl (fun K hK=> ?_) AllReady.nil
        go_simp
        refine hK _ _ ?_
        clear hK K
        refine wpAny_done (by kernel_rfl) ?_ _
        go_wp2_with fail
        go_roundw
        case rel=>exact ⟨k+1,true,by omega,by go_num,rfl,l,t.out⟩
        case measure=>simp[intOf];omega
       ·refine AllReady.cons rfl (fun K hK=> ?_) AllReady.nil
        go_simp
        refine hK _ _ ?_
        clear hK K
        refine wpAny_ready (rs:= [5]) (by kernel_rfl) (by simp) ?_
        refine AllReady.cons rfl (fun K hK=> ?_) AllReady.nil
        go_simp
        refine hK _ _ ?_
        clear hK K
        refine wpAny_ready (rs:= [10]) (by kernel_rfl) (by simp) ?_
        refine AllReady.cons rfl (fun K hK=> ?_) AllReady.nil
        refine Xab (by kernel_rfl) 130 (.tmp 73) (.tmp 77) 25 25 (by kernel_rfl) (.slice aR NR cR) (.slice aG NG cG) (by kernel_rfl) (by kernel_rfl) (Wa _ _) (T.out _ d.out) ?_
        rintro e w5 ⟨rfl,p⟩
        have t:Hid (Below W.heap.size W w5):=b.trans ((d.out.trans (p.mono d.out.size)).mono b.size)
        clear p
        refine ⟨_,rfl, ?_⟩
        go_simp
        refine hK _ _ ?_
        clear hK K
        refine wpAny_ready (rs:= [11]) (by kernel_rfl) (by simp) ?_
        refine AllReady.cons rfl (fun K hK=> ?_) AllReady.nil
        go_simp
        refine hK _ _ ?_
        clear hK K
        refine wpAny_ready (rs:= [12]) (by kernel_rfl) (by simp) ?_
        refine AllReady.cons rfl (fun K hK=> ?_) AllReady.nil
        go_simp
        refine hK _ _ ?_
        clear hK K
        refine wpAny_ready (rs:= [13]) (by kernel_rfl) (by simp) ?_
        refine AllReady.cons rfl (fun K hK=> ?_) AllReady.nil
        go_simp
        refine hK _ _ ?_
        clear hK K
        refine wpAny_done (by kernel_rfl) ?_ _
        go_wp2_with fail
        go_roundw
        case rel=>exact ⟨k+1,true,by omega,by go_num,rfl,l,t.out⟩
        case measure=>simp[intOf];omega
      ·have fj:(Q==0)=false:=by simpa using hQ0
       have l:Hid (false=Zb (Wq us vs i) (k+1)):=by rw[Hid,b5.out,b6.out,<-HQ.out];simp[hQ0]
       clear hQ0
       go_wp2_with fail
       refine wp_region_any (by kernel_rfl) ?_
       change wpAny _ _ _ _ _ _ _ (World.drew _)
       refine wpAny_take (i:=0) (v:= .bool false) rfl (by kernel_rfl) (by kernel_rfl) (by kernel_rfl) (fun _ _ _ h=>h) (Or.inl ⟨by kernel_rfl,fun w=> ?_⟩) ?_
       ·go_simp
       refine wpAny_take (i:=1) (v:= .bool false) rfl (by kernel_rfl) (by kernel_rfl) (by kernel_rfl) (fun _ _ _ h=>h) (Or.inl ⟨by kernel_rfl,fun w=> ?_⟩) ?_
       ·go_simp
       refine wpAny_take (i:=2) (v:= .slice (some ⟨b1,0,none⟩) M cM) rfl (by kernel_rfl) (by kernel_rfl) (by kernel_rfl) (fun _ _ _ h=>h) (Or.inl ⟨by kernel_rfl,fun w=> ?_⟩) ?_
       ·go_simp
       refine wpAny_take (i:=3) (v:= .int .i64 i) rfl (by kernel_rfl) (by kernel_rfl) (by kernel_rfl) (fun _ _ _ h=>h) (Or.inl ⟨by kernel_rfl,fun w=> ?_⟩) ?_
       ·go_simp
       refine wpAny_take (i:=4) (v:= .pointer (some ⟨b1,i,none⟩)) rfl (by kernel_rfl) (by kernel_rfl) (by kernel_rfl) (fun _ _ _ h=>h) (Or.inl ⟨by kernel_rfl,fun w=> ?_⟩) ?_
       ·go_simp
       refine wpAny_take (i:=6) (v:= .slice (some ⟨b2,0,none⟩) M' c9) rfl (by kernel_rfl) (by kernel_rfl) (by kernel_rfl) (fun _ _ _ h=>h) (Or.inl ⟨by kernel_rfl,fun w=> ?_⟩) ?_
       ·go_simp
       refine wpAny_take (i:=7) (v:= .int .i64 k) rfl (by kernel_rfl) (by kernel_rfl) (by kernel_rfl) (fun _ _ _ h=>h) (Or.inl ⟨by kernel_rfl,fun w=> ?_⟩) ?_
       ·go_simp
       refine wpAny_take (i:=8) (v:= .pointer (some ⟨b2,k,none⟩)) rfl (by kernel_rfl) (by kernel_rfl) (by kernel_rfl) (fun _ _ _ h=>h) (Or.inl ⟨by kernel_rfl,fun w=> ?_⟩) ?_
       ·go_simp
       refine wpAny_ready (rs:= [5,9]) (by kernel_rfl) (by simp) ?_
       refine AllReady.cons rfl (fun K hK=> ?_) ?_
       ·go_simp
        refine hK _ _ ?_
        clear hK K
        refine wpAny_ready (rs:= [9]) (by kernel_rfl) (by simp) ?_
        refine AllReady.cons rfl (fun K hK=> ?_) AllReady.nil
        go_simp
        refine hK _ _ ?_
        clear hK K
        refine wpAny_ready (rs:= [10]) (by kernel_rfl) (by simp) ?_
        refine AllReady.cons rfl (fun K hK=> ?_) AllReady.nil
        refine Xab (by kernel_rfl) 130 (.tmp 73) (.tmp 77) 25 25 (by kernel_rfl) (.slice aR NR cR) (.slice aG NG cG) (by kernel_rfl) (by kernel_rfl) (Wa _ _) (T.out _ d.out) ?_
        rintro e w5 ⟨rfl,p⟩
        have t:Hid (Below W.heap.size W w5):=b.trans ((d.out.trans (p.mono d.out.size)).mono b.size)
        clear p
        refine ⟨_,rfl, ?_⟩
        go_simp
        refine hK _ _ ?_
        clear hK K
        refine wpAny_ready (rs:= [11]) (by kernel_rfl) (by simp) ?_
        refine AllReady.cons rfl (fun K hK=> ?_) AllReady.nil
        go_simp
        refine hK _ _ ?_
        clear hK K
        refine wpAny_ready (rs:= [12]) (by kernel_rfl) (by simp) ?_
        refine AllReady.cons rfl (fun K hK=> ?_) AllReady.nil
        go_simp
        refine hK _ _ ?_
        clear hK K
        refine wpAny_ready (rs:= [13]) (by kernel_rfl) (by simp) ?_
        refine AllReady.cons rfl (fun K hK=> ?_) AllReady.nil
        go_simp
        refine hK _ _ ?_
        clear hK K
        refine wpAny_done (by kernel_rfl) ?_ _
        go_wp2_with fail
        go_roundw
        case rel=>exact ⟨k+1,false,by omega,by go_num,rfl,l,t.out⟩
        case measure=>simp[intOf];omega
       ·refine AllReady.cons rfl (fun K hK=> ?_) AllReady.nil
        go_simp
        refine hK _ _ ?_
        clear hK K
        refine wpAny_ready (rs:= [5]) (by kernel_rfl) (by simp) ?_
        refine AllReady.cons rfl (fun K hK=> ?_) AllReady.nil
        go_simp
        refine hK _ _ ?_
        clear hK K
        refine wpAny_ready (rs:= [10]) (by kernel_rfl) (by simp) ?_
        refine AllReady.cons rfl (fun K hK=> ?_) AllReady.nil
        refine Xab (by kernel_rfl) 130 (.tmp 73) (.tmp 77) 25 25 (by kernel_rfl) (.slice aR NR cR) (.slice aG NG cG) (by kernel_rfl) (by kernel_rfl) (Wa _ _) (T.out _ d.out) ?_
        rintro e w5 ⟨rfl,p⟩
        have t:Hid (Below W.heap.size W w5):=b.trans ((d.out.trans (p.mono d.out.size)).mono b.size)
        clear p
        refine ⟨_,rfl, ?_⟩
        go_simp
        refine hK _ _ ?_
        clear hK K
        refine wpAny_ready (rs:= [11]) (by kernel_rfl) (by simp) ?_
        refine AllReady.cons rfl (fun K hK=> ?_) AllReady.nil
        go_simp
        refine hK _ _ ?_
        clear hK K
        refine wpAny_ready (rs:= [12]) (by kernel_rfl) (by simp) ?_
        refine AllReady.cons rfl (fun K hK=> ?_) AllReady.nil
        go_simp
        refine hK _ _ ?_
        clear hK K
        refine wpAny_ready (rs:= [13]) (by kernel_rfl) (by simp) ?_
        refine AllReady.cons rfl (fun K hK=> ?_) AllReady.nil
        go_simp
        refine hK _ _ ?_
        clear hK K
        refine wpAny_done (by kernel_rfl) ?_ _
        go_wp2_with fail
        go_roundw
        case rel=>exact ⟨k+1,false,by omega,by go_num,rfl,l,t.out⟩
        case measure=>simp[intOf];omega
     ·have l:Hid (true=Zb (Wq us vs i) (k+1)):=by rw[Hid,b5.out,<-HQ.out];rfl
      go_wp2_with fail
      go_quiet (fail)
      go_wp2_with fail
      go_roundw
      case rel=>exact ⟨k+1,true,by omega,by go_num,rfl,l,below_drewN b nq⟩
      case measure=>simp[intOf];omega
    ·obtain rfl:k=M':=by omega
     have df:J.cell? ⟨b1,i,none⟩=some (.slice aR NR cR):=(Xc b db).trans b4
     have V:=Xa (bx.out.below b)
     have G:=Xa (da.out.trans (b.mono zW))
     have P:=Xa (Vg S.out ((From.refl w.heap.size W).below b))
     cases q
     ·have b7:Hid (Yh us vs (i+1)=ps++ [i]):=by rw[Hid,be.out,<-HQ.out];rfl
      go_wp2_with (at_builtin;refine wpList_append_own_at _ rfl _ _ 28 rfl w.heap.size 25 i0 (.slice none 0 0) 1 24 Tryz.underlying28 ds dt du dv rfl (by decide) _ _ _ rfl (P.out.alloc _) ⟨J.heap.size,0,none⟩ 1 1 [.slice aR NR cR] rfl rfl ?c1 ?c2 ?c3 ?c4 ?c5 ?_)
      case c1=>exact cell_one_new _ _ _
      case c2=>intro u hu;simp at hu;subst hu;rfl
      case c3=>have:=Y.out;unfold maxLen;omega
      case c4=>have:=Y.out;omega
      case c5=>have:=G.out.size;simp;omega
      intro v' w5 F z _ dk
      have b8:Hid (w5.ownsRow w.heap.size 25 1 v' (Yh us vs (i+1)).length ((Yh us vs (i+1)).map bb)):=by
       rw[Hid,b7.out,List.map_append,List.length_append]
       simp only[List.map_cons,List.map_nil,List.length_singleton]
       rw[de.out]
       exact F
      have z4:=b.size
      have fk:Hid (∀g,v'.ownBlock=some g->g=Z.heap.size\/WW.heap.size<=g):=fun g hg=>by
       rcases dk with e|e
       ·rw[e] at hg;exact bc.out g hg
       ·rw[e] at hg;simp at hg;omega
      have fl:Hid (From (Z.heap.size+1) WW w5):=by
       have fm:=z.size
       refine ⟨by have:=V.out.1;simp at fm;omega,fun c h1 h2=> ?_⟩
       refine Eq.trans ?_ (V.out.2 c h1 h2)
       have fn:c<J.heap.size:=by have:=V.out.1;omega
       refine (z.block c (by simp;omega) (fun e=> ?_)).trans (((Below.refl J.heap.size J).alloc (Nat.le_refl _) _).block c fn)
       have:=bc.out c (by simpa using e.symm)
       omega
      have t:Hid (Below w.heap.size w w5):=(G.out.alloc G.out.size _).grown z (by have:=G.out.size;simp;omega) (fun y hy=>(P.out.lt y hy).1)
      clear F z dk
      go_wp2_with fail
      go_roundw
      case rel=>exact ⟨i+1,by omega,by go_num,b8.out,fk.out,fl.out,t.out⟩
      case measure=>simp[intOf];omega
     ·have b7:Hid (Yh us vs (i+1)=ps):=by rw[Hid,be.out,<-HQ.out,if_pos rfl]
      have b8:Hid (J.ownsRow w.heap.size 25 1 (.slice ao NP co) (Yh us vs (i+1)).length ((Yh us vs (i+1)).map bb)):=by rw[Hid,b7.out];exact P.out
      go_wp2_with fail
      go_roundw
      case rel=>exact ⟨i+1,by omega,by go_num,b8.out,bc.out,V.out,G.out⟩
      case measure=>simp[intOf];omega
  ·obtain rfl:i=M:=by omega
   have dl:=Xa (Xyv (L:=PL us) S.out (by have:=Y.out;omega) (Nat.le_refl _) (m:=i) bz.out.2 (fun j hj=>(bd.out.nest j hj).nodes (by have:=(f.out.2 j hj).1.1;omega) (f.out.2 j hj).2))
   rw[Y.out] at dl
   have fo:Hid (Vl us vs=Yj 5 [] (fun j=>PL us (ps.getD j 0)) NP):=by rw[Hid,cf.out,br.out,b3.out,Y.out]
   have bp:Hid (∀j,j<NP->okB (PL us (ps.getD j 0))=true):=fun j hj=>by
    have:=dq.out j
    rw[fb.out,b3.out,Y.out,br.out,b3.out] at this
    exact this hj
   have fp:=Xa (Vh bp.out NP (Nat.le_refl _))
   go_wp2_with fail
   refine (Xa9 W.heap.size 5 _ _ [] NP (fun j=>PL us (ps.getD j 0)) W ⟨by simp,fun i hi=>absurd hi (by simp),none,0,rfl,fun h=>absurd h (by simp)⟩ dl.out (Nat.le_refl _) (by omega) (by simp) (by have:=fp.out;omega) (Xc9 bp.out)).mono ?_
   rintro e w6 ⟨r,KV,IV,rfl,bm,dm⟩
   rw[<-fo.out] at bm
   have fq:=Xa bm
   have fr:=Xa (da.out.trans (dm.mono zW))
   obtain ⟨ar,cr,er⟩:=Xg bm.row
   obtain ⟨NN,dp⟩:∃NN,(Vl us vs).length=NN:=⟨_,rfl⟩
   rw[dp] at er
   subst er
   clear bm dm dp
   go_wp2_with fail
   go_ret2
   exact ⟨_,W.heap.size,KV,IV,by rw[HM.out.1];rfl,zW,by rw[HM.out.2];exact fq.out,fr.out⟩


def Jj (m:List (List VN)) (v:List VN) (k:Nat):List (List VN):=((m.take k).filter Xu).map fun _=>v
theorem Xk5 (m:List (List VN)) (v:List VN):Jj m v 0= []:=rfl
theorem Xzz {m:List (List VN)} {v:List VN} {k:Nat} (h:k<m.length) (ht:Xu (Xn m k)=true):Jj m v (k+1)=Jj m v k++ [v]:=by
 unfold Jj
 rw[Vj h,if_pos ht,List.map_append]
 rfl
theorem X2x {m:List (List VN)} {v:List VN} {k:Nat} (h:k<m.length) (ht:Xu (Xn m k)=false):Jj m v (k+1)=Jj m v k:=by
 unfold Jj
 rw[Vj h,if_neg (by rw[ht];simp),List.append_nil]
theorem Xz0 (m:List (List VN)) (v:List VN):Jj m v m.length=(m.filter Xu).map fun _=>v:=by unfold Jj;rw[List.take_length]
theorem Xz1 (m:List (List VN)) (v:List VN) (k:Nat):(Jj m v k).length<=k:=by
 unfold Jj
 rw[List.length_map]
 exact Nat.le_trans (List.length_filter_le _ _) (by rw[List.length_take];exact Nat.min_le_left _ _)
def Qu (m:List (List VN)) (k:Nat):List (List VN):=(m.take k).filter Xu
theorem Xk6 (m:List (List VN)):Qu m 0= []:=rfl
theorem Xz2 {m:List (List VN)} {k:Nat} (h:k<m.length) (ht:Xu (Xn m k)=true):Qu m (k+1)=Qu m k++ [Xn m k]:=by
 unfold Qu
 rw[Vj h,if_pos ht]
theorem X2y {m:List (List VN)} {k:Nat} (h:k<m.length) (ht:Xu (Xn m k)=false):Qu m (k+1)=Qu m k:=by
 unfold Qu
 rw[Vj h,if_neg (by rw[ht];simp),List.append_nil]
theorem Xnu (m:List (List VN)):Qu m m.length=m.filter Xu:=by unfold Qu;rw[List.take_length]
theorem Xz3 (m:List (List VN)) (k:Nat):(Qu m k).length<=k:=by
 unfold Qu
 exact Nat.le_trans (List.length_filter_le _ _) (by rw[List.length_take];exact Nat.min_le_left _ _)
end Go.Proofs.YtdjddneidbddpaaGreatDoor
