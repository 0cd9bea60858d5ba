import Derived.Test.YtdjddneidbddpaaGreatDoorIParts
import Derived.Test.YtdjddneidbddpaaGreatDoorStepI
import Derived.Test.YtdjddneidbddpaaGreatDoorOpen
import Derived.Test.YtdjddneidbddpaaGreatDoorPsZ
import Derived.Test.YtdjddneidbddpaaGreatDoorIMinA
namespace Go.Proofs.YtdjddneidbddpaaGreatDoor
open Go.RowKit
set_option maxRecDepth 100000
set_option maxHeartbeats 6400000
open Go.RowKit Go.Deep Go.ChangeShapes Go.WideShapes
set_option linter.unusedSimpArgs false
set_option linter.unusedVariables false
set_option linter.unusedSectionVars false
structure RawFIn (B:Nat) (w:World) (x:FN) (kc kn ki:Value):Prop where
 cst:RawNodes B w kc x.cst
 names:RawStrs B w kn x.names
 kids:RawInts B w ki x.kids
 size:x.name.size<=9223372036854775807
 klo: -9223372036854775808<=x.kind
 khi:x.kind<=9223372036854775807
 nlo: -9223372036854775808<=x.place
 nhi:x.place<=9223372036854775807
structure RawFAt (B:Nat) (w:World) (b o:Nat) (x:FN) (kc kn ki:Value):Prop where
 c0:w.cell? ⟨b,o,none⟩=some (.int .i64 x.kind)
 c1:w.cell? ⟨b,o+1,none⟩=some (.string x.name)
 c2:w.cell? ⟨b,o+2,none⟩=some (.int .i64 x.place)
 c3:w.cell? ⟨b,o+3,none⟩=some kc
 c4:w.cell? ⟨b,o+4,none⟩=some kn
 c5:w.cell? ⟨b,o+5,none⟩=some ki
 inn:RawFIn B w x kc kn ki
def RawFNodes (B:Nat) (w:World) (v:Value) (fs:List FN):Prop:=
 fs.length<=9223372036854775807/\∃a cap,v= .slice a fs.length cap/\(0<fs.length->∃b o,a=some ⟨b,o,none⟩/\b<B/\∀i,i<fs.length->∃kc kn ki,RawFAt B w b (o+i *6) (Xo fs i) kc kn ki)
structure SmallF (x:FN):Prop where
 s:x.name.size<=1048576
 cn:x.cst.length<=1048576
 cs:∀i,i<x.cst.length->Small (Xb x.cst i)
 nn:x.names.length<=1048576
 ns:∀i,i<x.names.length->(Xf x.names i).size<=1048576
 ki:x.kids.length<=1048576
theorem RawFIn.fit {B:Nat} {w:World} {x:FN} {kc kn ki:Value} (h:RawFIn B w x kc kn ki) (hs:SmallF x):FNodeIn B w x kc kn ki:=
 ⟨h.cst.fit hs.cn hs.cs,h.names.fit hs.nn hs.ns,h.kids.fit hs.ki,by have:=hs.s;omega,h.klo,h.khi,h.nlo,h.nhi⟩
theorem RawFNodes.fit {B:Nat} {w:World} {v:Value} {fs:List FN} (h:RawFNodes B w v fs) (hn:fs.length<=1048576) (hs:∀i,i<fs.length->SmallF (Xo fs i)):FNodesAt B w v fs:=by
 obtain ⟨_,a,d,e,f⟩:=h
 refine ⟨by omega,a,d,e,fun hl=> ?_⟩
 obtain ⟨b,o,g,j,l⟩:=f hl
 refine ⟨b,o,g,j,fun i hi=> ?_⟩
 obtain ⟨p,q,s,c⟩:=l i hi
 exact ⟨p,q,s,c.c0,c.c1,c.c2,c.c3,c.c4,c.c5,c.inn.fit (hs i hi)⟩
theorem RawFIn.below {B:Nat} {w w':World} {x:FN} {kc kn ki:Value} (h:RawFIn B w x kc kn ki) (hb:Below B w w'):RawFIn B w' x kc kn ki:=
 {h with cst:=h.cst.below hb,names:=h.names.below hb,kids:=h.kids.below hb}
theorem RawFAt.below {B:Nat} {w w':World} {b o:Nat} {x:FN} {kc kn ki:Value} (h:RawFAt B w b o x kc kn ki) (hb:Below B w w') (hB:b<B):RawFAt B w' b o x kc kn ki:=
 ⟨(Xc hb hB).trans h.c0,(Xc hb hB).trans h.c1,(Xc hb hB).trans h.c2,(Xc hb hB).trans h.c3,(Xc hb hB).trans h.c4,(Xc hb hB).trans h.c5,h.inn.below hb⟩
theorem X1i:Tryz.prog.cellsOf 34=1:=by kernel_rfl
theorem Xx1:Tryz.prog.cellsOf 80=6:=by kernel_rfl
section
variable {H:Type} {enc:TypeId×Value->H} {W:World} {base:Nat} {spare:Nat->Bool} {held:Bool}
theorem Xx2 {fuel:Nat} {cs:List Value} {x:DataW H×List MemPlace} (h:DataW.trod enc Tryz.prog W base spare held fuel 80 cs=some x):
  ∃(y:FN) (kc kn ki:Value),cs= [.int .i64 y.kind, .string y.name, .int .i64 y.place,kc,kn,ki]/\RawFIn W.heap.size W y kc kn ki:=by
 obtain ⟨F,n,_,_,d,c,b⟩:=DataW.trod_struct Tryz.underlying80 h
 rw[Xx1] at d
 match cs,d with
 |[v0, v1, v2, v3, v4, v5], _ =>
  have f:=b 0 _ rfl
  have g:=b 1 _ rfl
  have j:=b 2 _ rfl
  have l:=b 3 _ rfl
  have o:=b 4 _ rfl
  have q:=b 5 _ rfl
  match F,c with
  |[y0,y1,y2,y3,y4,y5],_=>
   simp[Xkd,Xke,Xpl,Xpm,X1i] at f g j l o q
   obtain ⟨k,t,_,z⟩:=DataW.trod_int Tryz.underlying2 f
   obtain ⟨s,B,_,G⟩:=DataW.trod_string Tryz.underlying9 g
   obtain ⟨p,C,_,D⟩:=DataW.trod_int Tryz.underlying2 j
   obtain ⟨J,L⟩:=Xlj l
   obtain ⟨M,P⟩:=Xpo o
   obtain ⟨is,R⟩:=Xpn q
   simp only[List.cons.injEq,and_true] at t B C
   subst t B C
   unfold maxLen at G
   exact ⟨⟨k,s,p,J,M,is⟩,v3,v4,v5,rfl,L,P,R,by simp only;omega,(Xck z).1,(Xck z).2,(Xck D).1,(Xck D).2⟩
theorem Xur {fuel:Nat} {v:Value} {x:DataW H×List MemPlace} (h:DataW.trod enc Tryz.prog W base spare held fuel 33 [v]=some x):∃fs,RawFNodes W.heap.size W v fs:=by
 rcases open_slice Tryz.underlying33 h with ⟨hcs,_⟩|⟨a,len,cap,m,n,D,Pl,hcs,_,hl,hm,hmm,_,hx⟩
 ·refine ⟨[],by simp,none,0,by simpa using hcs,fun hl=>absurd hl (by simp)⟩
 ·have z:len<=m:=by rw[hmm];split<;>omega
  have B:len<=9223372036854775807:=by unfold maxLen at hm;omega
  rw[Xx1] at hx
  obtain ⟨f,g⟩:= @choose_lt (FN×Value×Value×Value) ⟨(FN.zero,undef,undef,undef)⟩ m (fun i q=>RawFIn W.heap.size W q.1 q.2.1 q.2.2.1 q.2.2.2/\∀j,j<6->W.cell? ((a.add (i *6)).add j)= [Value.int .i64 q.1.kind, .string q.1.name, .int .i64 q.1.place,q.2.1,q.2.2.1,q.2.2.2][j]?) (fun i hi=>by
   obtain ⟨C,F,G⟩:=hx i hi
   obtain ⟨y,J,L,M,e,P⟩:=Xx2 G
   subst e
   exact ⟨(y,J,L,M),P,(World.cells?_some F).2.2⟩)
  have s:∀i,i<len->Xo ((List.range len).map fun i=>(f i).1) i=(f i).1:=fun i hi=>by simp[Xo,hi]
  refine ⟨(List.range len).map fun i=>(f i).1,by simp;omega,some a,cap,by simpa using hcs,fun hl0=> ?_⟩
  simp only[List.length_map,List.length_range] at hl0
  obtain ⟨b,o,d⟩:=a
  have l:d=none:=by
   have R:=(g 0 (by omega)).2 0 (by omega)
   have t:W.cell? ⟨b,o,d⟩=some (.int .i64 (f 0).1.kind):=by simpa [Addr.add] using R
   exact World.cell?_spot t
  subst l
  have p:∀i j,(Addr.add (Addr.add ⟨b,o,none⟩ (i *6)) j)=⟨b,o+i *6+j,none⟩:=fun i j=>by
   rw[add_add]
   by_cases e:i *6+j=0
   ·unfold Addr.add
    rw[if_pos e]
    congr 1
    omega
   ·unfold Addr.add
    rw[if_neg e]
    congr 1
    show o+(i *6+j)=o+i *6+j
    omega
  have c:∀i,i<len->∀j,j<6->W.cell? ⟨b,o+i *6+j,none⟩= [Value.int .i64 (f i).1.kind, .string (f i).1.name, .int .i64 (f i).1.place,(f i).2.1,(f i).2.2.1,(f i).2.2.2][j]? :=fun i hi j hj=>by
   rw[<-p];exact (g i (by omega)).2 j hj
  refine ⟨b,o,rfl,Xgc (b:=b) (o:=o+0 *6+0) (c 0 (by omega) 0 (by omega)),fun i hi=> ?_⟩
  simp only[List.length_map,List.length_range] at hi
  rw[s i hi]
  exact ⟨(f i).2.1,(f i).2.2.1,(f i).2.2.2,c i hi 0 (by omega),c i hi 1 (by omega),c i hi 2 (by omega),c i hi 3 (by omega),c i hi 4 (by omega),c i hi 5 (by omega),(g i (by omega)).1⟩
end


def wtF (x:FN):Nat:=wt x.cst+x.names.length+x.kids.length
def Jc (fs:List FN):Nat->Nat
 |0=>0
 |k+1=>Jc fs k+3+wtF (Xo fs k)
theorem Xyo (B:Nat) (x:FN) (kc kn ki:Value) (r:Int) (w:World) (h:RawFIn B w x kc kn ki) (hB:B<=w.heap.size) (h1:0<=r) (h2:r<=1048576):
  Calls Tryz.prog 41 #[.agg #[.int .i64 x.kind, .string x.name, .int .i64 x.place,kc,kn,ki], .int .i64 r] w fun e w'=>(∃q,e= .returned (.int .i64 q)/\q<=1048576/\(0<=q->SmallF x/\(wtF x:Int)+3 *q<=3 *r))/\Below w.heap.size w w':=by
 have P:=h.size
 have H:=Xa h
 obtain ⟨_,F,c0,R,_⟩:=h.cst
 obtain ⟨_,_,s,c1,S,_⟩:=h.names
 obtain ⟨_,_,t,G,T,_⟩:=h.kids
 subst R S T
 clear h
 obtain ⟨d,b⟩:∃d,d=w.alloc (.cells #[.int .i64 x.kind, .string x.name, .int .i64 x.place, .slice F x.cst.length c0, .slice s x.names.length c1, .slice t x.kids.length G] 80):=⟨_,rfl⟩
 have V:d.cell? ⟨w.heap.size,1,none⟩=some (.string x.name):=by rw[b];simp
 have X:d.cell? ⟨w.heap.size,3,none⟩=some (.slice F x.cst.length c0):=by rw[b];simp
 have J:d.cell? ⟨w.heap.size,4,none⟩=some (.slice s x.names.length c1):=by rw[b];simp
 have L:d.cell? ⟨w.heap.size,5,none⟩=some (.slice t x.kids.length G):=by rw[b];simp
 have y:Hid (d.heap.size=w.heap.size+1):=by rw[Hid,b];simp
 have g:Hid (Below w.heap.size w d):=by rw[Hid,b];exact (Below.refl _ _).alloc (Nat.le_refl _) _
 have l:=Xa b
 clear b
 by_cases hn:r<(x.name.size:Int)
 ·have z:r-(x.name.size:Int)<0:=by omega
  go_enter Tryz.func41,Tryz.ntmps41
  go_wp2_with fail
  rw[<-l.out]
  go_ret
  exact ⟨⟨_,rfl,by omega,fun h=>by omega⟩,g.out⟩
 have z:¬r-(x.name.size:Int)<0:=by omega
 go_enter Tryz.func41,Tryz.ntmps41
 go_wp2_with fail
 rw[<-l.out]
 refine (Xis B _ x.cst _ d (H.out.cst.below (g.out.mono hB)) (by rw[y.out];omega) (by omega) (by omega)).mono ?_
 rintro e Y ⟨⟨q,rfl,hq,M⟩,f⟩
 have Z:=Xa M
 have j4:=(Xc f (show w.heap.size<d.heap.size by rw[y.out];omega)).trans J
 have j5:=(Xc f (show w.heap.size<d.heap.size by rw[y.out];omega)).trans L
 have c:Hid (Below w.heap.size w Y):=g.out.trans (f.mono (by rw[y.out];omega))
 clear M f V X J L
 by_cases hq0:q<0
 ·go_wp2_with fail
  go_ret
  exact ⟨⟨_,rfl,by omega,fun h=>by omega⟩,c.out⟩
 go_wp2_with fail
 refine (Xgw B _ _ _ _ (H.out.names.below (c.out.mono hB)) (by omega) (by omega)).mono ?_
 rintro e w3 ⟨⟨q',rfl,ba,o⟩,j⟩
 subst j
 have C:=Xa o
 clear o
 by_cases hq1:q'<0
 ·go_wp2_with fail
  go_ret
  exact ⟨⟨_,rfl,by omega,fun h=>by omega⟩,c.out⟩
 go_wp2_with fail
 refine (Xir B _ _ _ _ (H.out.kids.below (c.out.mono hB)) (by omega) (by omega)).mono ?_
 rintro e w3 ⟨⟨q2,rfl,bb,p⟩,j⟩
 subst j
 have D:=Xa p
 clear p
 by_cases hq3:q2<0
 ·go_wp2_with fail
  go_ret
  exact ⟨⟨_,rfl,by omega,fun h=>by omega⟩,c.out⟩
 go_wp2_with fail
 go_ret
 exact ⟨⟨_,rfl,by omega,fun h=>by
  obtain ⟨s,t,a3⟩:=Z.out (by omega)
  obtain ⟨b1,b2⟩:=C.out (by omega)
  have c1:=D.out (by omega)
  refine ⟨⟨by omega,s,t,by omega,b2,by omega⟩, ?_⟩
  unfold wtF
  omega⟩,c.out⟩
theorem Xva (B:Nat) (v:Value) (fs:List FN) (r:Int) (w:World) (h:RawFNodes B w v fs) (hB:B<=w.heap.size) (h1:0<=r) (h2:r<=1048576):
  Calls Tryz.prog 11 #[v, .int .i64 r] w fun e w'=>(∃q,e= .returned (.int .i64 q)/\q<=1048576/\(0<=q->fs.length<=1048576/\(∀i,i<fs.length->SmallF (Xo fs i))/\(Jc fs fs.length:Int)+3 *q<=3 *r))/\Below w.heap.size w w':=by
 obtain ⟨G,a,S,rfl,f⟩:=h
 have T:=Xa f
 clear f
 have s:Hid (Jc fs 0=0):=rfl
 have y:Hid (∀k,Jc fs (k+1)=Jc fs k+3+wtF (Xo fs k)):=fun k=>rfl
 go_enter Tryz.func11,Tryz.ntmps11
 go_wp2_with fail
 ·go_ret
  exact ⟨⟨_,rfl,by omega,fun h=>by omega⟩,Below.refl _ _⟩
 ·go_loopw [1,5] (fun t i wr=>∃(k:Nat) (q:Int),k<=fs.length/\i= .int .i64 k/\t= .int .i64 q/\0<=q/\q<=1048576/\Hid (∀j,j<k->SmallF (Xo fs j))/\Hid ((Jc fs k:Int)+3 *q+3 *((fs.length:Int)-k)<=3 *r)/\Below w.heap.size w wr) (fun _ i _=>fs.length-(intOf i).toNat)
  case atStart=>exact ⟨0,_,Nat.zero_le _,rfl,rfl,by omega,by omega,fun j hj=>by omega,by rw[Hid,s.out];omega,Below.refl _ _⟩
  case round=>
   obtain ⟨k,q,hk,rfl,rfl,V,X,J,L,d⟩:=hrel
   by_cases hlt:k<fs.length
   ·obtain ⟨b,o,rfl,z,M⟩:=T.out (by omega)
    obtain ⟨Y,Z,ki,P⟩:=M k hlt
    have c:=P.below (d.mono hB) z
    have c0:=c.c0
    have c1:=c.c1
    have c2:=c.c2
    have c3:=c.c3
    have c4:=c.c4
    have c5:=c.c5
    have C:=Xa c.inn
    have g:=d.size
    clear M P c
    go_wp2_with fail
    refine (Xyo B (Xo fs k) Y Z ki _ _ C.out (by omega) (by omega) (by omega)).mono ?_
    rintro e w' ⟨⟨q',rfl,ba,l⟩,D⟩
    have p:Below w.heap.size w w':=d.trans (D.mono g)
    have R:=Xa l
    clear l
    go_wp2_with fail
    ·go_ret
     exact ⟨⟨_,rfl,by omega,fun h=>by omega⟩,p⟩
    ·have F:Hid ((Jc fs (k+1):Int)+3 *q'+3 *((fs.length:Int)-(k+1:Nat))<=3 *r):=by
      have a1:=L.out
      have a2:=(R.out (by omega)).2
      rw[Hid,y.out k]
      omega
     go_roundw
     case rel=>
      refine ⟨k+1,_,by omega,by go_num,rfl,by omega,by omega,fun j hj=> ?_,F.out,p⟩
      by_cases e:j=k
      ·subst e;exact (R.out (by omega)).1
      ·exact J.out j (by omega)
     case measure=>simp[intOf];omega
   ·obtain rfl:k=fs.length:=by omega
    go_wp2_with fail
    go_ret
    exact ⟨⟨_,rfl,by omega,fun _=>⟨by omega,J.out,by have:=L.out;omega⟩⟩,d⟩


theorem Xtc (K I:Nat->Nat) (k:Nat):∀n,off K I k n=k+off K I 0 n:=by
 intro n
 induction n with
 |zero=>rfl
 |succ n ih=>rw[off,off,ih];omega
theorem Xvv (fs:List FN):∀i j,i<=j->Jc fs i<=Jc fs j:=by
 intro i j h
 induction j with
 |zero => obtain rfl : i = 0 := by omega
          exact Nat.le_refl _
 |succ j ih=>
  by_cases e:i=j+1
  ·subst e;exact Nat.le_refl _
  ·have:=ih (by omega);rw[Jc];omega
structure TurnH (b c:Nat) (P:Nat->Prop) (w w':World):Prop where
 size:w.heap.size<=w'.heap.size
 row:∀o,o≠c *6->o≠c *6+1->o≠c *6+2->w'.cell? ⟨b,o,none⟩=w.cell? ⟨b,o,none⟩
 rest:∀x,x<w.heap.size->x≠b->¬P x->w'.heap[x]? =w.heap[x]?
theorem TurnH.trans {b c:Nat} {P:Nat->Prop} {w1 w2 w3:World} (h:TurnH b c P w1 w2) (k:TurnH b c P w2 w3):TurnH b c P w1 w3:=
 ⟨Nat.le_trans h.size k.size,fun o h1 h2 h3=>(k.row o h1 h2 h3).trans (h.row o h1 h2 h3),fun x h1 h2 h3=>(k.rest x (by have:=h.size;omega) h2 h3).trans (h.rest x h1 h2 h3)⟩
theorem TurnH.set {b c:Nat} {P:Nat->Prop} (w:World) (v:Value) {p:Nat} (hp:p=c *6\/p=c *6+1\/p=c *6+2):TurnH b c P w (w.setCell ⟨b,p,none⟩ v):=
 ⟨by simp,fun o h1 h2 h3=>World.cell?_setCell_other _ _ _ _ (fun e=>by have:=congrArg Addr.off e;simp at this;omega),fun x h1 h2 h3=>Below.heap_setCell w _ v x h2⟩
theorem TurnH.below {b c:Nat} {P:Nat->Prop} {w w':World} (hb:Below w.heap.size w w') (hl:b<w.heap.size):TurnH b c P w w':=⟨hb.size,fun o _ _ _=>Xc hb hl,fun x h _ _=>hb.block x h⟩
theorem TurnH.only {b c:Nat} {P Q:Nat->Prop} {w w':World} (ho:Only Q w w') (hl:b<w.heap.size) (hb:¬Q b) (hP:∀x,Q x->P x):TurnH b c P w w':=
 ⟨ho.1,fun o _ _ _=>ho.cell hl hb,fun x h h1 h2=>ho.2 x h fun hq=>h2 (hP x hq)⟩
structure MkyH (w wr:World) (b n:Nat) (fs:List FN) (L:Nat->Nat) (Q:Nat->FBq) (c:Nat):Prop where
 row:WRow wr b (n *6)
 cells:∀o,c *6<=o->o<n *6->wr.cell? ⟨b,o,none⟩=some (Jp fs Q o)
 rest:∀x,L c<=x->x<w.heap.size->wr.heap[x]? =w.heap[x]?
 size:w.heap.size<=wr.heap.size
theorem MkyH.next {w wr w':World} {b n:Nat} {fs:List FN} {L:Nat->Nat} {Q:Nat->FBq} {c:Nat} (h:MkyH w wr b n fs L Q c) (hl:b<L (c+1)) (hm:L c<=L (c+1)) (t:TurnH b c (fun x=>L c<=x/\x<L (c+1)) wr w') (hrow:WRow w' b (n *6)):MkyH w w' b n fs L Q (c+1):=
 ⟨hrow,fun o h1 h2=>(t.row o (by omega) (by omega) (by omega)).trans (h.cells o (by omega) h2),fun x h1 h2=>(t.rest x (by have:=h.size;omega) (by omega) (fun hx=>by omega)).trans (h.rest x (by omega) h2),by have:=h.size;have:=t.size;omega⟩
theorem Xtd {w w':World} {x o:Nat} (h:w'.heap[x]? =w.heap[x]?):w'.cell? ⟨x,o,none⟩=w.cell? ⟨x,o,none⟩:=by
 unfold World.cell?
 rw[show w'.heap[(⟨x,o,none⟩:Addr).block]? =w.heap[(⟨x,o,none⟩:Addr).block]? from h]
theorem OwnAt.marky_keep {w w':World} {b:Nat} {vs:List VN} {KB KI:Nat->Nat} (h:OwnAt w b vs KB KI) (hn:vs.length<=1048576) (hk:∀i,i<vs.length->(Xb vs i).keys.length<=1048576/\(Xb vs i).kids.length<=1048576) (hs:w.heap.size<=w'.heap.size) (hx:∀x,b<=x->x<w.heap.size->w'.heap[x]? =w.heap[x]?):
  Marky b w' b vs.length (Jz vs) (J0 vs) KB KI:=by
 have c:=h.marky hn hk
 have d:=hx b (Nat.le_refl _) h.row.lt
 refine c.keep hs (c.row.same d) (fun i j _ _ _=>Xtd d) (fun i hi hp=> ?_) (fun i hi hp=> ?_)
 ·have:=h.to.lo i hi
  have e:=hx (KB i) (by omega) (h.to.rk i hi).lt
  exact (Xeh (h.to.rk i hi)).same e
 ·have:=h.to.lo i hi
  have e:=hx (KI i) (by omega) (h.to.ri i hi).lt
  exact (Xeh (h.to.ri i hi)).same e
theorem Xji (b k:Nat) (fs:List FN) (L:Nat->Nat) (Q:Nat->FBq) (w:World) (hr:w.rowIs b 84 (fs.length *6) (Jp fs Q)) (hown:OwnsG w fs (b+1) L Q fs.length) (hn:fs.length<=1048576) (hs:∀i,i<fs.length->SmallF (Xo fs i)) (hk0:1<=k) (hk:k+Jc fs fs.length<=1000000000):
  Calls Tryz.prog 18 #[.slice (some ⟨b,0,none⟩) fs.length fs.length, .int .i64 k] w fun e w'=>e= .returned (.int .i64 (k+Jc fs fs.length:Nat))/\Below b w w'/\∀x,L fs.length<=x->x<w.heap.size->w'.heap[x]? =w.heap[x]? :=by
 have HR:=Xa hr
 have f:=Xa hown
 have HS:=Xa hs
 have d0:=hr.lt
 have br:Hid (MkyH w w b fs.length fs L Q 0):=⟨Xeh hr,fun o _ h=>hr.cell h,fun x _ _=>rfl,Nat.le_refl _⟩
 have cg:Hid (∀c,Jc fs (c+1)=Jc fs c+3+(wt (Xo fs c).cst+(Xo fs c).names.length+(Xo fs c).kids.length)):=fun c=>rfl
 have ch:Hid (∀c,c<=fs.length->Jc fs c<=Jc fs fs.length):=fun c h=>Xvv fs _ _ h
 have ci:Hid (Jc fs 0=0):=rfl
 clear hr hown hs
 obtain ⟨T,hT⟩:∃T,T=Jc fs fs.length:=⟨_,rfl⟩
 rw[<-hT] at hk|-
 have bs:Hid (∀c,c<=fs.length->Jc fs c<=T):=fun c h=>by rw[hT];exact ch.out c h
 have HT:=Xa hT
 clear hT
 obtain ⟨n,bt⟩:∃n,n=fs.length:=⟨_,rfl⟩
 rw[<-bt] at hn br bs|-
 have HN:=Xa bt
 clear bt
 go_enter Tryz.func18,Tryz.ntmps18
 go_wp2_with fail
 go_loopw [1,5] (fun q i wr=>∃c o:Nat,c<=n/\q= .int .i64 (o:Nat)/\i= .int .i64 c/\Hid (o=k+Jc fs c)/\Hid (MkyH w wr b n fs L Q c)/\w.heap.size<=wr.heap.size/\Below b w wr) (fun _ i _=>n-(intOf i).toNat)
 case atStart=>exact ⟨0,k,Nat.zero_le _,rfl,rfl,by rw[Hid,ci.out];rfl,br,Nat.le_refl _,Below.refl _ _⟩
 case round=>
  obtain ⟨c,o,hc,rfl,rfl,S,HM,zs,b3⟩:=hrel
  have b4:=Xa b3
  clear b3 br
  have d1:o<=k+T:=by have:=S.out;have:=bs.out c hc;omega
  have dv:k<=o:=by have:=S.out;omega
  by_cases hlt:c<n
  ·have bp:c<fs.length:=by have:=HN.out;omega
   obtain ⟨hG,cj⟩:=f.out.own c bp
   have b5:=HS.out c bp
   have d2:=f.out.low c (by omega)
   have ck:=f.out.mono c (c+1) (by omega) (by omega)
   have d6:=f.out.mono (c+1) fs.length (by omega) (by omega)
   have d7:=f.out.top
   have cl:=hG.own.lc
   have cm:=hG.own.lk
   have co:=hG.own.li
   have bu:=hG.cb
   have cp:=hG.nb
   have b6:=hG.own.rk.lt
   have b7:=hG.own.ri.lt
   obtain ⟨z,V⟩:∃z,z=(Q c).bc:=⟨_,rfl⟩
   obtain ⟨G,d⟩:∃G,G=(Q c).bk:=⟨_,rfl⟩
   obtain ⟨J,g⟩:∃J,J=(Q c).bi:=⟨_,rfl⟩
   rw[<-V,<-d,<-g] at hG
   rw[<-d] at b6 cm
   rw[<-g] at b7 co cj
   rw[<-V] at cl
   rw[<-V,<-d] at bu
   rw[<-d,<-g] at cp
   have bf:wr.cell? ⟨b,c *6+3,none⟩=some (.slice (some ⟨z,0,none⟩) (Xo fs c).cst.length (Xo fs c).cst.length):=by rw[HM.out.cells _ (by omega) (by omega),Xpg,V]
   have bv:wr.cell? ⟨b,c *6+4,none⟩=some (.slice (some ⟨G,0,none⟩) (Xo fs c).names.length (Xo fs c).names.length):=by rw[HM.out.cells _ (by omega) (by omega),Xph,d]
   have bw:wr.cell? ⟨b,c *6+5,none⟩=some (.slice (some ⟨J,0,none⟩) (Xo fs c).kids.length (Xo fs c).kids.length):=by rw[HM.out.cells _ (by omega) (by omega),Xpi,g]
   have bg:=Xa bu
   have bx:=Xa hG
   have X:=Xa b5
   have bz:Hid (Jc fs (c+1)=Jc fs c+3+(wt (Xo fs c).cst+(Xo fs c).names.length+(Xo fs c).kids.length)):=cg.out c
   have cq:o+3+(wt (Xo fs c).cst+(Xo fs c).names.length+(Xo fs c).kids.length)<=k+T:=by have:=S.out;have:=bs.out (c+1) (by omega);have:=bz.out;omega
   clear bu V d g hG b5
   obtain ⟨M,bh⟩:∃M,M=(Xo fs c).cst.length:=⟨_,rfl⟩
   obtain ⟨Y,Z⟩:∃Y,Y=(Xo fs c).names.length:=⟨_,rfl⟩
   obtain ⟨N3,ba⟩:∃N3,N3=(Xo fs c).kids.length:=⟨_,rfl⟩
   obtain ⟨W0,b0⟩:∃W0,W0=wt (Xo fs c).cst:=⟨_,rfl⟩
   have bj:Hid (M<=1048576/\(∀i,i<M->(Xb (Xo fs c).cst i).keys.length<=1048576/\(Xb (Xo fs c).cst i).kids.length<=1048576)/\Y<=1048576/\N3<=1048576):=by
    rw[Hid,bh,Z,ba]
    exact ⟨X.out.cn,fun i hi=>⟨(X.out.cs i hi).kn,(X.out.cs i hi).ki⟩,X.out.nn,X.out.ki⟩
   have dw:=bj.out.2.2.1
   have dx:=bj.out.2.2.2
   have b8:=bj.out.1
   rw[<-bh] at bf
   rw[<-Z] at bv
   rw[<-ba] at bw
   rw[<-b0,<-Z,<-ba] at cq bz
   have C:=Xa bh
   have cr:=Xa Z
   have ct:=Xa ba
   have cu:=Xa b0
   clear bh Z ba b0
   obtain ⟨⟨v0,r0⟩,f0⟩:=HM.out.row (c *6) (by omega)
   obtain ⟨P,hP⟩:∃P:Nat->Prop,P=fun x=>L c<=x/\x<L (c+1):=⟨_,rfl⟩
   have HP:Hid (∀x,P x↔(L c<=x/\x<L (c+1))):=by rw[Hid,hP];intro x;exact Iff.rfl
   have cv:=Xa hP
   clear hP
   have dy:L (c+1)<=w.heap.size:=by omega
   obtain ⟨W2,l⟩:∃W2,wr.setCell ⟨b,c *6,none⟩ (.int .i64 (o:Int))=W2:=⟨_,rfl⟩
   have cw:Hid (TurnH b c P wr W2):=by rw[Hid,<-l];exact TurnH.set _ _ (.inl rfl)
   have cx:Hid (WRow W2 b (n *6)):=by rw[Hid,<-l];exact HM.out.row.set _ _
   have cy:Hid (Below b w W2):=by rw[Hid,<-l];exact b4.out.setCell (p:=⟨b,c *6,none⟩) (Nat.le_refl _) _
   have z2:W2.heap.size=wr.heap.size:=by rw[<-l];simp
   have cz:Hid (∀x,x≠b->W2.heap[x]? =wr.heap[x]?):=by rw[Hid,<-l];exact fun x B=>Below.heap_setCell _ _ _ _ B
   have c2:=Xa l
   clear l
   go_wp2_with fail
   rw[c2.out]
   (try rw[show ((o:Int)+1)=((o+1:Nat):Int) by omega])
   clear r0 f0
   refine (Vw (o+1) _ (by omega) (by omega)).mono ?_
   rintro e w3 ⟨rfl,D⟩
   have z3:=D.size
   have b9:=Xa (cw.out.trans (TurnH.below D (by omega)))
   have b1:=Xa (cx.out.below D (by omega))
   have c3:=Xa (cy.out.trans (D.mono (by omega)))
   have c4:Hid (∀x,x≠b->x<wr.heap.size->w3.heap[x]? =wr.heap[x]?):=fun x B R=>(D.block x (by omega)).trans (cz.out x B)
   clear D
   obtain ⟨⟨v1,r1⟩,f1⟩:=b1.out (c *6+1) (by omega)
   obtain ⟨⟨v2,r2⟩,f2⟩:=b1.out (c *6+2) (by omega)
   have d8:(w3.setCell ⟨b,c *6+1,none⟩ (.string (Qq (o+1)))).cell? ⟨b,c *6+2,none⟩=some v2:=(World.cell?_setCell_other _ _ _ _ (by simp)).trans r2
   obtain ⟨s,y⟩:∃s,(w3.setCell ⟨b,c *6+1,none⟩ (.string (Qq (o+1)))).setCell ⟨b,c *6+2,none⟩ (.int .i64 ((o:Int)+1+1))=s:=⟨_,rfl⟩
   have bl:Hid (TurnH b c P wr s):=by rw[Hid,<-y];exact (b9.out.trans (TurnH.set _ _ (.inr (.inl rfl)))).trans (TurnH.set _ _ (.inr (.inr rfl)))
   have c5:Hid (WRow s b (n *6)):=by rw[Hid,<-y];exact (b1.out.set _ _).set _ _
   have c6:Hid (Below b w s):=by rw[Hid,<-y];exact (c3.out.setCell (p:=⟨b,c *6+1,none⟩) (Nat.le_refl _) _).setCell (p:=⟨b,c *6+2,none⟩) (Nat.le_refl _) _
   have z4:s.heap.size=w3.heap.size:=by rw[<-y];simp
   have c7:Hid (∀x,x≠b->x<wr.heap.size->s.heap[x]? =wr.heap[x]?):=fun x B R=>by
    rw[<-y]
    exact (Below.heap_setCell _ _ _ _ B).trans ((Below.heap_setCell _ _ _ _ B).trans (c4.out x B R))
   have c8:=Xa y
   have d9:w3.cell? ⟨b,c *6+3,none⟩=some (.slice (some ⟨z,0,none⟩) M M):=(b9.out.row (c *6+3) (by omega) (by omega) (by omega)).trans bf
   have d3:=(bl.out.row (c *6+3) (by omega) (by omega) (by omega)).trans bf
   have d4:=(bl.out.row (c *6+4) (by omega) (by omega) (by omega)).trans bv
   have d5:=(bl.out.row (c *6+5) (by omega) (by omega) (by omega)).trans bw
   have fa:wr.heap.size<=s.heap.size:=by omega
   -- the rows below stand as at the beginning
   have HX:Hid (∀x,L c<=x->x<w.heap.size->s.heap[x]? =w.heap[x]?):=fun x B R=>(c7.out x (by omega) (by omega)).trans (HM.out.rest x B R)
   have H3:Hid (Marky z s z M (Jz (Xo fs c).cst) (J0 (Xo fs c).cst) (Q c).kb (Q c).ki):=by
    rw[Hid,C.out]
    exact bx.out.own.own.marky_keep (by rw[<-C.out];exact b8) (by rw[<-C.out];exact bj.out.2.1) (by omega) (fun x B R=>HX.out x (by omega) R)
   have H4:Hid (WRow s G Y):=by rw[Hid,cr.out];exact (Xeh bx.out.own.rk).same (HX.out G (by omega) b6)
   have H5:Hid (WRow s J N3):=by rw[Hid,ct.out];exact (Xeh bx.out.own.ri).same (HX.out J (by omega) b7)
   have ca:Hid (∀k,off (Jz (Xo fs c).cst) (J0 (Xo fs c).cst) k M=k+W0):=fun k=>by rw[Xtc,C.out,cu.out];rfl
   have bm:b<s.heap.size:=by omega
   have dz:b<=s.heap.size:=by omega
   have c9:=bg.out.1
   have cc:z<=s.heap.size:=by omega
   clear bf bv bw y
   go_wp2_with fail
   rw[c8.out]
   (try rw[show ((o:Int)+1+1+1)=((o+3:Nat):Int) by omega])
   (try rw[show ((o:Int)+2+1)=((o+3:Nat):Int) by omega])
   (try rw[show ((o:Int)+3)=((o+3:Nat):Int) by omega])
   refine (Wl z z M M (o+3) (some ⟨z,0,none⟩) (Jz (Xo fs c).cst) (J0 (Xo fs c).cst) (Q c).kb (Q c).ki _ (fun _=>⟨rfl,H3.out⟩) cc (by omega) (by omega) (by omega)).mono ?_
   rintro e w5 ⟨rfl,da,j,cd⟩
   rw[ca.out]
   have bb:∀x,Xaj z M (Jz (Xo fs c).cst) (J0 (Xo fs c).cst) (Q c).kb (Q c).ki x->z<=x/\x<G:=fun x ⟨B,R⟩=>by
    rcases R with R|⟨i,hi,⟨h3,h4⟩|⟨h3,h4⟩⟩
    ·have:=bg.out.1;omega
    ·have:=bg.out.2 i (by have:=C.out;omega);omega
    ·have:=bg.out.2 i (by have:=C.out;omega);omega
   have bd:¬Xaj z M (Jz (Xo fs c).cst) (J0 (Xo fs c).cst) (Q c).kb (Q c).ki b:=fun hx=>by
    have:=bb b hx
    omega
   have db:=Xa (bl.out.trans (TurnH.only j bm bd (fun x hx=>(HP.out x).2 (by have:=bb x hx;omega))))
   have dc:=Xa (c5.out.same (j.2 b bm bd))
   have dd:=Xa (c6.out.trans (cd.mono (show b<=z by omega)))
   have e4:=(j.cell bm bd).trans d4
   have e5:=(j.cell bm bd).trans d5
   have z5:=j.1
   have de:Hid (WRow w5 G Y):=H4.out.same (j.2 _ (by omega) (fun hx=>by have:=bb _ hx;omega))
   have df:Hid (WRow w5 J N3):=H5.out.same (j.2 _ (by omega) (fun hx=>by have:=bb _ hx;omega))
   have be:b<w5.heap.size:=by omega
   clear da j cd bb bd d3 d4 d5
   go_wp2_with fail
   refine (Xb7 G G Y Y (o+3+W0) (some ⟨G,0,none⟩) _ (fun _=>⟨rfl,Nat.le_refl _,by omega,de.out⟩) (by omega) (by omega) (by omega) (by omega)).mono ?_
   rintro e w6 ⟨rfl,dg,dh,F,ce⟩
   have bn:¬(0<Y/\b=G):=fun ⟨B,R⟩=>by omega
   have di:=Xa (db.out.trans (TurnH.only F be bn (fun x hx=>(HP.out x).2 (by omega))))
   have dj:=Xa (dc.out.same (F.2 b be bn))
   have dk:=Xa (dd.out.trans (ce.mono (show b<=G by omega)))
   have f5:=(F.cell be bn).trans e5
   have z6:=F.1
   have dl:Hid (WRow w6 J N3):=df.out.same (F.2 _ (by omega) (fun hx=>by omega))
   have bq:b<w6.heap.size:=by omega
   clear dg dh F ce bn e4 e5
   go_wp2_with fail
   refine (Xct J J N3 N3 (o+3+W0+Y) (some ⟨J,0,none⟩) _ (fun _=>⟨rfl,Nat.le_refl _,by omega,dl.out⟩) (by omega) (by omega) (by omega)).mono ?_
   rintro e w7 ⟨rfl,dm,dp,bo,cf⟩
   have b2:¬(0<N3/\b=J):=fun ⟨B,R⟩=>by omega
   have dq:=Xa (di.out.trans (TurnH.only bo bq b2 (fun x hx=>(HP.out x).2 (by omega))))
   have dr:=Xa (dj.out.same (bo.2 b bq b2))
   have ds:=Xa (dk.out.trans (cf.mono (show b<=J by omega)))
   have z7:=bo.1
   have dt:Hid (MkyH w w7 b n fs L Q (c+1)):=by
    have t:=dq.out
    rw[cv.out] at t
    exact HM.out.next (by omega) ck t dr.out
   have du:Hid (o+3+W0+Y+N3=k+Jc fs (c+1)):=by
    have B:=S.out
    have R:=bz.out
    rw[Hid];omega
   clear dm dp bo cf b2 f5
   go_wp2_with fail
   go_roundw
   case rel=>exact ⟨c+1,o+3+W0+Y+N3,by omega,by first|rfl|go_num|simp|(simp;omega),by go_num,du,dt,by omega,ds.out⟩
   case measure=>simp[intOf];omega
  ·obtain rfl:c=n:=by omega
   have HE:o=k+T:=by rw[S.out,HT.out,HN.out]
   go_wp2_with fail
   go_ret
   refine ⟨?_,b4.out,by have:=HM.out.rest;exact this⟩
   first|(rw[HE];done)|(simp only[HE];done)|(simp;omega)|omega|go_num
end Go.Proofs.YtdjddneidbddpaaGreatDoor
