import Derived.Test.YtdjddneidbddpaaGreatDoorIParts
import Derived.Test.YtdjddneidbddpaaGreatDoorStepI
import Derived.Test.YtdjddneidbddpaaGreatDoorOpen
import Derived.Test.YtdjddneidbddpaaGreatDoorPsZ
import Derived.Test.YtdjddneidbddpaaGreatDoorEqS2
namespace Go.Proofs.YtdjddneidbddpaaGreatDoor
open Go.RowKit
set_option maxHeartbeats 6400000
open Go.RowKit Go.Deep Go.ChangeShapes Go.WideShapes
set_option linter.unusedSimpArgs false
set_option linter.unusedVariables false
set_option linter.unusedSectionVars false
structure RawFIn (B:Nat) (w:World) (x:FN) (kc kn ki:Value):Prop where
 cst:RawNodes B w kc x.cst
 names:RawStrs B w kn x.names
 kids:RawInts B w ki x.kids
 size:x.name.size≤9223372036854775807
 klo: -9223372036854775808≤x.kind
 khi:x.kind≤9223372036854775807
 nlo: -9223372036854775808≤x.place
 nhi:x.place≤9223372036854775807
structure RawFAt (B:Nat) (w:World) (b o:Nat) (x:FN) (kc kn ki:Value):Prop where
 c0:w.cell? ⟨b,o,none⟩=some (.int .i64 x.kind)
 c1:w.cell? ⟨b,o+1,none⟩=some (.string x.name)
 c2:w.cell? ⟨b,o+2,none⟩=some (.int .i64 x.place)
 c3:w.cell? ⟨b,o+3,none⟩=some kc
 c4:w.cell? ⟨b,o+4,none⟩=some kn
 c5:w.cell? ⟨b,o+5,none⟩=some ki
 inn:RawFIn B w x kc kn ki
def RawFNodes (B:Nat) (w:World) (v:Value) (fs:List FN):Prop:=
 fs.length≤9223372036854775807∧∃a cap,v= .slice a fs.length cap∧(0<fs.length→∃b o,a=some ⟨b,o,none⟩∧b<B∧∀i,i<fs.length→∃kc kn ki,RawFAt B w b (o+i *6) (Xr fs i) kc kn ki)
structure SmallF (x:FN):Prop where
 s:x.name.size≤1048576
 cn:x.cst.length≤1048576
 cs:∀i,i<x.cst.length→Small (Xb x.cst i)
 nn:x.names.length≤1048576
 ns:∀i,i<x.names.length→(Xh x.names i).size≤1048576
 ki:x.kids.length≤1048576
theorem RawFIn.fit {B:Nat} {w:World} {x:FN} {kc kn ki:Value} (h:RawFIn B w x kc kn ki) (hs:SmallF x):FNodeIn B w x kc kn ki:=
 ⟨h.cst.fit hs.cn hs.cs,h.names.fit hs.nn hs.ns,h.kids.fit hs.ki,by have:=hs.s;omega,h.klo,h.khi,h.nlo,h.nhi⟩
theorem RawFNodes.fit {B:Nat} {w:World} {v:Value} {fs:List FN} (h:RawFNodes B w v fs) (hn:fs.length≤1048576) (hs:∀i,i<fs.length→SmallF (Xr fs i)):FNodesAt B w v fs:=by
 obtain ⟨_,a,cap,e,h3⟩:=h
 refine ⟨by omega,a,cap,e,fun hl=> ?_⟩
 obtain ⟨b,o,ea,hb,hc⟩:=h3 hl
 refine ⟨b,o,ea,hb,fun i hi=> ?_⟩
 obtain ⟨kc,kn,ki,hn'⟩:=hc i hi
 exact ⟨kc,kn,ki,hn'.c0,hn'.c1,hn'.c2,hn'.c3,hn'.c4,hn'.c5,hn'.inn.fit (hs i hi)⟩
theorem RawFIn.below {B:Nat} {w w':World} {x:FN} {kc kn ki:Value} (h:RawFIn B w x kc kn ki) (hb:Below B w w'):RawFIn B w' x kc kn ki:=
 {h with cst:=h.cst.below hb,names:=h.names.below hb,kids:=h.kids.below hb}
theorem RawFAt.below {B:Nat} {w w':World} {b o:Nat} {x:FN} {kc kn ki:Value} (h:RawFAt B w b o x kc kn ki) (hb:Below B w w') (hB:b<B):RawFAt B w' b o x kc kn ki:=
 ⟨(Xc hb hB).trans h.c0,(Xc hb hB).trans h.c1,(Xc hb hB).trans h.c2,(Xc hb hB).trans h.c3,(Xc hb hB).trans h.c4,(Xc hb hB).trans h.c5,h.inn.below hb⟩
theorem X1r:Tryz.prog.cellsOf 34=1:=by kernel_rfl
theorem Xyi:Tryz.prog.cellsOf 80=6:=by kernel_rfl
section
variable {H:Type} {enc:TypeId×Value→H} {W:World} {base:Nat} {spare:Nat→Bool} {held:Bool}
set_option maxRecDepth 100000 in
theorem Xyj {fuel:Nat} {cs:List Value} {x:DataW H×List MemPlace} (h:DataW.trod enc Tryz.prog W base spare held fuel 80 cs=some x):
  ∃(y:FN) (kc kn ki:Value),cs= [.int .i64 y.kind, .string y.name, .int .i64 y.place,kc,kn,ki]∧RawFIn W.heap.size W y kc kn ki:=by
 obtain ⟨xs,n,_,_,hl,hlen,hf⟩:=DataW.trod_struct Tryz.underlying80 h
 rw[Xyi] at hl
 match cs,hl with
 | [v0, v1, v2, v3, v4, v5], _ =>
  have f0:=hf 0 _ rfl
  have f1:=hf 1 _ rfl
  have f2:=hf 2 _ rfl
  have f3:=hf 3 _ rfl
  have f4:=hf 4 _ rfl
  have f5:=hf 5 _ rfl
  match xs,hlen with
  | [y0,y1,y2,y3,y4,y5],_=>
   simp[Xku,Xkv,Xp1,Xp2,X1r] at f0 f1 f2 f3 f4 f5
   obtain ⟨k,e0,_,w0⟩:=DataW.trod_int Tryz.underlying2 f0
   obtain ⟨s,e1,_,w1⟩:=DataW.trod_string Tryz.underlying9 f1
   obtain ⟨p,e2,_,w2⟩:=DataW.trod_int Tryz.underlying2 f2
   obtain ⟨vs,r3⟩:=Xlz f3
   obtain ⟨ks,r4⟩:=Xp4 f4
   obtain ⟨is,r5⟩:=Xp3 f5
   simp only[List.cons.injEq,and_true] at e0 e1 e2
   subst e0 e1 e2
   unfold maxLen at w1
   exact ⟨⟨k,s,p,vs,ks,is⟩,v3,v4,v5,rfl,r3,r4,r5,by simp only;omega,(Xc3 w0).1,(Xc3 w0).2,(Xc3 w2).1,(Xc3 w2).2⟩
theorem Xvb {fuel:Nat} {v:Value} {x:DataW H×List MemPlace} (h:DataW.trod enc Tryz.prog W base spare held fuel 33 [v]=some x):∃fs,RawFNodes W.heap.size W v fs:=by
 rcases open_slice Tryz.underlying33 h with ⟨hcs,_⟩|⟨a,len,cap,m,n,D,Pl,hcs,_,hl,hm,hmm,_,hx⟩
 ·refine ⟨[],by simp,none,0,by simpa using hcs,fun hl=>absurd hl (by simp)⟩
 ·have hlen:len≤m:=by rw[hmm];split<;>omega
  have hm':len≤9223372036854775807:=by unfold maxLen at hm;omega
  rw[Xyi] at hx
  obtain ⟨f,hfx⟩:= @choose_lt (FN×Value×Value×Value) ⟨(FN.zero,undef,undef,undef)⟩ m (fun i q=>RawFIn W.heap.size W q.1 q.2.1 q.2.2.1 q.2.2.2∧∀j,j<6→W.cell? ((a.add (i *6)).add j)= [Value.int .i64 q.1.kind, .string q.1.name, .int .i64 q.1.place,q.2.1,q.2.2.1,q.2.2.2][j]?) (fun i hi=>by
   obtain ⟨cs',h1,h2⟩:=hx i hi
   obtain ⟨y,kc,kn,ki,e,hy⟩:=Xyj h2
   subst e
   exact ⟨(y,kc,kn,ki),hy,(World.cells?_some h1).2.2⟩)
  have hat:∀i,i<len→Xr ((List.range len).map fun i=>(f i).1) i=(f i).1:=fun i hi=>by simp[Xr,hi]
  refine ⟨(List.range len).map fun i=>(f i).1,by simp;omega,some a,cap,by simpa using hcs,fun hl0=> ?_⟩
  simp only[List.length_map,List.length_range] at hl0
  obtain ⟨b,o,spot⟩:=a
  have hspot:spot=none:=by
   have h0:=(hfx 0 (by omega)).2 0 (by omega)
   have h0':W.cell? ⟨b,o,spot⟩=some (.int .i64 (f 0).1.kind):=by simpa [Addr.add] using h0
   exact World.cell?_spot h0'
  subst hspot
  have hadd:∀i j,(Addr.add (Addr.add ⟨b,o,none⟩ (i *6)) j)=⟨b,o+i *6+j,none⟩:=fun i j=>by
   rw[add_add]
   by_cases e:i *6+j=0
   ·unfold Addr.add
    rw[if_pos e]
    congr 1
    omega
   ·unfold Addr.add
    rw[if_neg e]
    congr 1
    show o+(i *6+j)=o+i *6+j
    omega
  have hc':∀i,i<len→∀j,j<6→W.cell? ⟨b,o+i *6+j,none⟩= [Value.int .i64 (f i).1.kind, .string (f i).1.name, .int .i64 (f i).1.place,(f i).2.1,(f i).2.2.1,(f i).2.2.2][j]? :=fun i hi j hj=>by
   rw[←hadd];exact (hfx i (by omega)).2 j hj
  refine ⟨b,o,rfl,Xgr (b:=b) (o:=o+0 *6+0) (hc' 0 (by omega) 0 (by omega)),fun i hi=> ?_⟩
  simp only[List.length_map,List.length_range] at hi
  rw[hat i hi]
  exact ⟨(f i).2.1,(f i).2.2.1,(f i).2.2.2,hc' i hi 0 (by omega),hc' i hi 1 (by omega),hc' i hi 2 (by omega),hc' i hi 3 (by omega),hc' i hi 4 (by omega),hc' i hi 5 (by omega),(hfx i (by omega)).1⟩
end

def wtF (x:FN):Nat:=wt x.cst+x.names.length+x.kids.length
def Jl (fs:List FN):Nat→Nat
 |0=>0
 |k+1=>Jl fs k+3+wtF (Xr fs k)
theorem Xyz (B:Nat) (x:FN) (kc kn ki:Value) (r:Int) (w:World) (h:RawFIn B w x kc kn ki) (hB:B≤w.heap.size) (h1:0≤r) (h2:r≤1048576):
  Calls Tryz.prog 41 #[.agg #[.int .i64 x.kind, .string x.name, .int .i64 x.place,kc,kn,ki], .int .i64 r] w fun e w'=>(∃q,e= .returned (.int .i64 q)∧q≤1048576∧(0≤q→SmallF x∧(wtF x:Int)+3 *q≤3 *r))∧Below w.heap.size w w':=by
 have hsz:=h.size
 have H:=Xa h
 obtain ⟨_,a0,c0,e0,_⟩:=h.cst
 obtain ⟨_,_,a1,c1,e1,_⟩:=h.names
 obtain ⟨_,_,a2,c2,e2,_⟩:=h.kids
 subst e0 e1 e2
 clear h
 obtain ⟨W1,hW1⟩:∃W1,W1=w.alloc (.cells #[.int .i64 x.kind, .string x.name, .int .i64 x.place, .slice a0 x.cst.length c0, .slice a1 x.names.length c1, .slice a2 x.kids.length c2] 80):=⟨_,rfl⟩
 have d1:W1.cell? ⟨w.heap.size,1,none⟩=some (.string x.name):=by rw[hW1];simp
 have d3:W1.cell? ⟨w.heap.size,3,none⟩=some (.slice a0 x.cst.length c0):=by rw[hW1];simp
 have d4:W1.cell? ⟨w.heap.size,4,none⟩=some (.slice a1 x.names.length c1):=by rw[hW1];simp
 have d5:W1.cell? ⟨w.heap.size,5,none⟩=some (.slice a2 x.kids.length c2):=by rw[hW1];simp
 have HZ:Hid (W1.heap.size=w.heap.size+1):=by rw[Hid,hW1];simp
 have HBW:Hid (Below w.heap.size w W1):=by rw[Hid,hW1];exact (Below.refl _ _).alloc (Nat.le_refl _) _
 have HW1:=Xa hW1
 clear hW1
 by_cases hn:r<(x.name.size:Int)
 ·have hn':r-(x.name.size:Int)<0:=by omega
  go_enter Tryz.func41,Tryz.ntmps41
  go_wp2_with fail
  rw[←HW1.out]
  go_ret
  exact ⟨⟨_,rfl,by omega,fun h=>by omega⟩,HBW.out⟩
 have hn':¬r-(x.name.size:Int)<0:=by omega
 go_enter Tryz.func41,Tryz.ntmps41
 go_wp2_with fail
 rw[←HW1.out]
 refine (Xi9 B _ x.cst _ W1 (H.out.cst.below (HBW.out.mono hB)) (by rw[HZ.out];omega) (by omega) (by omega)).mono ?_
 rintro e w2 ⟨⟨q,rfl,hq,hk⟩,hb2⟩
 have HK:=Xa hk
 have j4:=(Xc hb2 (show w.heap.size<W1.heap.size by rw[HZ.out];omega)).trans d4
 have j5:=(Xc hb2 (show w.heap.size<W1.heap.size by rw[HZ.out];omega)).trans d5
 have HB2:Hid (Below w.heap.size w w2):=HBW.out.trans (hb2.mono (by rw[HZ.out];omega))
 clear hk hb2 d1 d3 d4 d5
 by_cases hq0:q<0
 ·go_wp2_with fail
  go_ret
  exact ⟨⟨_,rfl,by omega,fun h=>by omega⟩,HB2.out⟩
 go_wp2_with fail
 refine (Xhb B _ _ _ _ (H.out.names.below (HB2.out.mono hB)) (by omega) (by omega)).mono ?_
 rintro e w3 ⟨⟨q',rfl,hq',hk'⟩,hw3⟩
 subst hw3
 have HK':=Xa hk'
 clear hk'
 by_cases hq1:q'<0
 ·go_wp2_with fail
  go_ret
  exact ⟨⟨_,rfl,by omega,fun h=>by omega⟩,HB2.out⟩
 go_wp2_with fail
 refine (Xi8 B _ _ _ _ (H.out.kids.below (HB2.out.mono hB)) (by omega) (by omega)).mono ?_
 rintro e w3 ⟨⟨q2,rfl,hq2,hk2⟩,hw3⟩
 subst hw3
 have HK2:=Xa hk2
 clear hk2
 by_cases hq3:q2<0
 ·go_wp2_with fail
  go_ret
  exact ⟨⟨_,rfl,by omega,fun h=>by omega⟩,HB2.out⟩
 go_wp2_with fail
 go_ret
 exact ⟨⟨_,rfl,by omega,fun h=>by
  obtain ⟨a1,a2,a3⟩:=HK.out (by omega)
  obtain ⟨b1,b2⟩:=HK'.out (by omega)
  have c1:=HK2.out (by omega)
  refine ⟨⟨by omega,a1,a2,by omega,b2,by omega⟩, ?_⟩
  unfold wtF
  omega⟩,HB2.out⟩
theorem Xvt (B:Nat) (v:Value) (fs:List FN) (r:Int) (w:World) (h:RawFNodes B w v fs) (hB:B≤w.heap.size) (h1:0≤r) (h2:r≤1048576):
  Calls Tryz.prog 11 #[v, .int .i64 r] w fun e w'=>(∃q,e= .returned (.int .i64 q)∧q≤1048576∧(0≤q→fs.length≤1048576∧(∀i,i<fs.length→SmallF (Xr fs i))∧(Jl fs fs.length:Int)+3 *q≤3 *r))∧Below w.heap.size w w':=by
 obtain ⟨hlen,a,cap,rfl,hcell⟩:=h
 have HC:=Xa hcell
 clear hcell
 have HW0:Hid (Jl fs 0=0):=rfl
 have HWS:Hid (∀k,Jl fs (k+1)=Jl fs k+3+wtF (Xr fs k)):=fun k=>rfl
 go_enter Tryz.func11,Tryz.ntmps11
 go_wp2_with fail
 ·go_ret
  exact ⟨⟨_,rfl,by omega,fun h=>by omega⟩,Below.refl _ _⟩
 ·go_loopw [1,5] (fun t i wr=>∃(k:Nat) (q:Int),k≤fs.length∧i= .int .i64 k∧t= .int .i64 q∧0≤q∧q≤1048576∧Hid (∀j,j<k→SmallF (Xr fs j))∧Hid ((Jl fs k:Int)+3 *q+3 *((fs.length:Int)-k)≤3 *r)∧Below w.heap.size w wr) (fun _ i _=>fs.length-(intOf i).toNat)
  case atStart=>exact ⟨0,_,Nat.zero_le _,rfl,rfl,by omega,by omega,fun j hj=>by omega,by rw[Hid,HW0.out];omega,Below.refl _ _⟩
  case round=>
   obtain ⟨k,q,hk,rfl,rfl,hq0,hq1,HS,HO,hbel⟩:=hrel
   by_cases hlt:k<fs.length
   ·obtain ⟨b,o,rfl,hbB,hc⟩:=HC.out (by omega)
    obtain ⟨kc,kn,ki,hn⟩:=hc k hlt
    have hn':=hn.below (hbel.mono hB) hbB
    have c0:=hn'.c0
    have c1:=hn'.c1
    have c2:=hn'.c2
    have c3:=hn'.c3
    have c4:=hn'.c4
    have c5:=hn'.c5
    have hin:=Xa hn'.inn
    have hsize:=hbel.size
    clear hc hn hn'
    go_wp2_with fail
    refine (Xyz B (Xr fs k) kc kn ki _ _ hin.out (by omega) (by omega) (by omega)).mono ?_
    rintro e w' ⟨⟨q',rfl,hq',hsm⟩,hb'⟩
    have hb2:Below w.heap.size w w':=hbel.trans (hb'.mono hsize)
    have HM:=Xa hsm
    clear hsm
    go_wp2_with fail
    ·go_ret
     exact ⟨⟨_,rfl,by omega,fun h=>by omega⟩,hb2⟩
    ·have HO2:Hid ((Jl fs (k+1):Int)+3 *q'+3 *((fs.length:Int)-(k+1:Nat))≤3 *r):=by
      have a1:=HO.out
      have a2:=(HM.out (by omega)).2
      rw[Hid,HWS.out k]
      omega
     go_roundw
     case rel=>
      refine ⟨k+1,_,by omega,by go_num,rfl,by omega,by omega,fun j hj=> ?_,HO2.out,hb2⟩
      by_cases e:j=k
      ·subst e;exact (HM.out (by omega)).1
      ·exact HS.out j (by omega)
     case measure=>simp[intOf];omega
   ·obtain rfl:k=fs.length:=by omega
    go_wp2_with fail
    go_ret
    exact ⟨⟨_,rfl,by omega,fun _=>⟨by omega,HS.out,by have:=HO.out;omega⟩⟩,hbel⟩

theorem Xty (K I:Nat→Nat) (k:Nat):∀n,off K I k n=k+off K I 0 n:=by
 intro n
 induction n with
 |zero=>rfl
 |succ n ih=>rw[off,off,ih];omega
theorem Xwd (fs:List FN):∀i j,i≤j→Jl fs i≤Jl fs j:=by
 intro i j h
 induction j with
 | zero => obtain rfl : i = 0 := by omega
           exact Nat.le_refl _
 | succ j ih =>
  by_cases e:i=j+1
  ·subst e;exact Nat.le_refl _
  ·have:=ih (by omega);rw[Jl];omega
structure TurnH (b c:Nat) (P:Nat→Prop) (w w':World):Prop where
 size:w.heap.size≤w'.heap.size
 row:∀o,o≠c *6→o≠c *6+1→o≠c *6+2→w'.cell? ⟨b,o,none⟩=w.cell? ⟨b,o,none⟩
 rest:∀x,x<w.heap.size→x≠b→¬P x→w'.heap[x]? =w.heap[x]?
theorem TurnH.trans {b c:Nat} {P:Nat→Prop} {w1 w2 w3:World} (h:TurnH b c P w1 w2) (k:TurnH b c P w2 w3):TurnH b c P w1 w3:=
 ⟨Nat.le_trans h.size k.size,fun o h1 h2 h3=>(k.row o h1 h2 h3).trans (h.row o h1 h2 h3),fun x h1 h2 h3=>(k.rest x (by have:=h.size;omega) h2 h3).trans (h.rest x h1 h2 h3)⟩
theorem TurnH.set {b c:Nat} {P:Nat→Prop} (w:World) (v:Value) {p:Nat} (hp:p=c *6∨p=c *6+1∨p=c *6+2):TurnH b c P w (w.setCell ⟨b,p,none⟩ v):=
 ⟨by simp,fun o h1 h2 h3=>World.cell?_setCell_other _ _ _ _ (fun e=>by have:=congrArg Addr.off e;simp at this;omega),fun x h1 h2 h3=>Below.heap_setCell w _ v x h2⟩
theorem TurnH.below {b c:Nat} {P:Nat→Prop} {w w':World} (hb:Below w.heap.size w w') (hl:b<w.heap.size):TurnH b c P w w':=⟨hb.size,fun o _ _ _=>Xc hb hl,fun x h _ _=>hb.block x h⟩
theorem TurnH.only {b c:Nat} {P Q:Nat→Prop} {w w':World} (ho:Only Q w w') (hl:b<w.heap.size) (hb:¬Q b) (hP:∀x,Q x→P x):TurnH b c P w w':=
 ⟨ho.1,fun o _ _ _=>ho.cell hl hb,fun x h h1 h2=>ho.2 x h fun hq=>h2 (hP x hq)⟩
structure MkyH (w wr:World) (b n:Nat) (fs:List FN) (L:Nat→Nat) (Q:Nat→FBq) (c:Nat):Prop where
 row:WRow wr b (n *6)
 cells:∀o,c *6≤o→o<n *6→wr.cell? ⟨b,o,none⟩=some (Jz fs Q o)
 rest:∀x,L c≤x→x<w.heap.size→wr.heap[x]? =w.heap[x]?
 size:w.heap.size≤wr.heap.size
theorem MkyH.next {w wr w':World} {b n:Nat} {fs:List FN} {L:Nat→Nat} {Q:Nat→FBq} {c:Nat} (h:MkyH w wr b n fs L Q c) (hl:b<L (c+1)) (hm:L c≤L (c+1)) (t:TurnH b c (fun x=>L c≤x∧x<L (c+1)) wr w') (hrow:WRow w' b (n *6)):MkyH w w' b n fs L Q (c+1):=
 ⟨hrow,fun o h1 h2=>(t.row o (by omega) (by omega) (by omega)).trans (h.cells o (by omega) h2),fun x h1 h2=>(t.rest x (by have:=h.size;omega) (by omega) (fun hx=>by omega)).trans (h.rest x (by omega) h2),by have:=h.size;have:=t.size;omega⟩
theorem Xtz {w w':World} {x o:Nat} (h:w'.heap[x]? =w.heap[x]?):w'.cell? ⟨x,o,none⟩=w.cell? ⟨x,o,none⟩:=by
 unfold World.cell?
 rw[show w'.heap[(⟨x,o,none⟩:Addr).block]? =w.heap[(⟨x,o,none⟩:Addr).block]? from h]
theorem OwnAt.marky_keep {w w':World} {b:Nat} {vs:List VN} {KB KI:Nat→Nat} (h:OwnAt w b vs KB KI) (hn:vs.length≤1048576) (hk:∀i,i<vs.length→(Xb vs i).keys.length≤1048576∧(Xb vs i).kids.length≤1048576) (hs:w.heap.size≤w'.heap.size) (hx:∀x,b≤x→x<w.heap.size→w'.heap[x]? =w.heap[x]?):
  Marky b w' b vs.length (J8 vs) (J9 vs) KB KI:=by
 have hm:=h.marky hn hk
 have hb:=hx b (Nat.le_refl _) h.row.lt
 refine hm.keep hs (hm.row.same hb) (fun i j _ _ _=>Xtz hb) (fun i hi hp=> ?_) (fun i hi hp=> ?_)
 ·have:=h.to.lo i hi
  have e:=hx (KB i) (by omega) (h.to.rk i hi).lt
  exact (Xe1 (h.to.rk i hi)).same e
 ·have:=h.to.lo i hi
  have e:=hx (KI i) (by omega) (h.to.ri i hi).lt
  exact (Xe1 (h.to.ri i hi)).same e
set_option maxRecDepth 100000 in
theorem Xj0 (b k:Nat) (fs:List FN) (L:Nat→Nat) (Q:Nat→FBq) (w:World) (hr:w.rowIs b 84 (fs.length *6) (Jz fs Q)) (hown:OwnsG w fs (b+1) L Q fs.length) (hn:fs.length≤1048576) (hs:∀i,i<fs.length→SmallF (Xr fs i)) (hk0:1≤k) (hk:k+Jl fs fs.length≤1000000000):
  Calls Tryz.prog 18 #[.slice (some ⟨b,0,none⟩) fs.length fs.length, .int .i64 k] w fun e w'=>e= .returned (.int .i64 (k+Jl fs fs.length:Nat))∧Below b w w'∧∀x,L fs.length≤x→x<w.heap.size→w'.heap[x]? =w.heap[x]? :=by
 have HR:=Xa hr
 have HOWN:=Xa hown
 have HS:=Xa hs
 have hbs:=hr.lt
 have HM0:Hid (MkyH w w b fs.length fs L Q 0):=⟨Xe1 hr,fun o _ h=>hr.cell h,fun x _ _=>rfl,Nat.le_refl _⟩
 have HWS:Hid (∀c,Jl fs (c+1)=Jl fs c+3+(wt (Xr fs c).cst+(Xr fs c).names.length+(Xr fs c).kids.length)):=fun c=>rfl
 have HLE:Hid (∀c,c≤fs.length→Jl fs c≤Jl fs fs.length):=fun c h=>Xwd fs _ _ h
 have HW0:Hid (Jl fs 0=0):=rfl
 clear hr hown hs
 obtain ⟨T,hT⟩:∃T,T=Jl fs fs.length:=⟨_,rfl⟩
 rw[←hT] at hk⊢
 have HLT:Hid (∀c,c≤fs.length→Jl fs c≤T):=fun c h=>by rw[hT];exact HLE.out c h
 have HT:=Xa hT
 clear hT
 obtain ⟨n,hnn⟩:∃n,n=fs.length:=⟨_,rfl⟩
 rw[←hnn] at hn HM0 HLT⊢
 have HN:=Xa hnn
 clear hnn
 go_enter Tryz.func18,Tryz.ntmps18
 go_wp2_with fail
 go_loopw [1,5] (fun q i wr=>∃c o:Nat,c≤n∧q= .int .i64 (o:Nat)∧i= .int .i64 c∧Hid (o=k+Jl fs c)∧Hid (MkyH w wr b n fs L Q c)∧w.heap.size≤wr.heap.size∧Below b w wr) (fun _ i _=>n-(intOf i).toNat)
 case atStart=>exact ⟨0,k,Nat.zero_le _,rfl,rfl,by rw[Hid,HW0.out];rfl,HM0,Nat.le_refl _,Below.refl _ _⟩
 case round=>
  obtain ⟨c,o,hc,rfl,rfl,HOO,HM,zs,hbl⟩:=hrel
  have HBL:=Xa hbl
  clear hbl HM0
  have hok:o≤k+T:=by have:=HOO.out;have:=HLT.out c hc;omega
  have hok1:k≤o:=by have:=HOO.out;omega
  by_cases hlt:c<n
  ·have hltF:c<fs.length:=by have:=HN.out;omega
   obtain ⟨hG,hGe⟩:=HOWN.out.own c hltF
   have hSm:=HS.out c hltF
   have hL0:=HOWN.out.low c (by omega)
   have hL1:=HOWN.out.mono c (c+1) (by omega) (by omega)
   have hL2:=HOWN.out.mono (c+1) fs.length (by omega) (by omega)
   have hL3:=HOWN.out.top
   have hlc:=hG.own.lc
   have hlk:=hG.own.lk
   have hli:=hG.own.li
   have hcb:=hG.cb
   have hnb:=hG.nb
   have hbk:=hG.own.rk.lt
   have hbi:=hG.own.ri.lt
   obtain ⟨bc,hbc⟩:∃bc,bc=(Q c).bc:=⟨_,rfl⟩
   obtain ⟨bk,hbk'⟩:∃bk,bk=(Q c).bk:=⟨_,rfl⟩
   obtain ⟨bi,hbi'⟩:∃bi,bi=(Q c).bi:=⟨_,rfl⟩
   rw[←hbc,←hbk',←hbi'] at hG
   rw[←hbk'] at hbk hlk
   rw[←hbi'] at hbi hli hGe
   rw[←hbc] at hlc
   rw[←hbc,←hbk'] at hcb
   rw[←hbk',←hbi'] at hnb
   have d3':wr.cell? ⟨b,c *6+3,none⟩=some (.slice (some ⟨bc,0,none⟩) (Xr fs c).cst.length (Xr fs c).cst.length):=by rw[HM.out.cells _ (by omega) (by omega),Xjf,hbc]
   have d4':wr.cell? ⟨b,c *6+4,none⟩=some (.slice (some ⟨bk,0,none⟩) (Xr fs c).names.length (Xr fs c).names.length):=by rw[HM.out.cells _ (by omega) (by omega),Xjg,hbk']
   have d5':wr.cell? ⟨b,c *6+5,none⟩=some (.slice (some ⟨bi,0,none⟩) (Xr fs c).kids.length (Xr fs c).kids.length):=by rw[HM.out.cells _ (by omega) (by omega),Xjh,hbi']
   have HCB:=Xa hcb
   have HGG:=Xa hG
   have HSM:=Xa hSm
   have HWC:Hid (Jl fs (c+1)=Jl fs c+3+(wt (Xr fs c).cst+(Xr fs c).names.length+(Xr fs c).kids.length)):=HWS.out c
   have hTc:o+3+(wt (Xr fs c).cst+(Xr fs c).names.length+(Xr fs c).kids.length)≤k+T:=by have:=HOO.out;have:=HLT.out (c+1) (by omega);have:=HWC.out;omega
   clear hcb hbc hbk' hbi' hG hSm
   obtain ⟨N1,hN1⟩:∃N1,N1=(Xr fs c).cst.length:=⟨_,rfl⟩
   obtain ⟨N2,hN2⟩:∃N2,N2=(Xr fs c).names.length:=⟨_,rfl⟩
   obtain ⟨N3,hN3⟩:∃N3,N3=(Xr fs c).kids.length:=⟨_,rfl⟩
   obtain ⟨W0,hW0⟩:∃W0,W0=wt (Xr fs c).cst:=⟨_,rfl⟩
   have HB1:Hid (N1≤1048576∧(∀i,i<N1→(Xb (Xr fs c).cst i).keys.length≤1048576∧(Xb (Xr fs c).cst i).kids.length≤1048576)∧N2≤1048576∧N3≤1048576):=by
    rw[Hid,hN1,hN2,hN3]
    exact ⟨HSM.out.cn,fun i hi=>⟨(HSM.out.cs i hi).kn,(HSM.out.cs i hi).ki⟩,HSM.out.nn,HSM.out.ki⟩
   have hN2l:=HB1.out.2.2.1
   have hN3l:=HB1.out.2.2.2
   have hN1l:=HB1.out.1
   rw[←hN1] at d3'
   rw[←hN2] at d4'
   rw[←hN3] at d5'
   rw[←hW0,←hN2,←hN3] at hTc HWC
   have HN1:=Xa hN1
   have HN2:=Xa hN2
   have HN3:=Xa hN3
   have HWW:=Xa hW0
   clear hN1 hN2 hN3 hW0
   obtain ⟨⟨v0,r0⟩,f0⟩:=HM.out.row (c *6) (by omega)
   obtain ⟨P,hP⟩:∃P:Nat→Prop,P=fun x=>L c≤x∧x<L (c+1):=⟨_,rfl⟩
   have HP:Hid (∀x,P x↔(L c≤x∧x<L (c+1))):=by rw[Hid,hP];intro x;exact Iff.rfl
   have HPE:=Xa hP
   clear hP
   have hltL:L (c+1)≤w.heap.size:=by omega
   obtain ⟨W2,hW2⟩:∃W2,wr.setCell ⟨b,c *6,none⟩ (.int .i64 (o:Int))=W2:=⟨_,rfl⟩
   have HT2:Hid (TurnH b c P wr W2):=by rw[Hid,←hW2];exact TurnH.set _ _ (.inl rfl)
   have HR2:Hid (WRow W2 b (n *6)):=by rw[Hid,←hW2];exact HM.out.row.set _ _
   have HB2:Hid (Below b w W2):=by rw[Hid,←hW2];exact HBL.out.setCell (p:=⟨b,c *6,none⟩) (Nat.le_refl _) _
   have z2:W2.heap.size=wr.heap.size:=by rw[←hW2];simp
   have HX2:Hid (∀x,x≠b→W2.heap[x]? =wr.heap[x]?):=by rw[Hid,←hW2];exact fun x h1=>Below.heap_setCell _ _ _ _ h1
   have HW2:=Xa hW2
   clear hW2
   go_wp2_with fail
   rw[HW2.out]
   (try rw[show ((o:Int)+1)=((o+1:Nat):Int) by omega])
   clear r0 f0
   refine (V3 (o+1) _ (by omega) (by omega)).mono ?_
   rintro e w3 ⟨rfl,hb3⟩
   have z3:=hb3.size
   have HT3:=Xa (HT2.out.trans (TurnH.below hb3 (by omega)))
   have HR3:=Xa (HR2.out.below hb3 (by omega))
   have HB3:=Xa (HB2.out.trans (hb3.mono (by omega)))
   have HX3:Hid (∀x,x≠b→x<wr.heap.size→w3.heap[x]? =wr.heap[x]?):=fun x h1 h2=>(hb3.block x (by omega)).trans (HX2.out x h1)
   clear hb3
   obtain ⟨⟨v1,r1⟩,f1⟩:=HR3.out (c *6+1) (by omega)
   obtain ⟨⟨v2,r2⟩,f2⟩:=HR3.out (c *6+2) (by omega)
   have r2':(w3.setCell ⟨b,c *6+1,none⟩ (.string (Qt (o+1)))).cell? ⟨b,c *6+2,none⟩=some v2:=(World.cell?_setCell_other _ _ _ _ (by simp)).trans r2
   obtain ⟨W4,hW4⟩:∃W4,(w3.setCell ⟨b,c *6+1,none⟩ (.string (Qt (o+1)))).setCell ⟨b,c *6+2,none⟩ (.int .i64 ((o:Int)+1+1))=W4:=⟨_,rfl⟩
   have HT4:Hid (TurnH b c P wr W4):=by rw[Hid,←hW4];exact (HT3.out.trans (TurnH.set _ _ (.inr (.inl rfl)))).trans (TurnH.set _ _ (.inr (.inr rfl)))
   have HR4:Hid (WRow W4 b (n *6)):=by rw[Hid,←hW4];exact (HR3.out.set _ _).set _ _
   have HB4:Hid (Below b w W4):=by rw[Hid,←hW4];exact (HB3.out.setCell (p:=⟨b,c *6+1,none⟩) (Nat.le_refl _) _).setCell (p:=⟨b,c *6+2,none⟩) (Nat.le_refl _) _
   have z4:W4.heap.size=w3.heap.size:=by rw[←hW4];simp
   have HX4:Hid (∀x,x≠b→x<wr.heap.size→W4.heap[x]? =wr.heap[x]?):=fun x h1 h2=>by
    rw[←hW4]
    exact (Below.heap_setCell _ _ _ _ h1).trans ((Below.heap_setCell _ _ _ _ h1).trans (HX3.out x h1 h2))
   have HW4:=Xa hW4
   have d33:w3.cell? ⟨b,c *6+3,none⟩=some (.slice (some ⟨bc,0,none⟩) N1 N1):=(HT3.out.row (c *6+3) (by omega) (by omega) (by omega)).trans d3'
   have d3:=(HT4.out.row (c *6+3) (by omega) (by omega) (by omega)).trans d3'
   have d4:=(HT4.out.row (c *6+4) (by omega) (by omega) (by omega)).trans d4'
   have d5:=(HT4.out.row (c *6+5) (by omega) (by omega) (by omega)).trans d5'
   have zz4:wr.heap.size≤W4.heap.size:=by omega
   -- the rows below stand as at the beginning
   have HX:Hid (∀x,L c≤x→x<w.heap.size→W4.heap[x]? =w.heap[x]?):=fun x h1 h2=>(HX4.out x (by omega) (by omega)).trans (HM.out.rest x h1 h2)
   have H3:Hid (Marky bc W4 bc N1 (J8 (Xr fs c).cst) (J9 (Xr fs c).cst) (Q c).kb (Q c).ki):=by
    rw[Hid,HN1.out]
    exact HGG.out.own.own.marky_keep (by rw[←HN1.out];exact hN1l) (by rw[←HN1.out];exact HB1.out.2.1) (by omega) (fun x h1 h2=>HX.out x (by omega) h2)
   have H4:Hid (WRow W4 bk N2):=by rw[Hid,HN2.out];exact (Xe1 HGG.out.own.rk).same (HX.out bk (by omega) hbk)
   have H5:Hid (WRow W4 bi N3):=by rw[Hid,HN3.out];exact (Xe1 HGG.out.own.ri).same (HX.out bi (by omega) hbi)
   have HOFF:Hid (∀k,off (J8 (Xr fs c).cst) (J9 (Xr fs c).cst) k N1=k+W0):=fun k=>by rw[Xty,HN1.out,HWW.out];rfl
   have hb4:b<W4.heap.size:=by omega
   have hlo4:b≤W4.heap.size:=by omega
   have hbcbk:=HCB.out.1
   have hbc4:bc≤W4.heap.size:=by omega
   clear d3' d4' d5' hW4
   go_wp2_with fail
   rw[HW4.out]
   (try rw[show ((o:Int)+1+1+1)=((o+3:Nat):Int) by omega])
   (try rw[show ((o:Int)+2+1)=((o+3:Nat):Int) by omega])
   (try rw[show ((o:Int)+3)=((o+3:Nat):Int) by omega])
   refine (Ww bc bc N1 N1 (o+3) (some ⟨bc,0,none⟩) (J8 (Xr fs c).cst) (J9 (Xr fs c).cst) (Q c).kb (Q c).ki _ (fun _=>⟨rfl,H3.out⟩) hbc4 (by omega) (by omega) (by omega)).mono ?_
   rintro e w5 ⟨rfl,hk5,ho5,hb5⟩
   rw[HOFF.out]
   have hm5:∀x,Xav bc N1 (J8 (Xr fs c).cst) (J9 (Xr fs c).cst) (Q c).kb (Q c).ki x→bc≤x∧x<bk:=fun x ⟨h1,h2⟩=>by
    rcases h2 with h2|⟨i,hi,⟨h3,h4⟩|⟨h3,h4⟩⟩
    ·have:=HCB.out.1;omega
    ·have:=HCB.out.2 i (by have:=HN1.out;omega);omega
    ·have:=HCB.out.2 i (by have:=HN1.out;omega);omega
   have nb5:¬Xav bc N1 (J8 (Xr fs c).cst) (J9 (Xr fs c).cst) (Q c).kb (Q c).ki b:=fun hx=>by
    have:=hm5 b hx
    omega
   have HT5:=Xa (HT4.out.trans (TurnH.only ho5 hb4 nb5 (fun x hx=>(HP.out x).2 (by have:=hm5 x hx;omega))))
   have HR5:=Xa (HR4.out.same (ho5.2 b hb4 nb5))
   have HB5:=Xa (HB4.out.trans (hb5.mono (show b≤bc by omega)))
   have e4:=(ho5.cell hb4 nb5).trans d4
   have e5:=(ho5.cell hb4 nb5).trans d5
   have z5:=ho5.1
   have H45:Hid (WRow w5 bk N2):=H4.out.same (ho5.2 _ (by omega) (fun hx=>by have:=hm5 _ hx;omega))
   have H55:Hid (WRow w5 bi N3):=H5.out.same (ho5.2 _ (by omega) (fun hx=>by have:=hm5 _ hx;omega))
   have hb5l:b<w5.heap.size:=by omega
   clear hk5 ho5 hb5 hm5 nb5 d3 d4 d5
   go_wp2_with fail
   refine (Xcr bk bk N2 N2 (o+3+W0) (some ⟨bk,0,none⟩) _ (fun _=>⟨rfl,Nat.le_refl _,by omega,H45.out⟩) (by omega) (by omega) (by omega) (by omega)).mono ?_
   rintro e w6 ⟨rfl,hk6,hw6,ho6,hb6⟩
   have nb6:¬(0<N2∧b=bk):=fun ⟨h1,h2⟩=>by omega
   have HT6:=Xa (HT5.out.trans (TurnH.only ho6 hb5l nb6 (fun x hx=>(HP.out x).2 (by omega))))
   have HR6:=Xa (HR5.out.same (ho6.2 b hb5l nb6))
   have HB6:=Xa (HB5.out.trans (hb6.mono (show b≤bk by omega)))
   have f5:=(ho6.cell hb5l nb6).trans e5
   have z6:=ho6.1
   have H56:Hid (WRow w6 bi N3):=H55.out.same (ho6.2 _ (by omega) (fun hx=>by omega))
   have hb6l:b<w6.heap.size:=by omega
   clear hk6 hw6 ho6 hb6 nb6 e4 e5
   go_wp2_with fail
   refine (Xdc bi bi N3 N3 (o+3+W0+N2) (some ⟨bi,0,none⟩) _ (fun _=>⟨rfl,Nat.le_refl _,by omega,H56.out⟩) (by omega) (by omega) (by omega)).mono ?_
   rintro e w7 ⟨rfl,hk7,hw7,ho7,hb7⟩
   have nb7:¬(0<N3∧b=bi):=fun ⟨h1,h2⟩=>by omega
   have HT7:=Xa (HT6.out.trans (TurnH.only ho7 hb6l nb7 (fun x hx=>(HP.out x).2 (by omega))))
   have HR7:=Xa (HR6.out.same (ho7.2 b hb6l nb7))
   have HB7:=Xa (HB6.out.trans (hb7.mono (show b≤bi by omega)))
   have z7:=ho7.1
   have HM7:Hid (MkyH w w7 b n fs L Q (c+1)):=by
    have t:=HT7.out
    rw[HPE.out] at t
    exact HM.out.next (by omega) hL1 t HR7.out
   have HO7:Hid (o+3+W0+N2+N3=k+Jl fs (c+1)):=by
    have h1:=HOO.out
    have h2:=HWC.out
    rw[Hid];omega
   clear hk7 hw7 ho7 hb7 nb7 f5
   go_wp2_with fail
   go_roundw
   case rel=>exact ⟨c+1,o+3+W0+N2+N3,by omega,by first|rfl|go_num|simp|(simp;omega),by go_num,HO7,HM7,by omega,HB7.out⟩
   case measure=>simp[intOf];omega
  ·obtain rfl:c=n:=by omega
   have HE:o=k+T:=by rw[HOO.out,HT.out,HN.out]
   go_wp2_with fail
   go_ret
   refine ⟨?_,HBL.out,by have:=HM.out.rest;exact this⟩
   first|(rw[HE];done)|(simp only[HE];done)|(simp;omega)|omega|go_num
end Go.Proofs.YtdjddneidbddpaaGreatDoor
