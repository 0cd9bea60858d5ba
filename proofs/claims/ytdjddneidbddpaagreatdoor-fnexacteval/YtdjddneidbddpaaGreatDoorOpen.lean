import Derived.Test.YtdjddneidbddpaaGreatDoorByP
import Derived.Test.YtdjddneidbddpaaGreatDoorProg
import Derived.Deep.Slices
import Derived.Deep.Strs
import Derived.KernelRfl
import Derived.OpenShut
namespace Go.Proofs.YtdjddneidbddpaaGreatDoor
set_option maxRecDepth 100000
open Go.RowKit Go.Deep Go.ChangeShapes Go.WideShapes
set_option linter.unusedSimpArgs false
set_option linter.unusedVariables false
set_option linter.unusedSectionVars false
theorem Xck {n:Int} (h:(Lit.int .i64 n).wf=true): -9223372036854775808<=n/\n<=9223372036854775807:=by
 simp[Lit.wf,IntKind.min,IntKind.max,IntKind.signed,IntKind.bits] at h
 omega
theorem Xkd:Tryz.prog.cellsOf 2=1:=by kernel_rfl
theorem Xke:Tryz.prog.cellsOf 9=1:=by kernel_rfl
theorem Xpl:Tryz.prog.cellsOf 72=1:=by kernel_rfl
theorem Xpm:Tryz.prog.cellsOf 73=1:=by kernel_rfl
theorem Xyp:Tryz.prog.cellsOf 82=5:=by kernel_rfl
theorem Xgc {w:World} {b o:Nat} {v:Value} (h:w.cell? ⟨b,o,none⟩=some v):b<w.heap.size:=by
 unfold World.cell? at h
 cases hb:w.heap[b]? with
 |none=>simp[hb] at h
 |some x=>exact (Array.getElem?_eq_some_iff.1 hb).1
section
variable {H:Type} {enc:TypeId×Value->H} {W:World} {base:Nat} {spare:Nat->Bool} {held:Bool}
theorem Xpn {fuel:Nat} {v:Value} {x:DataW H×List MemPlace} (h:DataW.trod enc Tryz.prog W base spare held fuel 73 [v]=some x):∃l,RawInts W.heap.size W v l:=by
 rcases open_ints Tryz.underlying73 Tryz.underlying2 Xkd h with ⟨hcs,_⟩|⟨a,len,cap,zs,hcs,_,hl,hm,hz,_,hcell,hwz⟩
 ·refine ⟨[],by simp,fun i hi=>absurd hi (by simp),none,0,by simpa using hcs,fun hl=>absurd hl (by simp)⟩
 ·have q:len<=zs.length:=by rw[hz];split<;>omega
  have j:(zs.take len).length=len:=by rw[List.length_take];omega
  have d:∀i,i<len->Xj (zs.take len) i=zs.getD i 0:=fun i hi=>by simp[Xj,hi]
  have s:len<=9223372036854775807:=by unfold maxLen at hm;omega
  refine ⟨zs.take len,by omega,fun i hi=> ?_,some a,cap,by rw[j];simpa using hcs,fun hl0=> ?_⟩
  ·rw[d i (by omega)]
   refine Xck (hwz _ ?_)
   rw[List.getD_eq_getElem?_getD,List.getElem?_eq_getElem (by omega)]
   exact List.getElem_mem _
  ·obtain ⟨b,o,f⟩:=a
   have p:=hcell 0 (by omega)
   have c:f=none:=by simpa [Addr.add] using World.cell?_spot p
   subst c
   have g:∀i,i<len->W.cell? ⟨b,o+i,none⟩=some (.int .i64 (zs.getD i 0)):=fun i hi=>by
    have:=hcell i (by omega)
    by_cases e:i=0
    ·subst e;simpa [Addr.add] using this
    ·simpa [Addr.add,e] using this
   refine ⟨b,o,rfl,Xgc (g 0 (by omega)),fun i hi=> ?_⟩
   rw[d i (by omega)]
   exact g i (by omega)
theorem Xpo {fuel:Nat} {v:Value} {x:DataW H×List MemPlace} (h:DataW.trod enc Tryz.prog W base spare held fuel 72 [v]=some x):∃l,RawStrs W.heap.size W v l:=by
 rcases open_strs Tryz.underlying72 Tryz.underlying9 Xke h with ⟨hcs,_⟩|⟨a,len,cap,m,Sx,hcs,_,hl,hm,hmm,_,hcell⟩
 ·refine ⟨[],by simp,fun i hi=>absurd hi (by simp),none,0,by simpa using hcs,fun hl=>absurd hl (by simp)⟩
 ·have q:len<=m:=by rw[hmm];split<;>omega
  have j:((List.range len).map Sx).length=len:=by simp
  have d:∀i,i<len->Xf ((List.range len).map Sx) i=Sx i:=fun i hi=>by simp[Xf,hi]
  have s:len<=9223372036854775807:=by unfold maxLen at hm;omega
  refine ⟨(List.range len).map Sx,by omega,fun i hi=> ?_,some a,cap,by rw[j];simpa using hcs,fun hl0=> ?_⟩
  ·rw[d i (by omega)]
   have:=(hcell i (by omega)).2
   unfold maxLen at this
   omega
  ·obtain ⟨b,o,f⟩:=a
   have p:=(hcell 0 (by omega)).1
   have c:f=none:=by simpa [Addr.add] using World.cell?_spot p
   subst c
   have g:∀i,i<len->W.cell? ⟨b,o+i,none⟩=some (.string (Sx i)):=fun i hi=>by
    have:=(hcell i (by omega)).1
    by_cases e:i=0
    ·subst e;simpa [Addr.add] using this
    ·simpa [Addr.add,e] using this
   refine ⟨b,o,rfl,Xgc (g 0 (by omega)),fun i hi=> ?_⟩
   rw[d i (by omega)]
   exact g i (by omega)
theorem X1v {fuel:Nat} {cs:List Value} {x:DataW H×List MemPlace} (h:DataW.trod enc Tryz.prog W base spare held fuel 82 cs=some x):
  ∃(y:VN) (ka ki:Value),cs= [.int .i64 y.kind, .int .i64 y.n, .string y.s,ka,ki]/\RawIn W.heap.size W y ka ki:=by
 obtain ⟨C,n,_,_,d,b,c⟩:=DataW.trod_struct Tryz.underlying82 h
 rw[Xyp] at d
 match cs,d with
 |[v0, v1, v2, v3, v4], _ =>
  have f:=c 0 _ rfl
  have g:=c 1 _ rfl
  have j:=c 2 _ rfl
  have l:=c 3 _ rfl
  have o:=c 4 _ rfl
  match C,b with
  |[y0,y1,y2,y3,y4],_=>
   simp[Xkd,Xke,Xpl,Xpm] at f g j l o
   obtain ⟨k,p,_,q⟩:=DataW.trod_int Tryz.underlying2 f
   obtain ⟨D,t,_,z⟩:=DataW.trod_int Tryz.underlying2 g
   obtain ⟨s,B,_,F⟩:=DataW.trod_string Tryz.underlying9 j
   obtain ⟨G,J⟩:=Xpo l
   obtain ⟨is,L⟩:=Xpn o
   simp only[List.cons.injEq,and_true] at p t B
   subst p t B
   unfold maxLen at F
   exact ⟨⟨k,D,s,G,is⟩,v3,v4,rfl,J,L,by simp only;omega,(Xck q).1,(Xck q).2,(Xck z).1,(Xck z).2⟩
theorem Xlj {fuel:Nat} {v:Value} {x:DataW H×List MemPlace} (h:DataW.trod enc Tryz.prog W base spare held fuel 34 [v]=some x):∃vs,RawNodes W.heap.size W v vs:=by
 rcases open_slice Tryz.underlying34 h with ⟨hcs,_⟩|⟨a,len,cap,m,n,D,Pl,hcs,_,hl,hm,hmm,_,hx⟩
 ·refine ⟨[],by simp,none,0,by simpa using hcs,fun hl=>absurd hl (by simp)⟩
 ·have B:len<=m:=by rw[hmm];split<;>omega
  have C:len<=9223372036854775807:=by unfold maxLen at hm;omega
  rw[Xyp] at hx
  obtain ⟨f,g⟩:= @choose_lt (VN×Value×Value) ⟨(VN.zero,undef,undef)⟩ m (fun i q=>RawIn W.heap.size W q.1 q.2.1 q.2.2/\∀j,j<5->W.cell? ((a.add (i *5)).add j)= [Value.int .i64 q.1.kind, .int .i64 q.1.n, .string q.1.s,q.2.1,q.2.2][j]?) (fun i hi=>by
   obtain ⟨F,G,J⟩:=hx i hi
   obtain ⟨y,L,M,e,P⟩:=X1v J
   subst e
   exact ⟨(y,L,M),P,(World.cells?_some G).2.2⟩)
  have t:∀i,i<len->Xb ((List.range len).map fun i=>(f i).1) i=(f i).1:=fun i hi=>by simp[Xb,hi]
  refine ⟨(List.range len).map fun i=>(f i).1,by simp;omega,some a,cap,by simpa using hcs,fun hl0=> ?_⟩
  simp only[List.length_map,List.length_range] at hl0
  obtain ⟨b,o,d⟩:=a
  have l:d=none:=by
   have R:=(g 0 (by omega)).2 0 (by omega)
   have z:W.cell? ⟨b,o,d⟩=some (.int .i64 (f 0).1.kind):=by simpa [Addr.add] using R
   exact World.cell?_spot z
  subst l
  have p:∀i j,(Addr.add (Addr.add ⟨b,o,none⟩ (i *5)) j)=⟨b,o+i *5+j,none⟩:=fun i j=>by
   rw[add_add]
   by_cases e:i *5+j=0
   ·unfold Addr.add
    rw[if_pos e]
    congr 1
    omega
   ·unfold Addr.add
    rw[if_neg e]
    congr 1
    show o+(i *5+j)=o+i *5+j
    omega
  have c:∀i,i<len->∀j,j<5->W.cell? ⟨b,o+i *5+j,none⟩= [Value.int .i64 (f i).1.kind, .int .i64 (f i).1.n, .string (f i).1.s,(f i).2.1,(f i).2.2][j]? :=fun i hi j hj=>by
   rw[<-p];exact (g i (by omega)).2 j hj
  refine ⟨b,o,rfl,Xgc (b:=b) (o:=o+0 *5+0) (c 0 (by omega) 0 (by omega)),fun i hi=> ?_⟩
  simp only[List.length_map,List.length_range] at hi
  rw[t i hi]
  exact ⟨(f i).2.1,(f i).2.2,c i hi 0 (by omega),c i hi 1 (by omega),c i hi 2 (by omega),c i hi 3 (by omega),c i hi 4 (by omega),(g i (by omega)).1⟩
end
end Go.Proofs.YtdjddneidbddpaaGreatDoor
