import Derived.Test.YtehihemfepbmfaaGreatDoorDrQ
import Derived.Test.YtehihemfepbmfaaGreatDoorFtI
import Derived.Test.YtehihemfepbmfaaGreatDoorDrOp
import Derived.Laws.OwnMore
import Derived.Test.YtehihemfepbmfaaGreatDoorDrH
import Derived.Test.YtehihemfepbmfaaGreatDoorSamf
import Derived.Test.YtehihemfepbmfaaGreatDoorFSpc3
import Derived.Test.YtehihemfepbmfaaGreatDoorIFv
import Derived.Test.YtehihemfepbmfaaGreatDoorSFt
namespace Go.Proofs.YtehihemfepbmfaaGreatDoor
set_option linter.unusedSectionVars false
set_option maxHeartbeats 6400000
open Go.RowKit
set_option linter.unusedSimpArgs false
set_option linter.unusedVariables false
theorem Xt6:∃fs,Jg [46]=some fs:=by
 have h:Yz [⟨1,⟨#[]⟩,0,[],[],[]⟩]= [46]:=by kernel_rfl
 have:=Xho (fs:= [⟨1,⟨#[]⟩,0,[],[],[]⟩]) (by kernel_rfl) (by rw[h];decide)
 rw[h] at this
 exact ⟨_,this⟩
def Xzw (rb:Nat) (w':World) (e:Ending):Prop:=∃a N c fs base,e= .returned (.slice a N c)∧rb<base∧fs.length=N∧FRow base (fun _=>False) w' (.slice a N c) fs∧Y0 fs∧okF fs=true
set_option maxRecDepth 100000 in
theorem Xle {rb n:Nat} (w:World) (h:∃p,RdAt w rb n p):Calls Tryz.prog 55 #[.pointer (some ⟨rb,0,none⟩)] w fun e w'=>Xzw rb w' e∧Drawn rb n w w':=by
 have H:=Xb h
 clear h
 go_enter Tryz.func55,Tryz.ntmps55
 go_wp2_with fail
 refine (Xnu w H.out).mono ?_
 rintro e w1 ⟨⟨T,hT,rfl⟩,hd⟩
 have HD1:=Xb hd
 have HL1:Hid (rb<w1.heap.size):=by
  obtain ⟨p,hp⟩:=hd.rd
  exact hp.lt
 clear hd
 go_wp2_with fail
 refine (Wu (w:=w1) (s:=T) (by omega)).mono ?_
 rintro e w2 ⟨hb,⟨v,fs,hf,rfl,hr,ha⟩|⟨hf,rfl⟩⟩
 ·have HOK:=Xb (Xmg hf)
  have HA:=Xb ha
  have HD2:=Xb (HD1.out.next hb)
  obtain ⟨a,c,e⟩:=hr.slice
  obtain ⟨N,hN⟩:∃N,fs.length=N:=⟨_,rfl⟩
  rw[hN] at e
  subst e
  have HR:=Xb hr
  have HN:=Xb hN
  clear hr hf ha hb hN
  go_wp2_with fail
  go_ret
  exact ⟨⟨_,_,_,fs,w1.heap.size,rfl,HL1.out,HN.out,HR.out,HA.out,HOK.out⟩,HD2.out⟩
 ·have HD2:=Xb (HD1.out.next hb)
  have z2:=hb.size
  clear hb hf
  go_wp2_with fail
  refine (Wu (w:=w2) (s:=⟨#[46]⟩) (by decide)).mono ?_
  rintro e w3 ⟨hb,⟨v,fs,hf,rfl,hr,ha⟩|⟨hf,rfl⟩⟩
  ·have HOK:=Xb (Xmg hf)
   have HA:=Xb ha
   have HD3:=Xb (HD2.out.next hb)
   obtain ⟨a,c,e⟩:=hr.slice
   obtain ⟨N,hN⟩:∃N,fs.length=N:=⟨_,rfl⟩
   rw[hN] at e
   subst e
   have HR:=Xb hr
   have HN:=Xb hN
   clear hr hf ha hb hN
   go_wp2_with fail
   go_ret
   exact ⟨⟨_,_,_,fs,w2.heap.size,rfl,Nat.lt_of_lt_of_le HL1.out z2,HN.out,HR.out,HA.out,HOK.out⟩,HD3.out⟩
  ·exfalso
   obtain ⟨fs,h1⟩:=Xt6
   have h2:Jg [46]=none:=hf
   rw[h2] at h1
   cases h1

theorem FNest.turned {base N c g:Nat} {w w':World} {fs gs:List FN} {C NN I:Nat→Value} (h:FNest base w (.slice (some ⟨g,0,none⟩) N c) fs C NN I) (hN:fs.length=N) (hn:N≤1048576) (hp:0<N) (hf:Y0 fs) (hl:gs.length=N)
  (hz:w.heap.size≤w'.heap.size) (hk:∀x,x<w.heap.size→x≠g→w'.heap[x]? =w.heap[x]?)
  (hc:∀i,i<N→w'.cell? ⟨g,i *6,none⟩=some (.int .i64 (Xi gs i).kind)∧w'.cell? ⟨g,i *6+1,none⟩=some (.string (Xi gs i).name)∧w'.cell? ⟨g,i *6+2,none⟩=some (.int .i64 (Xi gs i).place)∧w'.cell? ⟨g,i *6+3,none⟩=w.cell? ⟨g,i *6+3,none⟩∧w'.cell? ⟨g,i *6+4,none⟩=w.cell? ⟨g,i *6+4,none⟩∧w'.cell? ⟨g,i *6+5,none⟩=w.cell? ⟨g,i *6+5,none⟩)
  (hg:∀i,i<N→(Xi gs i).cst=(Xi fs i).cst∧(Xi gs i).names=(Xi fs i).names∧(Xi gs i).kids=(Xi fs i).kids∧(Xi gs i).name.size≤140737488355328∧-9223372036854775808≤(Xi gs i).kind∧(Xi gs i).kind≤9223372036854775807∧-9223372036854775808≤(Xi gs i).place∧(Xi gs i).place≤9223372036854775807):
  FNodesAt w'.heap.size w' (.slice (some ⟨g,0,none⟩) N c) gs:=by
 subst hN
 have fit:∀i,i<fs.length→FitF (Xi fs i):=fun i hi=>hf _ (by unfold Xi;rw[List.getD_eq_getElem?_getD,List.getElem?_eq_getElem hi];exact List.getElem_mem hi)
 have hgl:=h.row.lt g rfl
 refine ⟨by omega,_,c,by rw[hl],fun _=>⟨g,0,rfl,by omega,fun i hi=>⟨C i,NN i,I i, ?_⟩⟩⟩
 rw[hl] at hi
 obtain ⟨c0,c1,c2,c3,c4,c5⟩:=hc i hi
 obtain ⟨g1,g2,g3,g4,g5,g6,g7,g8⟩:=hg i hi
 have f:=fit i hi
 have q:∀k,k<6→(i *6+k)%6=k∧(i *6+k)/6=i:=fun k hk=>by omega
 have kc:∀x,(C i).ownBlock=some x→w'.heap[x]? =w.heap[x]? :=fun x hx=>by
  refine hk x ((h.rc i hi).row.lt x hx).2 fun e=> ?_
  rcases J4 (h.rc i hi).row h.row (by decide) with h1|h1
  ·rw[h1] at hx;cases hx
  ·exact h1 (by rw[hx,e];rfl)
 have kn:∀x,(NN i).ownBlock=some x→w'.heap[x]? =w.heap[x]? :=fun x hx=>by
  refine hk x ((h.rn i hi).lt x hx).2 fun e=> ?_
  rcases J4 (h.rn i hi) h.row (by decide) with h1|h1
  ·rw[h1] at hx;cases hx
  ·exact h1 (by rw[hx,e];rfl)
 have ki:∀x,(I i).ownBlock=some x→w'.heap[x]? =w.heap[x]? :=fun x hx=>by
  refine hk x ((h.ri i hi).lt x hx).2 fun e=> ?_
  rcases J4 (h.ri i hi) h.row (by decide) with h1|h1
  ·rw[h1] at hx;cases hx
  ·exact h1 (by rw[hx,e];rfl)
 have hcst:NodesAt w'.heap.size w' (C i) (Xi fs i).cst:=(Xdp (h.rc i hi) kc).nodes (by have:=f.cst.1;omega) (fun j hj=>by
  have hm:Xc (Xi fs i).cst j∈(Xi fs i).cst:=by unfold Xc;rw[List.getD_eq_getElem?_getD,List.getElem?_eq_getElem hj];exact List.getElem_mem hj
  obtain ⟨a1,a2,a3,a4,a5,a6,a7⟩:=f.cst.2 _ hm
  exact ⟨by rw[a1];simp,fun x hx=>by rw[a1] at hx;simp at hx,by rw[a2];simp,fun x hx=>by rw[a2] at hx;simp at hx,by omega,by omega,by omega,a6,a7⟩)
 have hstr:StrsAt w'.heap.size w' (NN i) (Xi fs i).names:=Xeq (J0 (h.rn i hi) kn) (by have:=f.names.1;omega) (fun j hj=>by
  have hm:Xt (Xi fs i).names j∈(Xi fs i).names:=by unfold Xt;rw[List.getD_eq_getElem?_getD,List.getElem?_eq_getElem hj];exact List.getElem_mem hj
  have:=f.names.2 _ hm;omega)
 have hint:IntsAt w'.heap.size w' (I i) (Xi fs i).kids:=Xer (J0 (h.ri i hi) ki) (by have:=f.kids.1;omega) (fun j hj=>by
  have hm:Xk (Xi fs i).kids j∈(Xi fs i).kids:=by unfold Xk;rw[List.getD_eq_getElem?_getD,List.getElem?_eq_getElem hj];exact List.getElem_mem hj
  have:=f.kids.2 _ hm;omega)
 rw[←g1] at hcst
 rw[←g2] at hstr
 rw[←g3] at hint
 rw[Nat.zero_add]
 refine ⟨c0,c1,c2,c3.trans ?_,c4.trans ?_,c5.trans ?_,⟨hcst,hstr,hint,g4,g5,g6,g7,g8⟩⟩
 ·rw[h.row.cellAt _ (by omega),Qm _ _ _ _ (by omega),Zs,(q 3 (by omega)).1,(q 3 (by omega)).2];rfl
 ·rw[h.row.cellAt _ (by omega),Qm _ _ _ _ (by omega),Zs,(q 4 (by omega)).1,(q 4 (by omega)).2];rfl
 ·rw[h.row.cellAt _ (by omega),Qm _ _ _ _ (by omega),Zs,(q 5 (by omega)).1,(q 5 (by omega)).2];rfl
theorem FNest.cells3 {base N c g:Nat} {w:World} {fs:List FN} {C NN I:Nat→Value} (h:FNest base w (.slice (some ⟨g,0,none⟩) N c) fs C NN I) (hN:fs.length=N) {i:Nat} (hi:i<N):
  w.cell? ⟨g,i *6,none⟩=some (.int .i64 (Xi fs i).kind)∧w.cell? ⟨g,i *6+1,none⟩=some (.string (Xi fs i).name)∧w.cell? ⟨g,i *6+2,none⟩=some (.int .i64 (Xi fs i).place):=by
 subst hN
 have q:∀k,k<6→(i *6+k)%6=k∧(i *6+k)/6=i:=fun k hk=>by omega
 have q0:=q 0 (by omega)
 rw[Nat.add_zero] at q0
 refine ⟨?_, ?_, ?_⟩
 ·rw[h.row.cellAt _ (by omega),Qm _ _ _ _ (by omega),Zs,q0.1,q0.2];rfl
 ·rw[h.row.cellAt _ (by omega),Qm _ _ _ _ (by omega),Zs,(q 1 (by omega)).1,(q 1 (by omega)).2];rfl
 ·rw[h.row.cellAt _ (by omega),Qm _ _ _ _ (by omega),Zs,(q 2 (by omega)).1,(q 2 (by omega)).2];rfl
def Xfw (w':World) (e:Ending):Prop:=∃v fs,e= .returned v∧FNodesAt w'.heap.size w' v fs∧1≤fs.length∧fs.length≤40
theorem FNest.turn1 {base N c g i k:Nat} {w:World} {u:Value} {fs gs:List FN} {C NN I:Nat→Value} (h:FNest base w (.slice (some ⟨g,0,none⟩) N c) fs C NN I) (hN:fs.length=N) (hn:N≤1048576) (hi:i<N) (hf:Y0 fs) (hl:gs.length=N) (hk3:k<3)
  (hu:u=Zs gs C NN I (i *6+k)) (hs:∀j m,j<N→m<3→(j≠i∨m≠k)→Zs gs C NN I (j *6+m)=Zs fs C NN I (j *6+m))
  (hg:∀i,i<N→(Xi gs i).cst=(Xi fs i).cst∧(Xi gs i).names=(Xi fs i).names∧(Xi gs i).kids=(Xi fs i).kids∧(Xi gs i).name.size≤140737488355328∧-9223372036854775808≤(Xi gs i).kind∧(Xi gs i).kind≤9223372036854775807∧-9223372036854775808≤(Xi gs i).place∧(Xi gs i).place≤9223372036854775807):
  FNodesAt (w.setCell ⟨g,i *6+k,none⟩ u).heap.size (w.setCell ⟨g,i *6+k,none⟩ u) (.slice (some ⟨g,0,none⟩) N c) gs:=by
 subst hN
 have cell:∀j m,j<fs.length→m<6→w.cell? ⟨g,j *6+m,none⟩=some (Zs fs C NN I (j *6+m)):=fun j m hj hm=>by
  rw[h.row.cellAt _ (by omega),Qm _ _ _ _ (by omega)]
 have other:∀j m,j<fs.length→m<6→(j≠i∨m≠k)→(w.setCell ⟨g,i *6+k,none⟩ u).cell? ⟨g,j *6+m,none⟩=w.cell? ⟨g,j *6+m,none⟩:=fun j m hj hm hne=>
  World.cell?_setCell_other _ _ _ _ (fun e=>by
   have:i *6+k=j *6+m:=congrArg Addr.off e
   omega)
 have here:(w.setCell ⟨g,i *6+k,none⟩ u).cell? ⟨g,i *6+k,none⟩=some u:=World.cell?_setCell_same _ _ _ (cell i k hi (by omega))
 have three:∀j m,j<fs.length→m<3→(w.setCell ⟨g,i *6+k,none⟩ u).cell? ⟨g,j *6+m,none⟩=some (Zs gs C NN I (j *6+m)):=fun j m hj hm=>by
  by_cases e:j=i∧m=k
  ·obtain ⟨rfl,rfl⟩:=e
   rw[here,hu]
  ·have hne:j≠i∨m≠k:=by omega
   rw[other j m hj (by omega) hne,cell j m hj (by omega),hs j m hj hm hne]
 have z:(w.setCell ⟨g,i *6+k,none⟩ u).heap.size=w.heap.size:=by simp
 refine h.turned rfl hn (by omega) hf hl (by omega) (fun x _ hx=>heap_setCell_other _ _ _ _ hx) (fun j hj=> ?_) hg
 have q:∀k,k<6→(j *6+k)%6=k∧(j *6+k)/6=j:=fun k hk=>by omega
 have t0:=three j 0 hj (by omega)
 have t1:=three j 1 hj (by omega)
 have t2:=three j 2 hj (by omega)
 rw[Zs,(q 0 (by omega)).1,(q 0 (by omega)).2] at t0
 rw[Zs,(q 1 (by omega)).1,(q 1 (by omega)).2] at t1
 rw[Zs,(q 2 (by omega)).1,(q 2 (by omega)).2] at t2
 exact ⟨t0,t1,t2,other j 3 hj (by omega) (by omega),other j 4 hj (by omega) (by omega),other j 5 hj (by omega) (by omega)⟩
def Xaz (fs:List FN) (i:Nat) (x:FN):List FN:=fs.set i x
theorem Vf {fs:List FN} {i j:Nat} {x:FN} (hi:i<fs.length):Xi (Xaz fs i x) j=if j=i then x else Xi fs j:=by
 unfold Xi Xaz
 rw[List.getD_eq_getElem?_getD,List.getElem?_set]
 by_cases e:j=i
 ·subst e;simp[hi]
 ·rw[if_neg (fun h=>e h.symm),if_neg e,List.getD_eq_getElem?_getD]
theorem Xun {fs:List FN} (hf:Y0 fs) {i:Nat} (hi:i<fs.length):(Xi fs i).name.size≤140737488355328∧-9223372036854775808≤(Xi fs i).kind∧(Xi fs i).kind≤9223372036854775807∧-9223372036854775808≤(Xi fs i).place∧(Xi fs i).place≤9223372036854775807:=by
 have f:FitF (Xi fs i):=hf _ (by unfold Xi;rw[List.getD_eq_getElem?_getD,List.getElem?_eq_getElem hi];exact List.getElem_mem hi)
 exact ⟨by have:=f.name;omega,by have:=f.kind;omega,by have:=f.kind;omega,f.place.1,f.place.2⟩
theorem FNest.putKind {base N c g i:Nat} {w:World} {x:Int} {fs:List FN} {C NN I:Nat→Value} (h:FNest base w (.slice (some ⟨g,0,none⟩) N c) fs C NN I) (hN:fs.length=N) (hn:N≤1048576) (hi:i<N) (hf:Y0 fs) (h1: -9223372036854775808≤x) (h2:x≤9223372036854775807):
  ∃gs,gs.length=N∧FNodesAt (w.setCell ⟨g,i *6,none⟩ (.int .i64 x)).heap.size (w.setCell ⟨g,i *6,none⟩ (.int .i64 x)) (.slice (some ⟨g,0,none⟩) N c) gs:=by
 have hi':i<fs.length:=by omega
 refine ⟨Xaz fs i {Xi fs i with kind:=x},by simp[Xaz,hN], ?_⟩
 refine h.turn1 (k:=0) hN hn hi hf (by simp[Xaz,hN]) (by omega) (by simp[Zs,Vf hi',show i *6%6=0 by omega,show i *6/6=i by omega]) (fun j m hj hm hne=> ?_) (fun j hj=> ?_)
 ·have e1:(j *6+m)/6=j:=by omega
  have e2:(j *6+m)%6=m:=by omega
  rw[Zs,Zs,e1,e2,Vf hi']
  by_cases e:j=i
  ·subst e
   rw[if_pos rfl]
   have:m=1∨m=2:=by omega
   rcases this with rfl|rfl<;>rfl
  ·rw[if_neg e]
 ·rw[Vf hi']
  have f:=Xun hf (i:=j) (by omega)
  by_cases e:j=i
  ·subst e;rw[if_pos rfl];exact ⟨rfl,rfl,rfl,f.1,h1,h2,f.2.2.2⟩
  ·rw[if_neg e];exact ⟨rfl,rfl,rfl,f⟩
theorem FNest.putPlace {base N c g i:Nat} {w:World} {x:Int} {fs:List FN} {C NN I:Nat→Value} (h:FNest base w (.slice (some ⟨g,0,none⟩) N c) fs C NN I) (hN:fs.length=N) (hn:N≤1048576) (hi:i<N) (hf:Y0 fs) (h1: -9223372036854775808≤x) (h2:x≤9223372036854775807):
  ∃gs,gs.length=N∧FNodesAt (w.setCell ⟨g,i *6+2,none⟩ (.int .i64 x)).heap.size (w.setCell ⟨g,i *6+2,none⟩ (.int .i64 x)) (.slice (some ⟨g,0,none⟩) N c) gs:=by
 have hi':i<fs.length:=by omega
 refine ⟨Xaz fs i {Xi fs i with place:=x},by simp[Xaz,hN], ?_⟩
 refine h.turn1 (k:=2) hN hn hi hf (by simp[Xaz,hN]) (by omega) (by simp[Zs,Vf hi',show (i *6+2)%6=2 by omega,show (i *6+2)/6=i by omega]) (fun j m hj hm hne=> ?_) (fun j hj=> ?_)
 ·have e1:(j *6+m)/6=j:=by omega
  have e2:(j *6+m)%6=m:=by omega
  rw[Zs,Zs,e1,e2,Vf hi']
  by_cases e:j=i
  ·subst e
   rw[if_pos rfl]
   have:m=0∨m=1:=by omega
   rcases this with rfl|rfl<;>rfl
  ·rw[if_neg e]
 ·rw[Vf hi']
  have f:=Xun hf (i:=j) (by omega)
  by_cases e:j=i
  ·subst e;rw[if_pos rfl];exact ⟨rfl,rfl,rfl,f.1,f.2.1,f.2.2.1,h1,h2⟩
  ·rw[if_neg e];exact ⟨rfl,rfl,rfl,f⟩
theorem FNest.putName {base N c g i:Nat} {w:World} {x:ByteArray} {fs:List FN} {C NN I:Nat→Value} (h:FNest base w (.slice (some ⟨g,0,none⟩) N c) fs C NN I) (hN:fs.length=N) (hn:N≤1048576) (hi:i<N) (hf:Y0 fs) (h1:x.size≤100):
  ∃gs,gs.length=N∧FNodesAt (w.setCell ⟨g,i *6+1,none⟩ (.string x)).heap.size (w.setCell ⟨g,i *6+1,none⟩ (.string x)) (.slice (some ⟨g,0,none⟩) N c) gs:=by
 have hi':i<fs.length:=by omega
 refine ⟨Xaz fs i {Xi fs i with name:=x},by simp[Xaz,hN], ?_⟩
 refine h.turn1 (k:=1) hN hn hi hf (by simp[Xaz,hN]) (by omega) (by simp[Zs,Vf hi',show (i *6+1)%6=1 by omega,show (i *6+1)/6=i by omega]) (fun j m hj hm hne=> ?_) (fun j hj=> ?_)
 ·have e1:(j *6+m)/6=j:=by omega
  have e2:(j *6+m)%6=m:=by omega
  rw[Zs,Zs,e1,e2,Vf hi']
  by_cases e:j=i
  ·subst e
   rw[if_pos rfl]
   have:m=0∨m=2:=by omega
   rcases this with rfl|rfl<;>rfl
  ·rw[if_neg e]
 ·rw[Vf hi']
  have f:=Xun hf (i:=j) (by omega)
  by_cases e:j=i
  ·subst e;rw[if_pos rfl];exact ⟨rfl,rfl,rfl,Nat.le_trans h1 (by omega),f.2⟩
  ·rw[if_neg e];exact ⟨rfl,rfl,rfl,f⟩

theorem Xwe {fs:List FN} (h:okF fs=true):1≤fs.length∧fs.length≤40:=by
 unfold okF V1 at h
 simp only[Bool.and_eq_true,decide_eq_true_eq] at h
 exact h.1.1
theorem FNest.frz {base N c g:Nat} {w:World} {fs:List FN} {C NN I:Nat→Value} (h:FNest base w (.slice (some ⟨g,0,none⟩) N c) fs C NN I) (hN:fs.length=N) (j:Nat):w.frozen? ⟨g,j,none⟩=false:=by
 subst hN
 exact h.row.frozenAt j
theorem FRow.drawn {base rb n:Nat} {w w':World} {v:Value} {fs:List FN} (h:FRow base (fun _=>False) w v fs) (hd:Drawn rb n w w') (hr:rb<base):FRow base (fun _=>False) w' v fs:=
 h.keep fun x h1 h2=>hd.only.2 x h2 (by show ¬x=rb;omega)
set_option maxRecDepth 100000 in
theorem Xed (B:Nat) (v:Value) (n:Nat) (w:World) (h:Xf0 B w v n) (hB:B≤w.heap.size):
  Calls Tryz.prog 22 #[v] w fun e w'=>Xfw w' e∧Below w.heap.size w w':=by
 have H:=Xb h
 obtain ⟨_,a,cap,rfl,_⟩:=h
 go_enter Tryz.func22,Tryz.ntmps22
 go_wp2_with fail
 refine (Xow B _ n w H.out hB).mono ?_
 rintro e w1 ⟨rfl,hr,hb⟩
 have HR:=Xb hr
 have HB:=Xb hb
 have z1:=hb.size
 clear hr hb
 go_wp2_with fail
 refine (Xle w1 ⟨0,HR.out⟩).mono ?_
 rintro e w2 ⟨⟨a2,N,c2,fs,base,rfl,hbase,hN,hrow,hall,hok⟩,hd⟩
 have HD2:=Xb hd
 have HROW:=Xb hrow
 have HALL:=Xb hall
 have HNN:=Xb hN
 have hlen:=Xwe hok
 rw[hN] at hlen
 have HE:Hid (∀w3,Drawn w.heap.size n w1 w3→FRow base (fun _=>False) w3 (.slice a2 N c2) fs→Xfw w3 (.returned (.slice a2 N c2))∧Below w.heap.size w w3):=fun w3 h3 h4=>
  ⟨⟨_,fs,rfl,(by obtain ⟨C,NN,I,q,_⟩:=h4;exact q.nodes (by have:=HNN.out;omega) HALL.out),by have:=HNN.out;omega,by have:=HNN.out;omega⟩,HB.out.trans h3.below⟩
 clear hd hrow hall hok hN
 go_wp2_with fail
 refine (Xfy w.heap.size n 6 w2 HD2.out.rd (by omega) (by omega)).mono ?_
 rintro e w3 ⟨⟨b,rfl⟩,hd⟩
 have HD3:=Xb (HD2.out.trans hd)
 have HROW3:=Xb (HROW.out.drawn hd hbase)
 clear hd HROW
 cases b
 ·go_wp2_with fail
  go_ret
  exact HE.out w3 HD3.out HROW3.out
 clear HE
 go_wp2_with fail
 refine (Zp w.heap.size n N w3 HD3.out.rd (by omega) (by omega)).mono ?_
 rintro e w4 ⟨⟨i,hi,rfl⟩,hd⟩
 have HD4:=Xb (HD3.out.trans hd)
 have HROW4:=Xb (HROW3.out.drawn hd hbase)
 clear hd HROW3 HD3
 go_wp2_with fail
 refine (Zp w.heap.size n 3 w4 HD4.out.rd (by omega) (by omega)).mono ?_
 rintro e w5 ⟨⟨x,hx,rfl⟩,hd⟩
 have HD5:=Xb (HD4.out.trans hd)
 have HROW5:=Xb (HROW4.out.drawn hd hbase)
 clear hd HROW4 HD4
 -- the row's own block
 obtain ⟨g,rfl,hg⟩:∃g,a2=some ⟨g,0,none⟩∧base≤g:=by
  obtain ⟨C,NN,I,h1,_⟩:=HROW5.out
  obtain ⟨g,cap,e,h2,_⟩:=h1.row.form (by have:=HNN.out;omega)
  cases e
  exact ⟨g,rfl,h2⟩
 have hi':(i:Int)<N:=by omega
 have HEND:Hid (∀w6 k u gs,Drawn w.heap.size n w1 w6→gs.length=N→FNodesAt (w6.setCell ⟨g,k,none⟩ u).heap.size (w6.setCell ⟨g,k,none⟩ u) (.slice (some ⟨g,0,none⟩) N c2) gs→Xfw (w6.setCell ⟨g,k,none⟩ u) (.returned (.slice (some ⟨g,0,none⟩) N c2))∧Below w.heap.size w (w6.setCell ⟨g,k,none⟩ u)):=fun w6 k u gs h1 h2 h3=>
  ⟨⟨_,gs,rfl,h3,by omega,by omega⟩,(HB.out.trans h1.below).setCell (by show w.heap.size≤g;omega) _⟩
 by_cases e0:x=0
 ·subst e0
  go_wp2_with fail
  refine (Xha w.heap.size n 1 23 w5 HD5.out.rd (by omega) (by omega) (by omega)).mono ?_
  rintro e w6 ⟨⟨y,y1,y2,rfl⟩,hd⟩
  have HD6:=Xb (HD5.out.trans hd)
  have HROW6:=Xb (HROW5.out.drawn hd hbase)
  clear hd HROW5 HD5
  obtain ⟨C,NN,I,h1,_⟩:=HROW6.out
  have d0:=(h1.cells3 HNN.out hi).1
  have f0:=h1.frz HNN.out (i *6)
  have HP:=Xb (h1.putKind (x:=y) HNN.out (by omega) hi HALL.out y1 y2)
  clear h1
  go_wp2_with fail
  go_ret
  obtain ⟨gs,g1,g2⟩:=HP.out
  exact HEND.out _ _ _ gs HD6.out g1 g2
 by_cases e1:x=1
 ·subst e1
  go_wp2_with fail
  refine (Xha w.heap.size n 0 1 w5 HD5.out.rd (by omega) (by omega) (by omega)).mono ?_
  rintro e w6 ⟨⟨y,y1,y2,rfl⟩,hd⟩
  have HD6:=Xb (HD5.out.trans hd)
  have HROW6:=Xb (HROW5.out.drawn hd hbase)
  clear hd HROW5 HD5
  obtain ⟨C,NN,I,h1,_⟩:=HROW6.out
  have d0:=(h1.cells3 HNN.out hi).2.2
  have f0:=h1.frz HNN.out (i *6+2)
  have HP:=Xb (h1.putPlace (x:=y) HNN.out (by omega) hi HALL.out y1 y2)
  clear h1
  go_wp2_with fail
  go_ret
  obtain ⟨gs,g1,g2⟩:=HP.out
  exact HEND.out _ _ _ gs HD6.out g1 g2
 ·obtain rfl:x=2:=by omega
  obtain ⟨C,NN,I,h1,_⟩:=HROW5.out
  have d0:=(h1.cells3 HNN.out hi).2.1
  have f0:=h1.frz HNN.out (i *6+1)
  have HP:=Xb (h1.putName (x:=⟨#[120]⟩) HNN.out (by omega) hi HALL.out (by decide))
  clear h1
  go_wp2_with fail
  go_ret
  obtain ⟨gs,g1,g2⟩:=HP.out
  exact HEND.out _ _ _ gs HD5.out g1 g2
theorem Xc2 (B:Nat) (v:Value) (n:Nat) (w:World) (h:Xf0 B w v n) (hB:B≤w.heap.size):
  Calls Tryz.prog 8 #[v] w fun e w'=>Xfw w' e∧Below w.heap.size w w':=by
 have H:=Xb h
 obtain ⟨_,a,cap,rfl,_⟩:=h
 go_enter Tryz.func8,Tryz.ntmps8
 go_wp2_with fail
 refine (Xed B _ n w H.out hB).mono ?_
 rintro e w1 ⟨⟨v,fs,rfl,hn,h1,h2⟩,hb⟩
 have HN:=Xb hn
 have HB:=Xb hb
 obtain ⟨_,a1,c1,e1,_⟩:=hn
 obtain ⟨N,hN⟩:∃N,fs.length=N:=⟨_,rfl⟩
 rw[hN] at e1
 subst e1
 have HNN:=Xb hN
 have HL:Hid (1≤fs.length∧fs.length≤40):=⟨h1,h2⟩
 clear hb hN h1 h2
 go_wp2_with fail
 go_ret
 exact ⟨⟨_,fs,rfl,HN.out,HL.out.1,HL.out.2⟩,HB.out⟩

set_option maxRecDepth 100000 in
theorem Xbv (v:Value) (n:Nat) (w:World) (h:Xf6 w v n) (ht:TabsR w.heap.size w):
  Calls Tryz.prog 3 #[v] w fun e w'=>e= .returned (.bool true)∧Below w.heap.size w w':=by
 obtain ⟨hn,a,cap,rfl,hc⟩:=h
 have HCL:Hid (n≤1048576→Xf0 w.heap.size w (.slice a n cap) n):=fun h=>⟨h,a,cap,rfl,hc⟩
 have HT:=Xb ht
 clear hc ht
 go_enter Tryz.func3,Tryz.ntmps3
 go_wp2_with fail
 refine (Xv3 a n cap w hn).mono ?_
 rintro e w1 ⟨rfl,rfl⟩
 by_cases hbig:1048576<n
 ·go_wp2_with fail
  go_ret
  exact ⟨rfl,Below.refl _ _⟩
 have HC:=Xb (HCL.out (by omega))
 clear HCL
 go_wp2_with fail
 refine (Xc2 w1.heap.size _ n w1 HC.out (Nat.le_refl _)).mono ?_
 rintro e w2 ⟨⟨v2,fs,rfl,hnod,h1,h40⟩,hb2⟩
 have HN2:Hid (∀w',Below w2.heap.size w2 w'→FNodesAt w'.heap.size w' v2 fs):=fun w' hb=>(hnod.below hb).wide hb.size
 have HB2:=Xb hb2
 have z2:=hb2.size
 obtain ⟨_,a2,c2,e2,_⟩:=hnod
 obtain ⟨N,hN⟩:∃N,fs.length=N:=⟨_,rfl⟩
 rw[hN] at e2 h1 h40
 subst e2
 have HNN:=Xb hN
 clear hb2 hN
 obtain ⟨T,hT⟩:∃T,txt (Yz fs)=T:=⟨_,rfl⟩
 have HTB:Hid (T.data.toList=Yz fs):=by rw[Hid,←hT,Xz]
 have HTL:Hid (T.size=(Yz fs).length):=by rw[Hid,←Xm T,HTB.out]
 have HTX:=Xb hT
 have CP:Hid (∀w3,Below w2.heap.size w2 w3→Calls Tryz.prog 9 #[.slice a2 N c2] w3 fun e w'=>e= .returned (.string T)∧Below w3.heap.size w3 w'):=fun w3 hb=>by
  have hr:TabsR w3.heap.size w3:=(HT.out.next (Below.nextF HB2.out hb z2)).wide (by have:=hb.size;omega)
  have:=Xc3 w3.heap.size _ fs w3 (HN2.out w3 hb) (Nat.le_refl _) hr.jt hr.tb.wd hr.tb.tab
  rw[HTX.out] at this
  exact this
 have CS:Hid (∀w3,Below w2.heap.size w2 w3→Calls Tryz.prog 10 #[.slice a2 N c2] w3 fun e w'=>e= .returned (.string T)∧Below w3.heap.size w3 w'):=fun w3 hb=>by
  have:=Xdk w3.heap.size _ fs w3 (HN2.out w3 hb) (Nat.le_refl _)
  rw[HTX.out] at this
  exact this
 obtain ⟨ok,hok⟩:∃ok,okF fs=ok:=⟨_,rfl⟩
 have HOK:=Xb hok
 have CO:Hid (∀w3,Below w2.heap.size w2 w3→Calls Tryz.prog 11 #[.slice a2 N c2] w3 fun e w'=>e= .returned (.bool ok)∧Below w3.heap.size w3 w'):=fun w3 hb=>by
  have:=K5 w3.heap.size _ fs w3 (HN2.out w3 hb) (Nat.le_refl _)
  rw[HOK.out] at this
  exact this
 have CQ:Hid (∀w3,Below w2.heap.size w2 w3→Calls Tryz.prog 12 #[.slice a2 N c2] w3 fun e w'=>e= .returned (.bool ok)∧Below w3.heap.size w3 w'):=fun w3 hb=>by
  have:=Vd w3.heap.size _ fs w3 (HN2.out w3 hb) (Nat.le_refl _)
  rw[HOK.out] at this
  exact this
 have t1:(T.toList==T.toList)=true:=by simp
 have o1:(ok !=ok)=false:=by simp
 have o2:(ok==ok)=true:=by simp
 have hfew:T.size≤1048576:=by
  cases ok
  ·have:Yz fs= []:=by unfold Yz;rw[HOK.out];rfl
   rw[HTL.out,this];decide
  ·rw[HTL.out];exact Nat.le_trans (Xli HOK.out) (by omega)
 have HFEW:=Xb hfew
 clear hT hok
 go_wp2_with fail
 refine (CP.out w2 (Below.refl _ _)).mono ?_
 rintro e w3 ⟨rfl,hb3⟩
 have H3:=Xb hb3
 have z3:=hb3.size
 clear hb3
 by_cases hz:T.size=0
 ·have hz1:(T.toList== [])=true:=by simpa using G7.2 hz
  go_wp2_with fail
  refine (CS.out w3 H3.out).mono ?_
  rintro e w4 ⟨rfl,hb4⟩
  have H4:=Xb (Below.nextF H3.out hb4 z3)
  have z4:=hb4.size
  clear hb4
  go_wp2_with fail
  refine (CO.out w4 H4.out).mono ?_
  rintro e w5 ⟨rfl,hb5⟩
  have H5:=Xb (Below.nextF H4.out hb5 (by omega))
  have z5:=hb5.size
  clear hb5
  go_wp2_with fail
  refine (CQ.out w5 H5.out).mono ?_
  rintro e w6 ⟨rfl,hb6⟩
  have H6:=Xb (Below.nextF H5.out hb6 (by omega))
  have z6:=hb6.size
  clear hb6
  go_wp2_with fail
  refine (CS.out w6 H6.out).mono ?_
  rintro e w7 ⟨rfl,hb7⟩
  have H7:=Xb (Below.nextF H6.out hb7 (by omega))
  have z7:=hb7.size
  clear hb7
  go_wp2_with fail
  refine (CO.out w7 H7.out).mono ?_
  rintro e w8 ⟨rfl,hb8⟩
  have H8:=Xb (Below.nextF H7.out hb8 (by omega))
  have z8:=hb8.size
  clear hb8
  go_wp2_with fail
  refine (CQ.out w8 H8.out).mono ?_
  rintro e w9 ⟨rfl,hb9⟩
  have H9:=Xb (Below.nextF H8.out hb9 (by omega))
  clear hb9
  go_wp2_with fail
  go_ret
  exact ⟨rfl,Below.nextF HB2.out H9.out z2⟩
 have hz1:(T.toList== [])=false:=by simpa using fun e=>hz (G7.1 e)
 by_cases hbt:1000<T.size
 ·have hbt':(1000:Int)<(T.size:Int):=by omega
  go_wp2_with fail
  refine (CS.out w3 H3.out).mono ?_
  rintro e w4 ⟨rfl,hb4⟩
  have H4:=Xb (Below.nextF H3.out hb4 z3)
  have z4:=hb4.size
  clear hb4
  go_wp2_with fail
  refine (CO.out w4 H4.out).mono ?_
  rintro e w5 ⟨rfl,hb5⟩
  have H5:=Xb (Below.nextF H4.out hb5 (by omega))
  have z5:=hb5.size
  clear hb5
  go_wp2_with fail
  refine (CQ.out w5 H5.out).mono ?_
  rintro e w6 ⟨rfl,hb6⟩
  have H6:=Xb (Below.nextF H5.out hb6 (by omega))
  have z6:=hb6.size
  clear hb6
  go_wp2_with fail
  refine (CS.out w6 H6.out).mono ?_
  rintro e w7 ⟨rfl,hb7⟩
  have H7:=Xb (Below.nextF H6.out hb7 (by omega))
  have z7:=hb7.size
  clear hb7
  go_wp2_with fail
  refine (CO.out w7 H7.out).mono ?_
  rintro e w8 ⟨rfl,hb8⟩
  have H8:=Xb (Below.nextF H7.out hb8 (by omega))
  have z8:=hb8.size
  clear hb8
  go_wp2_with fail
  refine (CQ.out w8 H8.out).mono ?_
  rintro e w9 ⟨rfl,hb9⟩
  have H9:=Xb (Below.nextF H8.out hb9 (by omega))
  clear hb9
  go_wp2_with fail
  go_ret
  exact ⟨rfl,Below.nextF HB2.out H9.out z2⟩
 have hbt':¬(1000:Int)<(T.size:Int):=by omega
 have HR:Hid (okF fs=true):=by
  cases ok
  ·exfalso
   have:Yz fs= []:=by unfold Yz;rw[HOK.out];rfl
   exact hz (by rw[HTL.out,this];rfl)
  ·exact HOK.out
 have HFB:Hid (Xbj T.data.toList=fs∧(Jg T.data.toList).isSome=true):=by
  have hb:=Xho HR.out (by have:=HTL.out;omega)
  rw[←HTB.out] at hb
  exact ⟨by unfold Xbj;rw[hb];rfl,by rw[hb];rfl⟩
 have CT:Hid (∀w,TabsR w.heap.size w→Calls Tryz.prog 13 #[.string T] w fun e w'=>(Below w.heap.size w w'∧∃v,e= .returned (.tuple #[v, .bool true])∧FRow w.heap.size (fun _=>False) w' v fs)∧Y0 fs):=fun w h=>(Xdd (w:=w) h HFEW.out).mono fun e w' h=>by
  have:=h.n
  unfold Xyu at this
  rw[HFB.out.1,HFB.out.2] at this
  exact this
 clear hfew
 go_wp2_with fail
 refine (CS.out w3 H3.out).mono ?_
 rintro e w4 ⟨rfl,hb4⟩
 have H4:=Xb (Below.nextF H3.out hb4 z3)
 have z4:=hb4.size
 clear hb4
 go_wp2_with fail
 refine (CO.out w4 H4.out).mono ?_
 rintro e w5 ⟨rfl,hb5⟩
 have H5:=Xb (Below.nextF H4.out hb5 (by omega))
 have z5:=hb5.size
 clear hb5
 go_wp2_with fail
 refine (CQ.out w5 H5.out).mono ?_
 rintro e w6 ⟨rfl,hb6⟩
 have H6:=Xb (Below.nextF H5.out hb6 (by omega))
 have z6:=hb6.size
 clear hb6
 go_wp2_with fail
 refine (CT.out w6 ((HT.out.next (Below.nextF HB2.out H6.out z2)).wide (by omega:w1.heap.size≤w6.heap.size))).mono ?_
 rintro e w7 ⟨⟨hb7,v7,rfl,hr7⟩,hall⟩
 obtain ⟨a7,c7,e7⟩:=hr7.slice
 rw[HNN.out] at e7
 subst e7
 have HN7:=Xb (hr7.nodes (by have:=HNN.out;omega) hall)
 have H7:=Xb (Below.nextF H6.out hb7 (by omega))
 have z7:=hb7.size
 clear hr7 hb7 hall
 go_wp2_with fail
 refine (Xgc w7.heap.size _ _ fs w7 HN7.out (HN2.out w7 H7.out) (Nat.le_refl _)).mono ?_
 rintro e w8 ⟨rfl,hb8⟩
 have H8:=Xb (Below.nextF H7.out hb8 (by omega))
 clear hb8
 go_wp2_with fail
 go_ret
 exact ⟨rfl,Below.nextF HB2.out H8.out z2⟩
end Go.Proofs.YtehihemfepbmfaaGreatDoor
