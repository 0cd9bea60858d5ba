import Derived.Test.YtehihemfepbmfaaGreatDoorFEq
import Derived.Test.YtehihemfepbmfaaGreatDoorSamq
namespace Go.Proofs.YtehihemfepbmfaaGreatDoor
set_option linter.unusedSectionVars false
set_option maxHeartbeats 8000000
open Go.RowKit
set_option linter.unusedSimpArgs false
set_option linter.unusedVariables false
set_option maxRecDepth 100000 in
theorem Xe6 (B:Nat) (v1 v2:Value) (fs:List FN) (w:World) (h1:FNodesAt B w v1 fs) (h2:FNodesAt B w v2 fs) (hB:B≤w.heap.size):
  Calls Tryz.prog 14 #[v1,v2] w fun e w'=>e= .returned (.bool true)∧∃n,w'=w.drewN n:=by
 obtain ⟨hlen,a1,cap1,rfl,hcell1⟩:=h1
 obtain ⟨_,a2,cap2,rfl,hcell2⟩:=h2
 obtain ⟨N,hN⟩:∃N,fs.length=N:=⟨_,rfl⟩
 have HC1:=Xb hcell1
 have HC2:=Xb hcell2
 rw[hN] at HC1 HC2 hlen
 rw[hN]
 clear hcell1 hcell2 hN
 have hne:((N:Int) !=(N:Int))=false:=by simp
 go_enter Tryz.func14,Tryz.ntmps14
 go_wp2_with fail
 go_loopw [5] (fun i wr=>∃k:Nat,k≤N∧i= .int .i64 k∧Drw w wr) (fun i _=>N-(intOf i).toNat)
 case atStart=>exact ⟨0,Nat.zero_le _,rfl,Drw.refl _⟩
 case round =>
  obtain ⟨k,hk,rfl,hbel⟩:=hrel
  by_cases hlt:k<N
  case neg=>
   go_wp2_with fail
   go_ret
   exact ⟨rfl,hbel⟩
  case pos=>
  obtain ⟨b1,o1,rfl,hb1,hc1⟩:=HC1.out (by omega)
  obtain ⟨b2,o2,rfl,hb2,hc2⟩:=HC2.out (by omega)
  obtain ⟨kc,kn,ki,g⟩:=hc1 k hlt
  obtain ⟨kc',kn',ki',g'⟩:=hc2 k hlt
  clear hc1 hc2
  obtain ⟨x,hx⟩:∃x,Xi fs k=x:=⟨_,rfl⟩
  rw[hx] at g g'
  clear hx
  have HK1:=Xb g.inn.cst
  have HK2:=Xb g'.inn.cst
  obtain ⟨_,a0,c0,e0,_⟩:=g.inn.cst
  obtain ⟨hP',_,a3,c3,e3,hkc1⟩:=g.inn.names
  obtain ⟨hQ',_,a4,c4,e4,hic1⟩:=g.inn.kids
  obtain ⟨_,a5,c5,e5,_⟩:=g'.inn.cst
  obtain ⟨_,_,a6,c6,e6,hkc2⟩:=g'.inn.names
  obtain ⟨_,_,a7,c7,e7,hic2⟩:=g'.inn.kids
  subst e0 e3 e4 e5 e6 e7
  have HKC1:=Xb hkc1
  have HKC2:=Xb hkc2
  have HIC1:=Xb hic1
  have HIC2:=Xb hic2
  obtain ⟨P,hP⟩:∃P,x.names.length=P:=⟨_,rfl⟩
  obtain ⟨Q,hQ⟩:∃Q,x.kids.length=Q:=⟨_,rfl⟩
  obtain ⟨M,hM⟩:∃M,x.cst.length=M:=⟨_,rfl⟩
  have d0:=(hbel.cell _).trans g.c0
  have d1:=(hbel.cell _).trans g.c1
  have d2:=(hbel.cell _).trans g.c2
  have d3:=(hbel.cell _).trans g.c3
  have d4:=(hbel.cell _).trans g.c4
  have d5:=(hbel.cell _).trans g.c5
  have e0:=(hbel.cell _).trans g'.c0
  have e1:=(hbel.cell _).trans g'.c1
  have e2:=(hbel.cell _).trans g'.c2
  have e3:=(hbel.cell _).trans g'.c3
  have e4:=(hbel.cell _).trans g'.c4
  have e5:=(hbel.cell _).trans g'.c5
  have HD4:=Xb g.c4
  have HD5:=Xb g.c5
  have HE4:=Xb g'.c4
  have HE5:=Xb g'.c5
  have HBL:=Xb hbel
  rw[hP] at d4 e4 hP' HKC1 HKC2 HD4 HE4
  rw[hQ] at d5 e5 hQ' HIC1 HIC2 HD5 HE5
  rw[hM] at d3 e3 HK1 HK2
  have HSM:Hid (∀n,Calls Tryz.prog 37 #[.slice a0 M c0, .slice a5 M c5] (wr.drewN n) fun e w'=>e= .returned (.bool true)∧∃m,w'=(wr.drewN n).drewN m):=fun n=>
   Xo4 B _ _ x.cst (wr.drewN n) (HK1.out.below ((HBL.out.more n).below.mono hB)) (HK2.out.below ((HBL.out.more n).below.mono hB))
  have f0:(x.kind !=x.kind)=false:=by simp
  have f1:(x.name.toList==x.name.toList)=true:=by simp
  have f2:(x.place !=x.place)=false:=by simp
  have f4:((P:Int) !=(P:Int))=false:=by simp
  have f5:((Q:Int) !=(Q:Int))=false:=by simp
  clear g g' hP hQ hM hkc1 hkc2 hic1 hic2
  go_wp2_with fail
  refine wp_region_quiet_lit (by kernel_rfl) (by kernel_rfl) ?_
  simp only[List.append_eq,List.cons_append,List.nil_append]
  repeat (go_big_quiet_step ((go_at_call 37;exact Calls.quiet_of (HSM.out _))))
  refine wpQuiet_nil ?_
  intro _ hw'
  obtain ⟨nq,hw''⟩:=hw'
  subst hw''
  have hbq:=hbel.more nq
  generalize wr.drewN nq=W1 at hbq⊢
  clear d0 d1 d2 d3 d4 d5 e0 e1 e2 e3 e4 e5 hbel
  go_wp2_with fail
  go_loopw [6] (fun i wr=>∃q:Nat,q≤P∧i= .int .i64 q∧Drw w wr) (fun i _=>P-(intOf i).toNat)
  case atStart=>exact ⟨0,Nat.zero_le _,rfl,hbq⟩
  case round=>
   obtain ⟨q,hq,rfl,hbr⟩:=hrel
   have e3:=(hbr.cell _).trans HD4.out
   have t3:=(hbr.cell _).trans HE4.out
   by_cases hlq:q<P
   case neg=>
    go_wp2_with fail
    clear e3 t3
    obtain ⟨W2,rfl⟩:∃W2,W2=wr:=⟨_,rfl⟩
    go_loopw [7] (fun i wr=>∃p:Nat,p≤Q∧i= .int .i64 p∧Drw w wr) (fun i _=>Q-(intOf i).toNat)
    case atStart=>exact ⟨0,Nat.zero_le _,rfl,hbr⟩
    case round=>
     obtain ⟨p,hp,rfl,hbs⟩:=hrel
     have e4:=(hbs.cell _).trans HD5.out
     have t4:=(hbs.cell _).trans HE5.out
     by_cases hlp:p<Q
     case neg=>
      go_wp2_with fail
      go_roundw
      case rel=>exact ⟨k+1,by omega,by go_num,hbs⟩
      case measure=>simp[intOf];omega
     case pos=>
     obtain ⟨b3,o3,rfl,hb3,hc3⟩:=HIC1.out (by omega)
     obtain ⟨b4,o4,rfl,hb4,hc4⟩:=HIC2.out (by omega)
     have r1:=(hbs.cell _).trans (hc3 p hlp)
     have r2:=(hbs.cell _).trans (hc4 p hlp)
     clear hc3 hc4
     have f6:(Xk x.kids p !=Xk x.kids p)=false:=by simp
     go_wp2_with fail
     go_quiet (fail)
     go_wp2_with fail
     go_roundw
     case rel=>exact ⟨p+1,by omega,by go_num,hbs.more nq⟩
     case measure=>simp[intOf];omega
   case pos=>
   obtain ⟨b3,o3,rfl,hb3,hc3⟩:=HKC1.out (by omega)
   obtain ⟨b4,o4,rfl,hb4,hc4⟩:=HKC2.out (by omega)
   have r1:=(hbr.cell _).trans (hc3 q hlq)
   have r2:=(hbr.cell _).trans (hc4 q hlq)
   clear hc3 hc4
   have f6:((Xt x.names q).toList==(Xt x.names q).toList)=true:=by simp
   go_wp2_with fail
   go_quiet (fail)
   go_wp2_with fail
   go_roundw
   case rel=>exact ⟨q+1,by omega,by go_num,hbr.more nq⟩
   case measure=>simp[intOf];omega
theorem Xgc (B:Nat) (v1 v2:Value) (fs:List FN) (w:World) (h1:FNodesAt B w v1 fs) (h2:FNodesAt B w v2 fs) (hB:B≤w.heap.size):
  Calls Tryz.prog 14 #[v1,v2] w fun e w'=>e= .returned (.bool true)∧Below w.heap.size w w':=
 (Xe6 B v1 v2 fs w h1 h2 hB).mono fun e w' ⟨h,hd⟩=>⟨h,Drw.below hd⟩
end Go.Proofs.YtehihemfepbmfaaGreatDoor
