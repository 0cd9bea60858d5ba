import Derived.Test.YtehihemfepbmfaaGreatDoorCmp
import Derived.Test.YtehihemfepbmfaaGreatDoorVAt
import Derived.Deep.QuietTactic
import Derived.BigQuiet
import Derived.WalkSmall
import Derived.Deep.RegionWith
import Derived.Test.YtehihemfepbmfaaGreatDoorProg
namespace Go.Proofs.YtehihemfepbmfaaGreatDoor
set_option linter.unusedSectionVars false
set_option maxHeartbeats 4000000
open Go.RowKit
set_option linter.unusedSimpArgs false
set_option linter.unusedVariables false

structure Two (B:Nat) (w:World) (v1 v2:Value) (us vs:List VN):Prop where
 n1:NodesAt B w v1 us
 n2:NodesAt B w v2 vs
 k1:∀k,k<us.length→Yb (Xc us k)=true∧Q0 us k=true
 k2:∀k,k<vs.length→Yb (Xc vs k)=true∧Q0 vs k=true


def X1f (x y:Int):Int:=if x=0 then y else x
structure IsLex {α β:Type} (C:List α→List β→Int) (r:α→β→Int):Prop where
 nn:C [] []=0
 nc:∀b m,C [] (b::m)= -1
 cn:∀a l,C (a::l) []=1
 cc:∀a l b m,C (a::l) (b::m)=X1f (r a b) (C l m)



def Drw (w w':World):Prop:=∃n,w'=w.drewN n
theorem Drw.refl (w:World):Drw w w:=⟨0,by cases w;rfl⟩
theorem Drw.trans {a b c:World} (h:Drw a b) (k:Drw b c):Drw a c:=by
 obtain ⟨n,rfl⟩:=h
 obtain ⟨m,rfl⟩:=k
 exact ⟨n+m,World.drewN_drewN _ _ _⟩
theorem Drw.more {a b:World} (h:Drw a b) (n:Nat):Drw a (b.drewN n):=h.trans ⟨n,rfl⟩
theorem Drw.cell {a b:World} (h:Drw a b) (x:Addr):b.cell? x=a.cell? x:=by
 obtain ⟨n,rfl⟩:=h
 rfl
theorem Drw.below {a b:World} (h:Drw a b):Below a.heap.size a b:=by
 obtain ⟨n,rfl⟩:=h
 exact ⟨rfl,rfl,rfl,Nat.le_refl _,fun _ _=>rfl⟩
set_option maxRecDepth 100000 in
theorem Xo4 (B:Nat) (v1 v2:Value) (us:List VN) (w:World) (h1:NodesAt B w v1 us) (h2:NodesAt B w v2 us):
  Calls Tryz.prog 37 #[v1,v2] w fun e w'=>e= .returned (.bool true)∧∃n,w'=w.drewN n:=by
 obtain ⟨hlen,a1,cap1,rfl,hcell1⟩:=h1
 obtain ⟨hlen2,a2,cap2,rfl,hcell2⟩:=h2
 obtain ⟨N,hN⟩:∃N,us.length=N:=⟨_,rfl⟩
 have HC1:=Xb hcell1
 have HC2:=Xb hcell2
 rw[hN] at HC1 HC2 hlen
 rw[hN]
 clear hcell1 hcell2 hN hlen2
 have hne:((N:Int) !=(N:Int))=false:=by simp
 go_enter Tryz.func37,Tryz.ntmps37
 go_wp2_with fail
 go_loopw [5] (fun i wr=>∃k:Nat,k≤N∧i= .int .i64 k∧Drw w wr) (fun i _=>N-(intOf i).toNat)
 case atStart=>exact ⟨0,Nat.zero_le _,rfl,Drw.refl _⟩
 case round =>
  obtain ⟨k,hk,rfl,hbel⟩:=hrel
  by_cases hlt:k<N
  case neg=>
   go_wp2_with fail
   go_ret
   exact ⟨rfl,hbel⟩
  case pos=>
  obtain ⟨b1,o1,rfl,hb1,hc1⟩:=HC1.out (by omega)
  obtain ⟨b2,o2,rfl,hb2,hc2⟩:=HC2.out (by omega)
  obtain ⟨ka,ki,g⟩:=hc1 k hlt
  obtain ⟨ka',ki',g'⟩:=hc2 k hlt
  clear hc1 hc2
  obtain ⟨x,hx⟩:∃x,Xc us k=x:=⟨_,rfl⟩
  rw[hx] at g g'
  clear hx
  obtain ⟨kl1,ks1,ak1,ck1,e1,hkc1⟩:=g.inn.keys
  obtain ⟨il1,is1,ai1,ci1,e2,hic1⟩:=g.inn.kids
  obtain ⟨kl2,ks2,ak2,ck2,e3,hkc2⟩:=g'.inn.keys
  obtain ⟨il2,is2,ai2,ci2,e4,hic2⟩:=g'.inn.kids
  subst e1 e2 e3 e4
  have c0:=(hbel.cell _).trans g.c0
  have c1:=(hbel.cell _).trans g.c1
  have c2:=(hbel.cell _).trans g.c2
  have c3:=(hbel.cell _).trans g.c3
  have c4:=(hbel.cell _).trans g.c4
  have d0:=(hbel.cell _).trans g'.c0
  have d1:=(hbel.cell _).trans g'.c1
  have d2:=(hbel.cell _).trans g'.c2
  have d3:=(hbel.cell _).trans g'.c3
  have d4:=(hbel.cell _).trans g'.c4
  have HKC1:=Xb hkc1
  have HKC2:=Xb hkc2
  have HIC1:=Xb hic1
  have HIC2:=Xb hic2
  obtain ⟨P,hP⟩:∃P,x.keys.length=P:=⟨_,rfl⟩
  obtain ⟨Q,hQ⟩:∃Q,x.kids.length=Q:=⟨_,rfl⟩
  rw[hP] at c3 d3 kl1 HKC1 HKC2
  rw[hQ] at c4 d4 il1 HIC1 HIC2
  have C3:=Xb g.c3
  have C4:=Xb g.c4
  have D3:=Xb g'.c3
  have D4:=Xb g'.c4
  rw[hP] at C3 D3
  rw[hQ] at C4 D4
  have f1:(x.kind !=x.kind)=false:=by simp
  have f2:(x.n !=x.n)=false:=by simp
  have f3:(x.s.toList==x.s.toList)=true:=by simp
  have f4:((P:Int) !=(P:Int))=false:=by simp
  have f5:((Q:Int) !=(Q:Int))=false:=by simp
  clear g g' hkc1 hkc2 hic1 hic2 ks1 ks2 is1 is2 kl2 il2 hP hQ
  go_wp2_with fail
  refine wp_region_quiet_lit (by kernel_rfl) (by kernel_rfl) ?_
  simp only[List.append_eq,List.cons_append,List.nil_append]
  repeat (go_big_quiet_step (fail))
  refine wpQuiet_nil ?_
  intro _ hw'
  obtain ⟨nq,hw''⟩:=hw'
  subst hw''
  have hbq:=hbel.more nq
  generalize wr.drewN nq=W1 at hbq⊢
  clear c0 c1 c2 c3 c4 d0 d1 d2 d3 d4 hbel
  go_wp2_with fail
  go_loopw [6] (fun i wr=>∃q:Nat,q≤P∧i= .int .i64 q∧Drw w wr) (fun i _=>P-(intOf i).toNat)
  case atStart=>exact ⟨0,Nat.zero_le _,rfl,hbq⟩
  case round=>
   obtain ⟨q,hq,rfl,hbr⟩:=hrel
   have e3:=(hbr.cell _).trans C3.out
   have t3:=(hbr.cell _).trans D3.out
   by_cases hlq:q<P
   case neg=>
    go_wp2_with fail
    clear e3 t3
    obtain ⟨W2,rfl⟩:∃W2,W2=wr:=⟨_,rfl⟩
    go_loopw [7] (fun i wr=>∃p:Nat,p≤Q∧i= .int .i64 p∧Drw w wr) (fun i _=>Q-(intOf i).toNat)
    case atStart=>exact ⟨0,Nat.zero_le _,rfl,hbr⟩
    case round=>
     obtain ⟨p,hp,rfl,hbs⟩:=hrel
     have e4:=(hbs.cell _).trans C4.out
     have t4:=(hbs.cell _).trans D4.out
     by_cases hlp:p<Q
     case neg=>
      go_wp2_with fail
      go_roundw
      case rel=>exact ⟨k+1,by omega,by go_num,hbs⟩
      case measure=>simp[intOf];omega
     case pos=>
     obtain ⟨b3,o3,rfl,hb3,hc3⟩:=HIC1.out (by omega)
     obtain ⟨b4,o4,rfl,hb4,hc4⟩:=HIC2.out (by omega)
     have r1:=(hbs.cell _).trans (hc3 p hlp)
     have r2:=(hbs.cell _).trans (hc4 p hlp)
     clear hc3 hc4
     have f6:(Xk x.kids p !=Xk x.kids p)=false:=by simp
     go_wp2_with fail
     go_quiet (fail)
     go_wp2_with fail
     go_roundw
     case rel=>exact ⟨p+1,by omega,by go_num,hbs.more nq⟩
     case measure=>simp[intOf];omega
   case pos=>
   obtain ⟨b3,o3,rfl,hb3,hc3⟩:=HKC1.out (by omega)
   obtain ⟨b4,o4,rfl,hb4,hc4⟩:=HKC2.out (by omega)
   have r1:=(hbr.cell _).trans (hc3 q hlq)
   have r2:=(hbr.cell _).trans (hc4 q hlq)
   clear hc3 hc4
   have f6:((Xt x.keys q).toList==(Xt x.keys q).toList)=true:=by simp
   go_wp2_with fail
   go_quiet (fail)
   go_wp2_with fail
   go_roundw
   case rel=>exact ⟨q+1,by omega,by go_num,hbr.more nq⟩
   case measure=>simp[intOf];omega
end Go.Proofs.YtehihemfepbmfaaGreatDoor
