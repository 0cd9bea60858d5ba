import Derived.Test.YtdjddneidbddpaaGreatDoorEqSS
import Derived.Test.YtdjddneidbddpaaGreatDoorPsP
import Derived.Test.YtdjddneidbddpaaGreatDoorSpc3
import Derived.Test.YtdjddneidbddpaaGreatDoorIMinA
import Derived.Test.YtdjddneidbddpaaGreatDoorFollow
import Derived.Deep.RegionWith
namespace Go.Proofs.YtdjddneidbddpaaGreatDoor
set_option linter.unusedSectionVars false
set_option maxRecDepth 100000
set_option maxHeartbeats 1600000
open Go.RowKit
set_option linter.unusedSimpArgs false
set_option linter.unusedVariables false
def Jj (o:Option Nat):Int:=match o with
 |none=> -1
 |some k=>k
theorem Ub (B:Nat) (x:VN) (ka ki:Value) (s:PS) (w:World) (h:NodeIn B w x ka ki) (hB:B<=w.heap.size) (h6:x.kind=6->Xhw x.keys/\x.keys.length<=80) (hs:s.named=true\/0<=s.pl) (hl:x.kids.length<=1048576) (hpl: -9223372036854775808<=s.pl/\s.pl<=9223372036854775807):
  Calls Tryz.prog 128 #[.agg #[.int .i64 x.kind, .int .i64 x.n, .string x.s,ka,ki], .agg #[.bool s.named, .string s.key, .int .i64 s.pl]] w fun e w'=>e= .returned (.int .i64 (Jj (Qy x s)))/\Below w.heap.size w w':=by
 obtain ⟨V,X,g,c1,Y,y⟩:=h.keys
 obtain ⟨_,_,q,t,Z,_⟩:=h.kids
 have C:=Xa y
 have H6:=Xa h6
 subst Y Z
 clear h y h6
 obtain ⟨J,c,pl⟩:=s
 simp only at hs hpl|-
 obtain ⟨ba,bb⟩:=hpl
 have l:Below w.heap.size w ((w.alloc (.cells #[.int .i64 x.kind, .int .i64 x.n, .string x.s, .slice g x.keys.length c1, .slice q x.kids.length t] 75)).alloc (.cells #[.bool J, .string c, .int .i64 pl] 183)):=((Below.refl _ _).alloc (Nat.le_refl _) _).alloc (by simp) _
 cases J
 ·have h0:0<=pl:=by rcases hs with e|e;cases e;exact e
  by_cases h5:x.kind=5
  ·by_cases hlt:pl<(x.kids.length:Int)
   ·have f:Hid (Jj (Qy x ⟨false,c,pl⟩)=pl):=by unfold Hid Qy Gw;simp[h5,hlt,Jj];omega
    go_enter Tryz.func128,Tryz.ntmps128
    go_wp2_with fail
    go_ret
    exact ⟨Yl f.out.symm,((Below.refl _ _).alloc (Nat.le_refl _) _).alloc (by simp) _⟩
   ·have f:Hid (Jj (Qy x ⟨false,c,pl⟩)= -1):=by unfold Hid Qy Gw;simp[hlt,Jj]
    go_enter Tryz.func128,Tryz.ntmps128
    go_wp2_with fail
    go_ret
    exact ⟨Yl f.out.symm,((Below.refl _ _).alloc (Nat.le_refl _) _).alloc (by simp) _⟩
  ·have f:Hid (Jj (Qy x ⟨false,c,pl⟩)= -1):=by unfold Hid Qy Gw;simp[h5,Jj]
   have bc:(x.kind==5)=false:=by simpa using h5
   go_enter Tryz.func128,Tryz.ntmps128
   go_wp2_with fail
   go_ret
   exact ⟨Yl f.out.symm,l⟩
 ·have z := Xa l
  have L:((w.alloc (.cells #[.int .i64 x.kind, .int .i64 x.n, .string x.s, .slice g x.keys.length c1, .slice q x.kids.length t] 75)).alloc (.cells #[.bool true, .string c, .int .i64 pl] 183)).cell? ⟨w.heap.size,0,none⟩=some (.int .i64 x.kind):=by simp
  have M:((w.alloc (.cells #[.int .i64 x.kind, .int .i64 x.n, .string x.s, .slice g x.keys.length c1, .slice q x.kids.length t] 75)).alloc (.cells #[.bool true, .string c, .int .i64 pl] 183)).cell? ⟨w.heap.size,3,none⟩=some (.slice g x.keys.length c1):=by simp
  have P:((w.alloc (.cells #[.int .i64 x.kind, .int .i64 x.n, .string x.s, .slice g x.keys.length c1, .slice q x.kids.length t] 75)).alloc (.cells #[.bool true, .string c, .int .i64 pl] 183)).cell? ⟨w.heap.size+1,1,none⟩=some (.string c):=by simp
  have sz:((w.alloc (.cells #[.int .i64 x.kind, .int .i64 x.n, .string x.s, .slice g x.keys.length c1, .slice q x.kids.length t] 75)).alloc (.cells #[.bool true, .string c, .int .i64 pl] 183)).heap.size=w.heap.size+1+1:=by simp
  clear l
  go_enter Tryz.func128,Tryz.ntmps128
  go_wp2_with fail
  generalize ((w.alloc (.cells #[.int .i64 x.kind, .int .i64 x.n, .string x.s, .slice g x.keys.length c1, .slice q x.kids.length t] 75)).alloc (.cells #[.bool true, .string c, .int .i64 pl] 183))=W1 at *
  have hW:w.heap.size+1<W1.heap.size:=by omega
  have D:=Xa (And.intro L (And.intro M P))
  clear L M P sz
  go_loopw [5] (fun i wr=>∃(k:Nat),i= .int .i64 k/\(x.kind=6->k<=x.keys.length)/\Hid (∀j,j<k->(Xf x.keys j).toList≠c.toList)/\Below W1.heap.size W1 wr) (fun i _=>x.keys.length+1-(intOf i).toNat)
  case atStart=>exact ⟨0,rfl,fun _=>Nat.zero_le _,fun j hj=>by omega,Below.refl _ _⟩
  case round =>
   obtain ⟨k,rfl,R,F,d⟩:=hrel
   have z0:wr.cell? ⟨w.heap.size,0,none⟩=some (.int .i64 x.kind):=(Xc d (by omega)).trans D.out.1
   have z3:wr.cell? ⟨w.heap.size,3,none⟩=some (.slice g x.keys.length c1):=(Xc d (by omega)).trans D.out.2.1
   have z1:wr.cell? ⟨w.heap.size+1,1,none⟩=some (.string c):=(Xc d (by omega)).trans D.out.2.2
   have p:Hid (Below w.heap.size w wr):=z.out.trans (d.mono (by omega))
   by_cases e6:x.kind=6
   ·have bd:=R e6
    by_cases hlt:k<x.keys.length
    ·obtain ⟨b,o,rfl,be,S⟩:=C.out (by omega)
     have bf:wr.cell? ⟨b,o+k,none⟩=some (.string (Xf x.keys k)):=(Xc d (by omega)).trans ((Xc z.out (by omega)).trans (S k hlt))
     clear S R
     by_cases he:(Xf x.keys k).toList=c.toList
     ·have f:Hid (Jj (Qy x ⟨true,c,pl⟩)=(k:Int)):=by
       obtain ⟨g1,g2⟩:=Xje (H6.out e6).1 hlt he F.out
       unfold Hid Qy Gw
       simp[e6,g1,g2,Jj]
      have hz:((Xf x.keys k).toList==c.toList)=true:=by simp[he]
      go_wp2_with fail
      go_quiet (fail)
      go_wp2_with fail
      go_ret
      exact ⟨Yl f.out.symm,below_drewN p.out nq⟩
     ·have G:Hid (∀j,j<k+1->(Xf x.keys j).toList≠c.toList):=fun j hj=>by
       by_cases e:j=k
       ·subst e;exact he
       ·exact F.out j (by omega)
      have hz:((Xf x.keys k).toList==c.toList)=false:=by simpa using he
      go_wp2_with fail
      go_quiet (fail)
      go_wp2_with fail
      go_roundw
      case rel=>exact ⟨k+1,by go_num,fun _=>by omega,G,below_drewN d nq⟩
      case measure=>simp[intOf];omega
    ·obtain rfl:k=x.keys.length:=by omega
     have f:Hid (Jj (Qy x ⟨true,c,pl⟩)= -1):=by unfold Hid Qy Gw;simp[Xlq F.out,Jj]
     have T:¬((x.keys.length:Int)<(x.keys.length:Int)):=by omega
     go_wp2_with fail
     go_ret
     exact ⟨Yl f.out.symm,p.out⟩
   ·have f:Hid (Jj (Qy x ⟨true,c,pl⟩)= -1):=by unfold Hid Qy Gw;simp[e6,Jj]
    have bg:(x.kind==6)=false:=by simpa using e6
    go_wp2_with fail
    go_ret
    exact ⟨Yl f.out.symm,p.out⟩
end Go.Proofs.YtdjddneidbddpaaGreatDoor
