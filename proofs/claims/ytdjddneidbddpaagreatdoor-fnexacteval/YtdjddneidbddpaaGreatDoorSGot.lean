import Derived.Test.YtdjddneidbddpaaGreatDoorLowN
import Derived.Test.YtdjddneidbddpaaGreatDoorPsP
import Derived.Test.YtdjddneidbddpaaGreatDoorSpc3
import Derived.Test.YtdjddneidbddpaaGreatDoorEqS2
import Derived.Test.YtdjddneidbddpaaGreatDoorFollow
import Derived.Deep.RegionWith
namespace Go.Proofs.YtdjddneidbddpaaGreatDoor
set_option linter.unusedSectionVars false
set_option maxHeartbeats 1600000
open Go.RowKit
set_option linter.unusedSimpArgs false
set_option linter.unusedVariables false
def Jt (o:Option Nat):Int:=match o with
 |none=> -1
 |some k=>k
set_option maxRecDepth 100000 in
theorem Uh (B:Nat) (x:VN) (ka ki:Value) (s:PS) (w:World) (h:NodeIn B w x ka ki) (hB:B≤w.heap.size) (h6:x.kind=6→Xid x.keys∧x.keys.length≤80) (hs:s.named=true∨0≤s.pl) (hl:x.kids.length≤1048576) (hpl: -9223372036854775808≤s.pl∧s.pl≤9223372036854775807):
  Calls Tryz.prog 128 #[.agg #[.int .i64 x.kind, .int .i64 x.n, .string x.s,ka,ki], .agg #[.bool s.named, .string s.key, .int .i64 s.pl]] w fun e w'=>e= .returned (.int .i64 (Jt (Q8 x s)))∧Below w.heap.size w w':=by
 obtain ⟨hkn,hks,a1,c1,e1,hkc⟩:=h.keys
 obtain ⟨_,_,a2,c2,e2,_⟩:=h.kids
 have HKC:=Xa hkc
 have H6:=Xa h6
 subst e1 e2
 clear h hkc h6
 obtain ⟨nm,ky,pl⟩:=s
 simp only at hs hpl⊢
 obtain ⟨hp1,hp2⟩:=hpl
 have hba:Below w.heap.size w ((w.alloc (.cells #[.int .i64 x.kind, .int .i64 x.n, .string x.s, .slice a1 x.keys.length c1, .slice a2 x.kids.length c2] 75)).alloc (.cells #[.bool nm, .string ky, .int .i64 pl] 183)):=((Below.refl _ _).alloc (Nat.le_refl _) _).alloc (by simp) _
 cases nm
 ·have h0:0≤pl:=by rcases hs with e|e;cases e;exact e
  by_cases h5:x.kind=5
  ·by_cases hlt:pl<(x.kids.length:Int)
   ·have HR:Hid (Jt (Q8 x ⟨false,ky,pl⟩)=pl):=by unfold Hid Q8 G8;simp[h5,hlt,Jt];omega
    go_enter Tryz.func128,Tryz.ntmps128
    go_wp2_with fail
    go_ret
    exact ⟨Yp HR.out.symm,((Below.refl _ _).alloc (Nat.le_refl _) _).alloc (by simp) _⟩
   ·have HR:Hid (Jt (Q8 x ⟨false,ky,pl⟩)= -1):=by unfold Hid Q8 G8;simp[hlt,Jt]
    go_enter Tryz.func128,Tryz.ntmps128
    go_wp2_with fail
    go_ret
    exact ⟨Yp HR.out.symm,((Below.refl _ _).alloc (Nat.le_refl _) _).alloc (by simp) _⟩
  ·have HR:Hid (Jt (Q8 x ⟨false,ky,pl⟩)= -1):=by unfold Hid Q8 G8;simp[h5,Jt]
   have h5':(x.kind==5)=false:=by simpa using h5
   go_enter Tryz.func128,Tryz.ntmps128
   go_wp2_with fail
   go_ret
   exact ⟨Yp HR.out.symm,hba⟩
 ·have HBA := Xa hba
  have x0:((w.alloc (.cells #[.int .i64 x.kind, .int .i64 x.n, .string x.s, .slice a1 x.keys.length c1, .slice a2 x.kids.length c2] 75)).alloc (.cells #[.bool true, .string ky, .int .i64 pl] 183)).cell? ⟨w.heap.size,0,none⟩=some (.int .i64 x.kind):=by simp
  have x3:((w.alloc (.cells #[.int .i64 x.kind, .int .i64 x.n, .string x.s, .slice a1 x.keys.length c1, .slice a2 x.kids.length c2] 75)).alloc (.cells #[.bool true, .string ky, .int .i64 pl] 183)).cell? ⟨w.heap.size,3,none⟩=some (.slice a1 x.keys.length c1):=by simp
  have y1:((w.alloc (.cells #[.int .i64 x.kind, .int .i64 x.n, .string x.s, .slice a1 x.keys.length c1, .slice a2 x.kids.length c2] 75)).alloc (.cells #[.bool true, .string ky, .int .i64 pl] 183)).cell? ⟨w.heap.size+1,1,none⟩=some (.string ky):=by simp
  have sz:((w.alloc (.cells #[.int .i64 x.kind, .int .i64 x.n, .string x.s, .slice a1 x.keys.length c1, .slice a2 x.kids.length c2] 75)).alloc (.cells #[.bool true, .string ky, .int .i64 pl] 183)).heap.size=w.heap.size+1+1:=by simp
  clear hba
  go_enter Tryz.func128,Tryz.ntmps128
  go_wp2_with fail
  generalize ((w.alloc (.cells #[.int .i64 x.kind, .int .i64 x.n, .string x.s, .slice a1 x.keys.length c1, .slice a2 x.kids.length c2] 75)).alloc (.cells #[.bool true, .string ky, .int .i64 pl] 183))=W1 at *
  have hW:w.heap.size+1<W1.heap.size:=by omega
  have HX:=Xa (And.intro x0 (And.intro x3 y1))
  clear x0 x3 y1 sz
  go_loopw [5] (fun i wr=>∃(k:Nat),i= .int .i64 k∧(x.kind=6→k≤x.keys.length)∧Hid (∀j,j<k→(Xh x.keys j).toList≠ky.toList)∧Below W1.heap.size W1 wr) (fun i _=>x.keys.length+1-(intOf i).toNat)
  case atStart=>exact ⟨0,rfl,fun _=>Nat.zero_le _,fun j hj=>by omega,Below.refl _ _⟩
  case round =>
   obtain ⟨k,rfl,hk,HF,hbl⟩:=hrel
   have z0:wr.cell? ⟨w.heap.size,0,none⟩=some (.int .i64 x.kind):=(Xc hbl (by omega)).trans HX.out.1
   have z3:wr.cell? ⟨w.heap.size,3,none⟩=some (.slice a1 x.keys.length c1):=(Xc hbl (by omega)).trans HX.out.2.1
   have z1:wr.cell? ⟨w.heap.size+1,1,none⟩=some (.string ky):=(Xc hbl (by omega)).trans HX.out.2.2
   have HB2:Hid (Below w.heap.size w wr):=HBA.out.trans (hbl.mono (by omega))
   by_cases e6:x.kind=6
   ·have hk6:=hk e6
    by_cases hlt:k<x.keys.length
    ·obtain ⟨b,o,rfl,hbB,hc⟩:=HKC.out (by omega)
     have hck:wr.cell? ⟨b,o+k,none⟩=some (.string (Xh x.keys k)):=(Xc hbl (by omega)).trans ((Xc HBA.out (by omega)).trans (hc k hlt))
     clear hc hk
     by_cases he:(Xh x.keys k).toList=ky.toList
     ·have HR:Hid (Jt (Q8 x ⟨true,ky,pl⟩)=(k:Int)):=by
       obtain ⟨g1,g2⟩:=Xjw (H6.out e6).1 hlt he HF.out
       unfold Hid Q8 G8
       simp[e6,g1,g2,Jt]
      have hz:((Xh x.keys k).toList==ky.toList)=true:=by simp[he]
      go_wp2_with fail
      go_quiet (fail)
      go_wp2_with fail
      go_ret
      exact ⟨Yp HR.out.symm,below_drewN HB2.out nq⟩
     ·have HF2:Hid (∀j,j<k+1→(Xh x.keys j).toList≠ky.toList):=fun j hj=>by
       by_cases e:j=k
       ·subst e;exact he
       ·exact HF.out j (by omega)
      have hz:((Xh x.keys k).toList==ky.toList)=false:=by simpa using he
      go_wp2_with fail
      go_quiet (fail)
      go_wp2_with fail
      go_roundw
      case rel=>exact ⟨k+1,by go_num,fun _=>by omega,HF2,below_drewN hbl nq⟩
      case measure=>simp[intOf];omega
    ·obtain rfl:k=x.keys.length:=by omega
     have HR:Hid (Jt (Q8 x ⟨true,ky,pl⟩)= -1):=by unfold Hid Q8 G8;simp[Xl8 HF.out,Jt]
     have hlt':¬((x.keys.length:Int)<(x.keys.length:Int)):=by omega
     go_wp2_with fail
     go_ret
     exact ⟨Yp HR.out.symm,HB2.out⟩
   ·have HR:Hid (Jt (Q8 x ⟨true,ky,pl⟩)= -1):=by unfold Hid Q8 G8;simp[e6,Jt]
    have e6':(x.kind==6)=false:=by simpa using e6
    go_wp2_with fail
    go_ret
    exact ⟨Yp HR.out.symm,HB2.out⟩
end Go.Proofs.YtdjddneidbddpaaGreatDoor
