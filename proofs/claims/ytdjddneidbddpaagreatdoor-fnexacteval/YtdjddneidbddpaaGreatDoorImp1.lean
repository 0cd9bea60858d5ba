import Derived.Test.YtdjddneidbddpaaGreatDoorSpc3
import Derived.Deep.Light
namespace Go.Proofs.YtdjddneidbddpaaGreatDoor
set_option linter.unusedSectionVars false
set_option maxHeartbeats 3200000
open Go.RowKit
set_option linter.unusedSimpArgs false
set_option linter.unusedVariables false
theorem Uo (s:ByteArray) (w:World) (hs:s.size<=140737488355328):
  Calls Tryz.prog 84 #[.string s] w fun e w'=>e= .returned (.bool (Z4 s))/\w'=w:=by
 by_cases h60:60<s.size
 ·have H:Hid (Z4 s=false):=by unfold Z4 Hid;simp;omega
  have d:(60:Int)<(s.size:Int):=by omega
  go_enter Tryz.func84,Tryz.ntmps84
  go_wp2
  go_ret
  exact ⟨Xi H.out.symm,rfl⟩
 have d:¬(60:Int)<(s.size:Int):=by omega
 go_enter Tryz.func84,Tryz.ntmps84
 go_wp2
 go_loop [9] (fun i=>∃k:Nat,k<=s.size/\i= .int .i64 k/\low s k) (fun i=>s.size-(intOf i).toNat)
 case atStart=>exact ⟨0,Nat.zero_le _,rfl,fun j _ h=>by omega⟩
 case round=>
  obtain ⟨k,f,rfl,b⟩:=hrel
  by_cases hlt:k<s.size
  ·by_cases hc:s[k].toNat<=127
   ·have H:Hid (low s (k+1)):=Xnl hlt b hc
    have c:¬(127:Int)<(s[k].toNat:Int):=by omega
    go_wp2
    go_round
    case rel=>exact ⟨k+1,by omega,by go_num,H.out⟩
    case measure=>simp[intOf];omega
   ·have c:(127:Int)<(s[k].toNat:Int):=by omega
    have H:Hid (Z4 s=false):=Xig hlt (by omega)
    go_wp2
    go_ret
    exact ⟨Xi H.out.symm,rfl⟩
  ·obtain rfl:k=s.size:=by omega
   have H:Hid (Z4 s=decide (s.size<=60)):=Xey b
   go_wp2
   go_ret
   exact ⟨Xi (by rw[H.out];simp;omega),rfl⟩
theorem Xel (B:Nat) (v:Value) (l:List ByteArray) (w:World) (h:StrsAt B w v l):
  Calls Tryz.prog 85 #[v] w fun e w'=>e= .returned (.bool (Qs l))/\w'=w:=by
 obtain ⟨t,q,L,c1,rfl,d⟩:=h
 go_enter Tryz.func85,Tryz.ntmps85
 go_wp2_with fail
 go_loopw [7] (fun i wr=>∃k:Nat,k<=l.length/\i= .int .i64 k/\(∀j,j<k->Qd l j=true)/\wr=w) (fun i _=>l.length-(intOf i).toNat)
 case atStart=>exact ⟨0,Nat.zero_le _,rfl,fun j hj=>by omega,rfl⟩
 case round =>
  obtain ⟨k,y,rfl,c,rfl⟩:=hrel
  by_cases hlt:k<l.length
  ·obtain ⟨b,o,rfl,z,g⟩:=d (by omega)
   have C:=g k hlt
   have p:=q k hlt
   by_cases ht:Z4 (Xf l k)=true
   ·by_cases h0:k=0
    ·have f:Hid (∀j,j<k+1->Qd l j=true):=fun j hj=>by
      obtain rfl:j=k:=by omega
      simp only[Qd,ht,h0,decide_true,Bool.true_or,Bool.and_true]
      rw[h0] at ht
      exact ht
     have D:¬(0:Int)<(k:Int):=by omega
     have M:=Xa h0
     clear c g d h0
     go_wp2_with fail
     refine (Uo _ _ p).mono ?_
     rintro e s ⟨rfl,rfl⟩
     go_wp2_with fail
     go_roundw
     case rel=>exact ⟨k+1,by omega,by go_num,f.out,by trivial⟩
     case measure=>simp[intOf];omega
    ·have F:=g (k-1) (by omega)
     have D:(0:Int)<(k:Int):=by omega
     have P:((k:Int)-1).toNat=k-1:=by omega
     by_cases hl:Op.bytesLess (Xf l (k-1)).toList (Xf l k).toList=true
     ·have f:Hid (∀j,j<k+1->Qd l j=true):=fun j hj=>by
       by_cases e:j=k
       ·subst e;simp[Qd,ht,Y2,hl]
       ·exact c j (by omega)
      clear c g d
      go_wp2_with fail
      refine (Uo _ _ p).mono ?_
      rintro e s ⟨rfl,rfl⟩
      go_wp2_with fail
      go_roundw
      case rel=>exact ⟨k+1,by omega,by go_num,f.out,by trivial⟩
      case measure=>simp[intOf];omega
     ·have f:Hid (Qs l=false):=Wx hlt (by simp[Qd,ht,Y2,hl];omega)
      have G:Op.bytesLess (Xf l (k-1)).toList (Xf l k).toList=false:=by simpa using hl
      clear c g d hl
      go_wp2_with fail
      refine (Uo _ _ p).mono ?_
      rintro e s ⟨rfl,rfl⟩
      go_wp2_with fail
      go_ret
      exact ⟨Xi f.out.symm,rfl⟩
   ·have f:Hid (Qs l=false):=Wx hlt (by simp[Qd,ht])
    have J:Z4 (Xf l k)=false:=by simpa using ht
    clear c g d ht
    go_wp2_with fail
    refine (Uo _ _ p).mono ?_
    rintro e s ⟨rfl,rfl⟩
    go_wp2_with fail
    go_ret
    exact ⟨Xi f.out.symm,rfl⟩
  ·obtain rfl:k=l.length:=by omega
   have f:Hid (Qs l=true):=Xid c
   clear c d
   go_wp2_with fail
   go_ret
   exact ⟨Xi f.out.symm,rfl⟩
theorem Xb4 (B:Nat) (x:VN) (ka ki:Value) (w:World) (h:NodeIn B w x ka ki):
  Calls Tryz.prog 38 #[.agg #[.int .i64 x.kind, .int .i64 x.n, .string x.s,ka,ki]] w fun e w'=>e= .returned (.bool (Yr x))/\Below w.heap.size w w':=by
 obtain ⟨_,_,d,c1,b,_⟩:=h.keys
 obtain ⟨_,_,f,g,c,_⟩:=h.kids
 subst b c
 clear h
 go_enter Tryz.func38,Tryz.ntmps38
 go_wp2_with fail
 all_goals
  go_ret
  refine ⟨Xi ?_,(Below.refl _ _).alloc (Nat.le_refl _) _⟩
  go_light
  simp_all [Yr]
theorem Xgk (B:Nat) (x:VN) (ka ki:Value) (w:World) (h:NodeIn B w x ka ki) (hB:B<=w.heap.size):
  Calls Tryz.prog 39 #[.agg #[.int .i64 x.kind, .int .i64 x.n, .string x.s,ka,ki]] w fun e w'=>e= .returned (.bool (Zi x))/\Below w.heap.size w w':=by
 have c:=h.size
 have d:=Xa h.keys
 obtain ⟨_,_,l,c1,f,_⟩:=h.keys
 obtain ⟨_,_,p,q,j,_⟩:=h.kids
 subst f j
 clear h
 have b:∀o,Below w.heap.size w (w.alloc o):=fun o=>(Below.refl _ _).alloc (Nat.le_refl _) o
 go_enter Tryz.func39,Tryz.ntmps39
 go_wp2_with (first
  |(go_at_call 84;refine (Uo _ _ c).mono ?_;rintro e w' ⟨rfl,rfl⟩)
  |(go_at_call 85;refine (Xel B _ x.keys _ (d.out.below ((b _).mono hB))).mono ?_;rintro e w' ⟨rfl,rfl⟩))
 all_goals
  go_ret
  refine ⟨Xi ?_,b _⟩
  go_light
  simp_all [Zi]<;>first|omega|(intro _;omega)|(intro g;exfalso;omega)|(rw[Bool.eq_iff_iff];simp;omega)
end Go.Proofs.YtdjddneidbddpaaGreatDoor
