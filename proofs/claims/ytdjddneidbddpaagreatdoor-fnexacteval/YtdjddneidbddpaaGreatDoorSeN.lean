import Derived.Test.YtdjddneidbddpaaGreatDoorSeM
import Derived.Test.YtdjddneidbddpaaGreatDoorSeQ
import Derived.Test.YtdjddneidbddpaaGreatDoorSeF
import Derived.Test.YtdjddneidbddpaaGreatDoorSLf
namespace Go.Proofs.YtdjddneidbddpaaGreatDoor
set_option linter.unusedSectionVars false
set_option maxRecDepth 100000
set_option maxHeartbeats 3200000
open Go.RowKit
set_option linter.unusedSimpArgs false
set_option linter.unusedVariables false
theorem Zr {B E:Nat} {fv:Value} {fs:List FN} {fu:Nat} {c:Int} {w:World} (a:Option Addr) (n cp:Nat) (h:SE B E fv fs fu c w):
  Calls Tryz.prog 73 #[.pointer (some ⟨E,0,none⟩), .slice a n cp] w fun e w'=>e= .returned (.tuple #[])/\SE B E fv fs fu (Zj c n) w'/\ButE E w w':=by
 have H:=Xa h
 have b:=Xa (h.set 3)
 obtain ⟨_,_,g,_,j⟩:=h.cells
 clear h
 by_cases hn:40<n
 ·have f:(40:Int)<(n:Int):=by omega
  by_cases hc:c=0
  ·have d:Hid (Zj c n=3):=by unfold Hid Zj;rw[if_pos ⟨hc,hn⟩]
   subst hc
   go_enter Tryz.func73,Tryz.ntmps73
   go_wp2_with fail
   go_end0
   exact ⟨rfl,by rw[d.out];exact b.out.1,b.out.2⟩
  ·have d:Hid (Zj c n=c):=Xbd hc
   go_enter Tryz.func73,Tryz.ntmps73
   go_wp2_with fail
   go_end0
   exact ⟨rfl,by rw[d.out];exact H.out, .refl _ _⟩
 ·have f:¬(40:Int)<(n:Int):=by omega
  have d:Hid (Zj c n=c):=Wq (by omega)
  clear hn
  go_enter Tryz.func73,Tryz.ntmps73
  go_wp2_with fail
  go_end0
  exact ⟨rfl,by rw[d.out];exact H.out, .refl _ _⟩
def Qv (B E:Nat) (fv:Value) (fs:List FN) (c:Int) (m:List (List VN)) (fu:Nat) (w:World) (e:Ending) (w':World):Prop:=
 ∃sv xs,e= .returned sv/\SE B E fv fs fu c w'/\ButE E w w'/\LR E w.heap.size w' sv xs m
theorem X3w {E base:Nat} {w:World} {v:Value} {vs:List VN} (h:NR E w v vs) (hE:E<base) (hb:base<=w.heap.size):LR E base (w.alloc (.cells #[v] 25)) (.slice (some ⟨w.heap.size,0,none⟩) 1 1) [v] [vs]:=by
 refine ⟨?_,hE,fun j hj=> ?_⟩
 ·exact World.ownsRow_lit (base:=base) (e:=25) (size:=1) w #[v] 1 hb (by simp[maxLen]) rfl
 ·obtain rfl:j=0:=by simpa using hj
  exact (NR.keep h (Below.keepN ((Below.refl _ _).alloc (Nat.le_refl _) _)))
theorem J9 {B E:Nat} {fv:Value} {fs:List FN} {fu:Nat} {w:World} {v:Value} {vs:List VN} (h:SE B E fv fs fu 0 w) (hv:NR E w v vs):
  Calls Tryz.prog 70 #[.pointer (some ⟨E,0,none⟩),v, .int .i64 0] w (Qv B E fv fs 0 [vs] fu w):=by
 have H:=Xa h
 have b:=Xa (X3w hv h.lt (Nat.le_refl _))
 obtain ⟨a,c,rfl⟩:=hv.slice
 clear hv h
 obtain ⟨M,d⟩:∃M,vs.length=M:=⟨_,rfl⟩
 rw[d] at b|-
 clear d
 go_enter Tryz.func70,Tryz.ntmps70
 go_wp2_with fail
 go_ret
 exact ⟨_,_,rfl,H.out.below ((Below.refl _ _).alloc (Nat.le_refl _) _), .of_below ((Below.refl _ _).alloc (Nat.le_refl _) _),b.out⟩
theorem Xjf {B E:Nat} {fv:Value} {fs:List FN} {fu:Nat} {w:World} {c:Int} (a:Option Addr) (n cp:Nat) (h:SE B E fv fs fu 0 w) (hc:c≠0):
  Calls Tryz.prog 70 #[.pointer (some ⟨E,0,none⟩), .slice a n cp, .int .i64 c] w (Qv B E fv fs c [] fu w):=by
 have b:=Xa (h.set c)
 have d:Hid (E<w.heap.size):=h.lt
 obtain ⟨_,_,f,_,g⟩:=h.cells
 clear h
 go_enter Tryz.func70,Tryz.ntmps70
 go_wp2_with fail
 go_ret
 exact ⟨_,_,rfl,b.out.1,b.out.2,LR.nil d.out⟩
theorem Xbf {B E:Nat} {fv:Value} {fs:List FN} {fu:Nat} {w:World} {v:Value} {r:Int×List VN} (h:SE B E fv fs fu 0 w) (hs:∃a n c,v= .slice a n c) (hv:r.1=0->NR E w v r.2):
  Calls Tryz.prog 70 #[.pointer (some ⟨E,0,none⟩),v, .int .i64 r.1] w (Qv B E fv fs r.1 (Zd r) fu w):=by
 by_cases e:r.1=0
 ·have b:Zd r= [r.2]:=by unfold Zd;rw[if_pos e]
  rw[b]
  have:=J9 h (hv e)
  rw[e]
  exact this
 ·obtain ⟨a,n,c,rfl⟩:=hs
  have b:Zd r= []:=by unfold Zd;rw[if_neg e]
  rw[b]
  exact Xjf a n c h e
theorem Xve (B:Nat) (v:Value) (ns:List VN) (w:World) (h:NodesAt B w v ns) (hB:B<=w.heap.size) (ok:okB ns=true):
  Calls Tryz.prog 77 #[v] w fun e w'=>e= .returned (.bool (Xu ns))/\Below w.heap.size w w':=by
 obtain ⟨q,t⟩:=(Xm ok).1
 obtain ⟨b1,o1,c1,y,z,C,D,F,G,rfl,R,S,T,J,L,M,V,X⟩:=Q4 h (by omega)
 clear S T h
 obtain ⟨b,d⟩:∃k,(Xd ns).kind=k:=⟨_,rfl⟩
 obtain ⟨g,f⟩:∃k,(Xd ns).n=k:=⟨_,rfl⟩
 obtain ⟨Y,j⟩:∃k,(Xd ns).s=k:=⟨_,rfl⟩
 have o:Hid (Xu ns=(!(decide (b=1))&&(!(decide (b=2))||decide (g=1)))):=by unfold Hid Xu;rw[d,f]
 rw[d] at J
 rw[f] at L
 rw[j] at M
 obtain ⟨p,l⟩:∃p,ns.length=p:=⟨_,rfl⟩
 rw[l] at q t J L M V X|-
 have z1:((p:Int)-1).toNat=p-1:=by omega
 have c:Hid (Below w.heap.size w (w.alloc (.cells #[.int .i64 b, .int .i64 g, .string Y, .slice y z C, .slice D F G] 75))):=(Below.refl _ _).alloc (Nat.le_refl _) _
 clear d f j l ok
 by_cases k1:b=1
 ·subst k1
  go_enter Tryz.func77,Tryz.ntmps77
  go_wp2_with fail
  go_ret
  exact ⟨by rw[o.out];rfl,c.out⟩
 ·by_cases k2:b=2
  ·subst k2
   by_cases n1:g=1
   ·subst n1
    go_enter Tryz.func77,Tryz.ntmps77
    go_wp2_with fail
    go_ret
    exact ⟨by rw[o.out];rfl,c.out⟩
   ·have n2:(g==1)=false:=by simpa using n1
    have Z:Hid (g≠1):=n1
    clear n1
    go_enter Tryz.func77,Tryz.ntmps77
    go_wp2_with fail
    go_ret
    exact ⟨by rw[o.out];simp[Z.out],c.out⟩
  ·have q1:(b !=1)=true:=by simpa using k1
   have q2:(b !=2)=true:=by simpa using k2
   have q3:(b==1)=false:=by simpa using k1
   have q4:(b==2)=false:=by simpa using k2
   have P:Hid (b≠1/\b≠2):=⟨k1,k2⟩
   clear k1 k2
   go_enter Tryz.func77,Tryz.ntmps77
   go_wp2_with fail
   go_ret
   exact ⟨by rw[o.out];simp[P.out.1,P.out.2],c.out⟩
end Go.Proofs.YtdjddneidbddpaaGreatDoor
