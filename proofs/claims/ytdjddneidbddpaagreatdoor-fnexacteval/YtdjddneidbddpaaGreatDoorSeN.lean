import Derived.Test.YtdjddneidbddpaaGreatDoorSeM
import Derived.Test.YtdjddneidbddpaaGreatDoorSMin
import Derived.Test.YtdjddneidbddpaaGreatDoorSLf
namespace Go.Proofs.YtdjddneidbddpaaGreatDoor
set_option linter.unusedSectionVars false
set_option maxHeartbeats 3200000
open Go.RowKit
set_option linter.unusedSimpArgs false
set_option linter.unusedVariables false
set_option maxRecDepth 100000 in
theorem Zc {B E:Nat} {fv:Value} {fs:List FN} {fu:Nat} {c:Int} {w:World} (a:Option Addr) (n cp:Nat) (h:SE B E fv fs fu c w):
  Calls Tryz.prog 73 #[.pointer (some ⟨E,0,none⟩), .slice a n cp] w fun e w'=>e= .returned (.tuple #[])∧SE B E fv fs fu (Y6 c n) w'∧ButE E w w':=by
 have H:=Xa h
 have HSET:=Xa (h.set 3)
 obtain ⟨_,_,c2,_,f2⟩:=h.cells
 clear h
 by_cases hn:40<n
 ·have hn':(40:Int)<(n:Int):=by omega
  by_cases hc:c=0
  ·have HM:Hid (Y6 c n=3):=by unfold Hid Y6;rw[if_pos ⟨hc,hn⟩]
   subst hc
   go_enter Tryz.func73,Tryz.ntmps73
   go_wp2_with fail
   go_end0
   exact ⟨rfl,by rw[HM.out];exact HSET.out.1,HSET.out.2⟩
  ·have HM:Hid (Y6 c n=c):=Xbt hc
   go_enter Tryz.func73,Tryz.ntmps73
   go_wp2_with fail
   go_end0
   exact ⟨rfl,by rw[HM.out];exact H.out, .refl _ _⟩
 ·have hn':¬(40:Int)<(n:Int):=by omega
  have HM:Hid (Y6 c n=c):=W8 (by omega)
  clear hn
  go_enter Tryz.func73,Tryz.ntmps73
  go_wp2_with fail
  go_end0
  exact ⟨rfl,by rw[HM.out];exact H.out, .refl _ _⟩
def Q3 (B E:Nat) (fv:Value) (fs:List FN) (c:Int) (m:List (List VN)) (fu:Nat) (w:World) (e:Ending) (w':World):Prop:=
 ∃sv xs,e= .returned sv∧SE B E fv fs fu c w'∧ButE E w w'∧LR E w.heap.size w' sv xs m
theorem X36 {E base:Nat} {w:World} {v:Value} {vs:List VN} (h:NR E w v vs) (hE:E<base) (hb:base≤w.heap.size):LR E base (w.alloc (.cells #[v] 25)) (.slice (some ⟨w.heap.size,0,none⟩) 1 1) [v] [vs]:=by
 refine ⟨?_,hE,fun j hj=> ?_⟩
 ·exact World.ownsRow_lit (base:=base) (e:=25) (size:=1) w #[v] 1 hb (by simp[maxLen]) rfl
 ·obtain rfl:j=0:=by simpa using hj
  exact (NR.keep h (Below.keepN ((Below.refl _ _).alloc (Nat.le_refl _) _)))
set_option maxRecDepth 100000 in
theorem Kh {B E:Nat} {fv:Value} {fs:List FN} {fu:Nat} {w:World} {v:Value} {vs:List VN} (h:SE B E fv fs fu 0 w) (hv:NR E w v vs):
  Calls Tryz.prog 70 #[.pointer (some ⟨E,0,none⟩),v, .int .i64 0] w (Q3 B E fv fs 0 [vs] fu w):=by
 have H:=Xa h
 have HR:=Xa (X36 hv h.lt (Nat.le_refl _))
 obtain ⟨a,c,rfl⟩:=hv.slice
 clear hv h
 obtain ⟨M,hM⟩:∃M,vs.length=M:=⟨_,rfl⟩
 rw[hM] at HR⊢
 clear hM
 go_enter Tryz.func70,Tryz.ntmps70
 go_wp2_with fail
 go_ret
 exact ⟨_,_,rfl,H.out.below ((Below.refl _ _).alloc (Nat.le_refl _) _), .of_below ((Below.refl _ _).alloc (Nat.le_refl _) _),HR.out⟩
set_option maxRecDepth 100000 in
theorem Xjx {B E:Nat} {fv:Value} {fs:List FN} {fu:Nat} {w:World} {c:Int} (a:Option Addr) (n cp:Nat) (h:SE B E fv fs fu 0 w) (hc:c≠0):
  Calls Tryz.prog 70 #[.pointer (some ⟨E,0,none⟩), .slice a n cp, .int .i64 c] w (Q3 B E fv fs c [] fu w):=by
 have HSET:=Xa (h.set c)
 have HL:Hid (E<w.heap.size):=h.lt
 obtain ⟨_,_,c2,_,f2⟩:=h.cells
 clear h
 go_enter Tryz.func70,Tryz.ntmps70
 go_wp2_with fail
 go_ret
 exact ⟨_,_,rfl,HSET.out.1,HSET.out.2,LR.nil HL.out⟩
theorem Xab {B E:Nat} {fv:Value} {fs:List FN} {fu:Nat} {w:World} {v:Value} {r:Int×List VN} (h:SE B E fv fs fu 0 w) (hs:∃a n c,v= .slice a n c) (hv:r.1=0→NR E w v r.2):
  Calls Tryz.prog 70 #[.pointer (some ⟨E,0,none⟩),v, .int .i64 r.1] w (Q3 B E fv fs r.1 (Y0 r) fu w):=by
 by_cases e:r.1=0
 ·have e2:Y0 r= [r.2]:=by unfold Y0;rw[if_pos e]
  rw[e2]
  have:=Kh h (hv e)
  rw[e]
  exact this
 ·obtain ⟨a,n,c,rfl⟩:=hs
  have e2:Y0 r= []:=by unfold Y0;rw[if_neg e]
  rw[e2]
  exact Xjx a n c h e
set_option maxRecDepth 100000 in
theorem Xvw (B:Nat) (v:Value) (ns:List VN) (w:World) (h:NodesAt B w v ns) (hB:B≤w.heap.size) (ok:okB ns=true):
  Calls Tryz.prog 77 #[v] w fun e w'=>e= .returned (.bool (Xx ns))∧Below w.heap.size w w':=by
 obtain ⟨p1a,p1b⟩:=(Xp ok).1
 obtain ⟨b1,o1,c1,aK1,nK1,cK1,aI1,nI1,cI1,rfl,hb1,u1,u2,d0,d1,d2,d3,d4⟩:=Jf h (by omega)
 clear u1 u2 h
 obtain ⟨kx,hkx⟩:∃k,(Xd ns).kind=k:=⟨_,rfl⟩
 obtain ⟨nx,hnx⟩:∃k,(Xd ns).n=k:=⟨_,rfl⟩
 obtain ⟨sx,hsx⟩:∃k,(Xd ns).s=k:=⟨_,rfl⟩
 have HT:Hid (Xx ns=(!(decide (kx=1))&&(!(decide (kx=2))||decide (nx=1)))):=by unfold Hid Xx;rw[hkx,hnx]
 rw[hkx] at d0
 rw[hnx] at d1
 rw[hsx] at d2
 obtain ⟨N1,hN1⟩:∃N1,ns.length=N1:=⟨_,rfl⟩
 rw[hN1] at p1a p1b d0 d1 d2 d3 d4⊢
 have z1:((N1:Int)-1).toNat=N1-1:=by omega
 have HB1:Hid (Below w.heap.size w (w.alloc (.cells #[.int .i64 kx, .int .i64 nx, .string sx, .slice aK1 nK1 cK1, .slice aI1 nI1 cI1] 75))):=(Below.refl _ _).alloc (Nat.le_refl _) _
 clear hkx hnx hsx hN1 ok
 by_cases k1:kx=1
 ·subst k1
  go_enter Tryz.func77,Tryz.ntmps77
  go_wp2_with fail
  go_ret
  exact ⟨by rw[HT.out];rfl,HB1.out⟩
 ·by_cases k2:kx=2
  ·subst k2
   by_cases n1:nx=1
   ·subst n1
    go_enter Tryz.func77,Tryz.ntmps77
    go_wp2_with fail
    go_ret
    exact ⟨by rw[HT.out];rfl,HB1.out⟩
   ·have n2:(nx==1)=false:=by simpa using n1
    have HN:Hid (nx≠1):=n1
    clear n1
    go_enter Tryz.func77,Tryz.ntmps77
    go_wp2_with fail
    go_ret
    exact ⟨by rw[HT.out];simp[HN.out],HB1.out⟩
  ·have q1:(kx !=1)=true:=by simpa using k1
   have q2:(kx !=2)=true:=by simpa using k2
   have q3:(kx==1)=false:=by simpa using k1
   have q4:(kx==2)=false:=by simpa using k2
   have HK:Hid (kx≠1∧kx≠2):=⟨k1,k2⟩
   clear k1 k2
   go_enter Tryz.func77,Tryz.ntmps77
   go_wp2_with fail
   go_ret
   exact ⟨by rw[HT.out];simp[HK.out.1,HK.out.2],HB1.out⟩
end Go.Proofs.YtdjddneidbddpaaGreatDoor
