import Derived.Test.YtdjddneidbddpaaGreatDoorCmp
import Derived.Test.YtdjddneidbddpaaGreatDoorEqS2
import Derived.Deep.QuietTactic
import Derived.BigQuiet
import Derived.WalkSmall
import Derived.Deep.RegionWith
import Derived.Test.YtdjddneidbddpaaGreatDoorPsZ
import Derived.Test.YtdjddneidbddpaaGreatDoorTo
import Derived.Test.YtdjddneidbddpaaGreatDoorSSort
import Derived.Test.YtdjddneidbddpaaGreatDoorByP
import Derived.Test.YtdjddneidbddpaaGreatDoorLowN
namespace Go.Proofs.YtdjddneidbddpaaGreatDoor
set_option linter.unusedSectionVars false
set_option maxHeartbeats 8000000
open Go.RowKit
set_option linter.unusedSimpArgs false
set_option linter.unusedVariables false
theorem K5 {l:List ByteArray} {j:Nat} (h:j<l.length):Xh l j=l[j]:=by simp[Xh,h]
theorem Xfs {l m:List ByteArray} {k:Nat} (h1:k<l.length) (h2:k<m.length):Yh (l.drop k) (m.drop k)=if Y2 (Xh l k) (Xh m k)≠0 then Y2 (Xh l k) (Xh m k) else Yh (l.drop (k+1)) (m.drop (k+1)):=by
 rw[List.drop_eq_getElem_cons h1,List.drop_eq_getElem_cons h2,Yh,K5 h1,K5 h2]
theorem Xft {l m:List ByteArray} {k:Nat} (h1:k<l.length) (h2:m.length≤k):Yh (l.drop k) (m.drop k)=1:=by
 rw[List.drop_eq_getElem_cons h1,List.drop_of_length_le h2,Yh]
theorem Xfu {l m:List ByteArray} {k:Nat} (h1:l.length≤k) (h2:k<m.length):Yh (l.drop k) (m.drop k)= -1:=by
 rw[List.drop_of_length_le h1,List.drop_eq_getElem_cons h2,Yh]
theorem Xg9 {l m:List ByteArray} {k:Nat} (h1:l.length≤k) (h2:m.length≤k):Yh (l.drop k) (m.drop k)=0:=by
 rw[List.drop_of_length_le h1,List.drop_of_length_le h2,Yh]
def Yk (R:Int→Int→Int):List Int→List Int→Int
 | [],[]=>0
 | [],_::_=> -1
 |_::_,[]=>1
 |a::l,b::m=>if R a b≠0 then R a b else Yk R l m
theorem Xfv {R:Int→Int→Int} {l m:List Int} {k:Nat} (h1:k<l.length) (h2:k<m.length):Yk R (l.drop k) (m.drop k)=if R (Xm l k) (Xm m k)≠0 then R (Xm l k) (Xm m k) else Yk R (l.drop (k+1)) (m.drop (k+1)):=by
 rw[List.drop_eq_getElem_cons h1,List.drop_eq_getElem_cons h2,Yk,Zd h1,Zd h2]
theorem Xfw {R:Int→Int→Int} {l m:List Int} {k:Nat} (h1:k<l.length) (h2:m.length≤k):Yk R (l.drop k) (m.drop k)=1:=by
 rw[List.drop_eq_getElem_cons h1,List.drop_of_length_le h2,Yk]
theorem Xfx {R:Int→Int→Int} {l m:List Int} {k:Nat} (h1:l.length≤k) (h2:k<m.length):Yk R (l.drop k) (m.drop k)= -1:=by
 rw[List.drop_of_length_le h1,List.drop_eq_getElem_cons h2,Yk]
theorem Xha {R:Int→Int→Int} {l m:List Int} {k:Nat} (h1:l.length≤k) (h2:m.length≤k):Yk R (l.drop k) (m.drop k)=0:=by
 rw[List.drop_of_length_le h1,List.drop_of_length_le h2,Yk]
theorem Xmn {R:Int→Int→Int} (hR:∀a b,-1≤R a b∧R a b≤1):∀l m,-1≤Yk R l m∧Yk R l m≤1:=by
 intro l
 induction l with
 |nil=>intro m;cases m<;>simp[Yk]
 | cons a l ih =>
  intro m
  cases m with
  |nil=>simp[Yk]
  | cons b m =>
   rw[Yk]
   split
   ·exact hR _ _
   ·exact ih m
def ord (us vs:List VN):Nat→Nat→Nat→Int
 |0,_,_=>0
 | f + 1, n, m =>
  if (Xb us n).kind≠(Xb vs m).kind then Y1 (Xb us n).kind (Xb vs m).kind
  else if (Xb us n).n≠(Xb vs m).n then Y1 (Xb us n).n (Xb vs m).n
  else if Y2 (Xb us n).s (Xb vs m).s≠0 then Y2 (Xb us n).s (Xb vs m).s
  else if Yh (Xb us n).keys (Xb vs m).keys≠0 then Yh (Xb us n).keys (Xb vs m).keys
  else Yk (fun a b=>ord us vs f a.toNat b.toNat) (Xb us n).kids (Xb vs m).kids
theorem Xxr (us vs:List VN):∀f n m,-1≤ord us vs f n m∧ord us vs f n m≤1:=by
 intro f
 induction f with
 |zero=>intro n m;simp[ord]
 | succ f ih =>
  intro n m
  rw[ord]
  split
  ·rcases Xd1 (Xb us n).kind (Xb vs m).kind with h|h|h<;>omega
  split
  ·rcases Xd1 (Xb us n).n (Xb vs m).n with h|h|h<;>omega
  split
  ·rcases U1 (Xb us n).s.toList (Xb vs m).s.toList with h|h|h<;>(unfold Y2;omega)
  split
  ·rcases Xmg (Xb us n).keys (Xb vs m).keys with h|h|h<;>omega
  ·exact Xmn (fun a b=>ih _ _) _ _
theorem Xgx (B:Nat) (v1 v2:Value) (l m:List ByteArray) (w:World) (h1:StrsAt B w v1 l) (h2:StrsAt B w v2 m):
  Calls Tryz.prog 205 #[v1,v2] w fun e w'=>e= .returned (.int .i64 (Yh l m))∧w'=w:=by
 obtain ⟨hl1,_,a1,c1,rfl,hc1⟩:=h1
 obtain ⟨hl2,_,a2,c2,rfl,hc2⟩:=h2
 have HC1:=Xa hc1
 have HC2:=Xa hc2
 clear hc1 hc2
 go_enter Tryz.func205,Tryz.ntmps205
 go_wp2_with fail
 go_loopw [11] (fun i wr=>∃k:Nat,k≤l.length∧i= .int .i64 k∧Hid (k≤m.length∧Yh (l.drop k) (m.drop k)=Yh l m)∧wr=w) (fun i _=>l.length-(intOf i).toNat)
 case atStart=>exact ⟨0,Nat.zero_le _,rfl,⟨Nat.zero_le _,by simp⟩,rfl⟩
 case round=>
  obtain ⟨k,hk,rfl,HE,rfl⟩:=hrel
  by_cases hlt:k<l.length
  ·obtain ⟨b1,o1,rfl,_,d1⟩:=HC1.out (by omega)
   have e1:=d1 k hlt
   clear d1
   by_cases hlm:k<m.length
   ·obtain ⟨b2,o2,rfl,_,d2⟩:=HC2.out (by omega)
    have e2:=d2 k hlm
    clear d2
    have hge:¬(m.length:Int)≤(k:Int):=by omega
    have HS:=Xa (Xfs hlt hlm)
    by_cases hz:Y2 (Xh l k) (Xh m k)=0
    ·have HZ:=Xa hz
     clear hz
     go_wp2_with fail
     refine (Xiq _ _ _).mono ?_
     rintro e w1 ⟨rfl,rfl⟩
     rw[HZ.out]
     go_wp2_with fail
     go_roundw
     case rel=>exact ⟨k+1,by omega,by go_num,⟨by omega,by rw[←HE.out.2,HS.out];simp[HZ.out]⟩,by trivial⟩
     case measure=>simp[intOf];omega
    ·have HZ:Hid (Yh l m=Y2 (Xh l k) (Xh m k)):=by rw[Hid,←HE.out.2,HS.out];simp[hz]
     have hne:(Y2 (Xh l k) (Xh m k) !=0)=true:=by simp[hz]
     clear hz
     go_wp2_with fail
     refine (Xiq _ _ _).mono ?_
     rintro e w1 ⟨rfl,rfl⟩
     go_wp2_with fail
     go_ret
     exact ⟨Yp HZ.out.symm,rfl⟩
   ·have HZ:Hid (Yh l m=1):=by rw[Hid,←HE.out.2,Xft hlt (by omega)]
    have hge:(m.length:Int)≤(k:Int):=by omega
    go_wp2_with fail
    go_ret
    exact ⟨Yp HZ.out.symm,rfl⟩
  ·obtain rfl:k=l.length:=by omega
   by_cases hlm:l.length<m.length
   ·have HZ:Hid (Yh l m= -1):=by rw[Hid,←HE.out.2,Xfu (Nat.le_refl _) hlm]
    go_wp2_with fail
    go_ret
    exact ⟨Yp HZ.out.symm,rfl⟩
   ·have HZ:Hid (Yh l m=0):=by rw[Hid,←HE.out.2,Xg9 (Nat.le_refl _) (by omega)]
    go_wp2_with fail
    go_ret
    exact ⟨Yp HZ.out.symm,rfl⟩

structure Two (B:Nat) (w:World) (v1 v2:Value) (us vs:List VN):Prop where
 n1:NodesAt B w v1 us
 n2:NodesAt B w v2 vs
 k1:∀k,k<us.length→X9 (Xb us k)=true∧Z8 us k=true
 k2:∀k,k<vs.length→X9 (Xb vs k)=true∧Z8 vs k=true
theorem Two.below {B:Nat} {w w':World} {v1 v2:Value} {us vs:List VN} (h:Two B w v1 v2 us vs) (hb:Below B w w'):Two B w' v1 v2 us vs:=⟨h.n1.below hb,h.n2.below hb,h.k1,h.k2⟩
theorem Xbi {x:VN} (h:X9 x=true) (hk:x.kind≠6):x.keys= []:=by
 unfold X9 Yv at h
 simp[hk] at h
 exact h.1.1.2
set_option maxRecDepth 100000 in
theorem Xry (B : Nat) (v1 v2 : Value) (us vs : List VN) : ∀ (f n m : Nat) (w : World), n < f → n < us.length → m < vs.length → Two B w v1 v2 us vs → B ≤ w.heap.size →
  Calls Tryz.prog 163 #[v1, .int .i64 n,v2, .int .i64 m] w fun e w'=>e= .returned (.int .i64 (ord us vs f n m))∧Below w.heap.size w w':=by
 intro f
 induction f with
 |zero=>intro n m w h;omega
 | succ f ih =>
  intro n m w hf hn hm h2 hB
  have H2:=Xa h2
  have IH:=Xa ih
  clear ih
  obtain ⟨hlen1,a1,cap1,rfl,hcell1⟩:=h2.n1
  obtain ⟨hlen2,a2,cap2,rfl,hcell2⟩:=h2.n2
  obtain ⟨b1,o1,rfl,hb1,hc1⟩:=hcell1 (by omega)
  obtain ⟨b2,o2,rfl,hb2,hc2⟩:=hcell2 (by omega)
  obtain ⟨ka,ki,hx⟩:=hc1 n hn
  obtain ⟨ka',ki',hy⟩:=hc2 m hm
  have c0:=hx.c0
  have c1:=hx.c1
  have c2:=hx.c2
  have c3:=hx.c3
  have c4:=hx.c4
  have d0:=hy.c0
  have d1:=hy.c1
  have d2:=hy.c2
  have d3:=hy.c3
  have d4:=hy.c4
  obtain ⟨lk,_,ak,ck,ek,hkk⟩:=hx.inn.keys
  obtain ⟨li,_,ai,ci,ei,hki⟩:=hx.inn.kids
  obtain ⟨lk',_,ak',ck',ek',hkk'⟩:=hy.inn.keys
  obtain ⟨li',_,ai',ci',ei',hki'⟩:=hy.inn.kids
  subst ek ei ek' ei'
  have HKK:=Xa hkk
  have HKI:=Xa hki
  have HKK':=Xa hkk'
  have HKI':=Xa hki'
  have HNX:=Xa (h2.k1 n hn)
  have HNY:=Xa (h2.k2 m hm)
  have HO:Hid (ord us vs (f+1) n m=_):=Xa (ord.eq_def us vs (f+1) n m)
  clear h2 hcell1 hcell2 hc1 hc2 hx hy hkk hki hkk' hki'
  have l1:b1<w.heap.size:=by omega
  have l2:b2<w.heap.size:=by omega
  by_cases e0:(Xb us n).kind=(Xb vs m).kind
  ·have q0 : ((Xb us n).kind != (Xb vs m).kind) = false := by simp [e0]
   have HE0:=Xa e0
   clear e0
   by_cases e1:(Xb us n).n=(Xb vs m).n
   ·have q1 : ((Xb us n).n != (Xb vs m).n) = false := by simp [e1]
    have HE1:=Xa e1
    clear e1
    by_cases e2:Y2 (Xb us n).s (Xb vs m).s=0
    ·have q2 := Xmx e2
     have HE2:=Xa e2
     have HR:Hid (ord us vs (f+1) n m=if Yh (Xb us n).keys (Xb vs m).keys≠0 then Yh (Xb us n).keys (Xb vs m).keys else Yk (fun a b=>ord us vs f a.toNat b.toNat) (Xb us n).kids (Xb vs m).kids):=by
      rw[Hid,ord,if_neg (by simp[HE0.out]),if_neg (by simp[HE1.out]),if_neg (by simp[HE2.out])]
     clear e2 HO
     have x0:((w.alloc (.cells #[.int .i64 (Xb us n).kind, .int .i64 (Xb us n).n, .string (Xb us n).s, .slice ak (Xb us n).keys.length ck, .slice ai (Xb us n).kids.length ci] 75)).alloc (.cells #[.int .i64 (Xb vs m).kind, .int .i64 (Xb vs m).n, .string (Xb vs m).s, .slice ak' (Xb vs m).keys.length ck', .slice ai' (Xb vs m).kids.length ci'] 75)).cell? ⟨w.heap.size,0,none⟩=some (.int .i64 (Xb us n).kind):=by simp
     have x3:((w.alloc (.cells #[.int .i64 (Xb us n).kind, .int .i64 (Xb us n).n, .string (Xb us n).s, .slice ak (Xb us n).keys.length ck, .slice ai (Xb us n).kids.length ci] 75)).alloc (.cells #[.int .i64 (Xb vs m).kind, .int .i64 (Xb vs m).n, .string (Xb vs m).s, .slice ak' (Xb vs m).keys.length ck', .slice ai' (Xb vs m).kids.length ci'] 75)).cell? ⟨w.heap.size,3,none⟩=some (.slice ak (Xb us n).keys.length ck):=by simp
     have x4:((w.alloc (.cells #[.int .i64 (Xb us n).kind, .int .i64 (Xb us n).n, .string (Xb us n).s, .slice ak (Xb us n).keys.length ck, .slice ai (Xb us n).kids.length ci] 75)).alloc (.cells #[.int .i64 (Xb vs m).kind, .int .i64 (Xb vs m).n, .string (Xb vs m).s, .slice ak' (Xb vs m).keys.length ck', .slice ai' (Xb vs m).kids.length ci'] 75)).cell? ⟨w.heap.size,4,none⟩=some (.slice ai (Xb us n).kids.length ci):=by simp
     have y3:((w.alloc (.cells #[.int .i64 (Xb us n).kind, .int .i64 (Xb us n).n, .string (Xb us n).s, .slice ak (Xb us n).keys.length ck, .slice ai (Xb us n).kids.length ci] 75)).alloc (.cells #[.int .i64 (Xb vs m).kind, .int .i64 (Xb vs m).n, .string (Xb vs m).s, .slice ak' (Xb vs m).keys.length ck', .slice ai' (Xb vs m).kids.length ci'] 75)).cell? ⟨w.heap.size+1,3,none⟩=some (.slice ak' (Xb vs m).keys.length ck'):=by simp
     have y4:((w.alloc (.cells #[.int .i64 (Xb us n).kind, .int .i64 (Xb us n).n, .string (Xb us n).s, .slice ak (Xb us n).keys.length ck, .slice ai (Xb us n).kids.length ci] 75)).alloc (.cells #[.int .i64 (Xb vs m).kind, .int .i64 (Xb vs m).n, .string (Xb vs m).s, .slice ak' (Xb vs m).keys.length ck', .slice ai' (Xb vs m).kids.length ci'] 75)).cell? ⟨w.heap.size+1,4,none⟩=some (.slice ai' (Xb vs m).kids.length ci'):=by simp
     have sb:((w.alloc (.cells #[.int .i64 (Xb us n).kind, .int .i64 (Xb us n).n, .string (Xb us n).s, .slice ak (Xb us n).keys.length ck, .slice ai (Xb us n).kids.length ci] 75)).alloc (.cells #[.int .i64 (Xb vs m).kind, .int .i64 (Xb vs m).n, .string (Xb vs m).s, .slice ak' (Xb vs m).keys.length ck', .slice ai' (Xb vs m).kids.length ci'] 75)).heap.size=w.heap.size+1+1:=by simp
     have bb:Below w.heap.size w ((w.alloc (.cells #[.int .i64 (Xb us n).kind, .int .i64 (Xb us n).n, .string (Xb us n).s, .slice ak (Xb us n).keys.length ck, .slice ai (Xb us n).kids.length ci] 75)).alloc (.cells #[.int .i64 (Xb vs m).kind, .int .i64 (Xb vs m).n, .string (Xb vs m).s, .slice ak' (Xb vs m).keys.length ck', .slice ai' (Xb vs m).kids.length ci'] 75)):=((Below.refl _ _).alloc (Nat.le_refl _) _).alloc (by simp) _
     have HX:=Xa (And.intro x0 (And.intro x3 (And.intro x4 (And.intro y3 y4))))
     have HSB:=Xa sb
     have HBB:=Xa bb
     clear x0 x3 x4 y3 y4 sb bb
     go_enter Tryz.func163,Tryz.ntmps163
     go_wp2_with fail
     generalize ((w.alloc (.cells #[.int .i64 (Xb us n).kind, .int .i64 (Xb us n).n, .string (Xb us n).s, .slice ak (Xb us n).keys.length ck, .slice ai (Xb us n).kids.length ci] 75)).alloc (.cells #[.int .i64 (Xb vs m).kind, .int .i64 (Xb vs m).n, .string (Xb vs m).s, .slice ak' (Xb vs m).keys.length ck', .slice ai' (Xb vs m).kids.length ci'] 75))=Wb at *
     have hs2:w.heap.size+1<Wb.heap.size:=by have:=HSB.out;omega
     have hwb:=HBB.out.size
     clear c0 c1 c2 c3 c4 d0 d1 d2 d3 d4 q0 q1 q2
     go_loopw [11] (fun i wr=>∃k:Nat,i= .int .i64 k∧k≤(Xb us n).keys.length∧k≤(Xb vs m).keys.length∧Hid (Yh ((Xb us n).keys.drop k) ((Xb vs m).keys.drop k)=Yh (Xb us n).keys (Xb vs m).keys)∧Below Wb.heap.size Wb wr) (fun i _=>(Xb us n).keys.length-(intOf i).toNat)
     case atStart=>exact ⟨0,rfl,Nat.zero_le _,Nat.zero_le _,by rw[Hid];simp,Below.refl _ _⟩
     case round =>
      obtain ⟨k,rfl,hk1,hk2,HE,hbw⟩:=hrel
      have x0:=(Xc (b:=w.heap.size) (o:=0) hbw (by omega)).trans HX.out.1
      have x3:=(Xc (b:=w.heap.size) (o:=3) hbw (by omega)).trans HX.out.2.1
      have x4:=(Xc (b:=w.heap.size) (o:=4) hbw (by omega)).trans HX.out.2.2.1
      have y3:=(Xc (b:=w.heap.size+1) (o:=3) hbw (by omega)).trans HX.out.2.2.2.1
      have y4:=(Xc (b:=w.heap.size+1) (o:=4) hbw (by omega)).trans HX.out.2.2.2.2
      have HBW:=Xa (HBB.out.trans (hbw.mono hwb))
      by_cases g1:k<(Xb us n).keys.length
      ·by_cases g2 : k < (Xb vs m).keys.length
       ·obtain ⟨p1, r1, rfl, hp1, hkk1⟩ := HKK.out (by omega)
        obtain ⟨p2,r2,rfl,hp2,hkk2⟩:=HKK'.out (by omega)
        have s1:wr.cell? ⟨p1,r1+k,none⟩=some (.string (Xh (Xb us n).keys k)):=(Xc (HBW.out) (by omega)).trans (hkk1 k g1)
        have s2:wr.cell? ⟨p2,r2+k,none⟩=some (.string (Xh (Xb vs m).keys k)):=(Xc (HBW.out) (by omega)).trans (hkk2 k g2)
        clear hkk1 hkk2
        have i1:(k:Int)<(((Xb us n).keys.length:Nat):Int):=by omega
        have i2:(k:Int)<(((Xb vs m).keys.length:Nat):Int):=by omega
        have HS:=Xa (Xfs g1 g2)
        by_cases hz:Y2 (Xh (Xb us n).keys k) (Xh (Xb vs m).keys k)=0
        ·have qz:=Xmx hz
               have HZ:=Xa hz
               clear hz
               go_wp2_with fail
               go_quiet (fail)
               go_wp2_with fail
               go_roundw
               case rel=>exact ⟨k+1,by go_num,by omega,by omega,by rw[Hid,←HE.out,HS.out];simp[HZ.out],below_drewN hbw nq⟩
               case measure=>simp[intOf];omega
        ·have qz:=Xmy hz
               have HR2:Hid (ord us vs (f+1) n m=Y2 (Xh (Xb us n).keys k) (Xh (Xb vs m).keys k)):=by
                have hc:Yh (Xb us n).keys (Xb vs m).keys=Y2 (Xh (Xb us n).keys k) (Xh (Xb vs m).keys k):=by rw[←HE.out,HS.out];simp[hz]
                rw[Hid,HR.out,hc,if_pos hz]
               clear hz
               go_wp2_with fail
               go_quiet (fail)
               go_wp2_with fail
               have t1:(wr.drewN nq).cell? ⟨p1,r1+k,none⟩=some (.string (Xh (Xb us n).keys k)):=s1
               have t2:(wr.drewN nq).cell? ⟨p2,r2+k,none⟩=some (.string (Xh (Xb vs m).keys k)):=s2
               have t3:(wr.drewN nq).cell? ⟨w.heap.size,3,none⟩=some (.slice (some ⟨p1,r1,none⟩) (Xb us n).keys.length ck):=x3
               have t4:(wr.drewN nq).cell? ⟨w.heap.size+1,3,none⟩=some (.slice (some ⟨p2,r2,none⟩) (Xb vs m).keys.length ck'):=y3
               have HW:=Xa (below_drewN hbw nq)
               clear s1 s2 x0 x3 x4 y3 y4
               generalize wr.drewN nq=wz at *
               go_quiet ((go_at_call 185;exact Calls.quiet_of_same (Xes _ _ _)))
               go_wp2_with fail
               go_ret
               exact ⟨Yp HR2.out.symm,HBB.out.trans ((below_drewN HW.out _).mono hwb)⟩
       ·have i1 : (k : Int) < (((Xb us n).keys.length : Nat) : Int) := by omega
        have i2:¬(k:Int)<(((Xb vs m).keys.length:Nat):Int):=by omega
        have hne:(Xb us n).keys.length≠(Xb vs m).keys.length:=by omega
        have hk6:(Xb us n).kind=6:=by
               by_cases e:(Xb us n).kind=6
               ·exact e
               ·have e1:=Xbi HNX.out.1 e
                have e2:=Xbi HNY.out.1 (by rw[←HE0.out];exact e)
                rw[e1,e2] at hne
                exact absurd rfl hne
        have hcI:Yh (Xb us n).keys (Xb vs m).keys=1:=by rw[←HE.out];exact Xft g1 (by omega)
        have HR2:Hid (ord us vs (f+1) n m=Y1 (((Xb us n).keys.length:Nat):Int) (((Xb vs m).keys.length:Nat):Int)):=by
               have hci:Y1 (((Xb us n).keys.length:Nat):Int) (((Xb vs m).keys.length:Nat):Int)=1:=by unfold Y1;split<;>(try split)<;>omega
               rw[Hid,HR.out,hcI,hci];rfl
        have qk:((Xb us n).kind==6)=true:=by simp[hk6]
        have ql:((((Xb us n).keys.length:Nat):Int) !=(((Xb vs m).keys.length:Nat):Int))=true:=by simp;omega
        clear hne hk6 hcI
        go_wp2_with fail
        refine (Uk _ _ _).mono ?_
        rintro e w1 ⟨rfl,rfl⟩
        go_wp2_with fail
        go_ret
        exact ⟨Yp HR2.out.symm,HBW.out⟩
      ·have i1 : ¬ (k : Int) < (((Xb us n).keys.length : Nat) : Int) := by omega
       by_cases g3:(Xb us n).keys.length<(Xb vs m).keys.length
       ·have hne:(Xb us n).keys.length≠(Xb vs m).keys.length:=by omega
        have hk6:(Xb us n).kind=6:=by
               by_cases e:(Xb us n).kind=6
               ·exact e
               ·have e1:=Xbi HNX.out.1 e
                have e2:=Xbi HNY.out.1 (by rw[←HE0.out];exact e)
                rw[e1,e2] at hne
                exact absurd rfl hne
        have hcI:Yh (Xb us n).keys (Xb vs m).keys= -1:=by rw[←HE.out];exact Xfu (by omega) (by omega)
        have HR2:Hid (ord us vs (f+1) n m=Y1 (((Xb us n).keys.length:Nat):Int) (((Xb vs m).keys.length:Nat):Int)):=by
               have hci:Y1 (((Xb us n).keys.length:Nat):Int) (((Xb vs m).keys.length:Nat):Int)= -1:=by unfold Y1;split<;>(try split)<;>omega
               rw[Hid,HR.out,hcI,hci];rfl
        have qk:((Xb us n).kind==6)=true:=by simp[hk6]
        have ql:((((Xb us n).keys.length:Nat):Int) !=(((Xb vs m).keys.length:Nat):Int))=true:=by simp;omega
        clear hne hk6 hcI
        go_wp2_with fail
        refine (Uk _ _ _).mono ?_
        rintro e w1 ⟨rfl,rfl⟩
        go_wp2_with fail
        go_ret
        exact ⟨Yp HR2.out.symm,HBW.out⟩
       ·have hc0 : Yh (Xb us n).keys (Xb vs m).keys = 0 := by rw [← HE.out]; exact Xg9 (by omega) (by omega)
        have HR2:Hid (ord us vs (f+1) n m=Yk (fun a b=>ord us vs f a.toNat b.toNat) (Xb us n).kids (Xb vs m).kids):=by
               rw[Hid,HR.out,hc0];simp
        have hleq:(Xb us n).keys.length=(Xb vs m).keys.length:=by omega
        have ql:((((Xb us n).keys.length:Nat):Int) !=(((Xb vs m).keys.length:Nat):Int))=false:=by simp[hleq]
        have HQ:=Xa hleq
        clear hc0 hleq
        obtain ⟨bq,qk⟩:∃bq,((Xb us n).kind==6)=bq:=⟨_,rfl⟩
        have HB3:=Xa hbw
        have HWZ:=Xa hbw.size
        cases bq
        all_goals
               go_wp2_with fail
               clear x0 x3 x4 y3 y4 qk ql
               obtain ⟨W3,rfl⟩:∃W3,W3=wr:=⟨_,rfl⟩
               go_loopw [12] (fun i wr=>∃c:Nat,i= .int .i64 c∧c≤(Xb us n).kids.length∧c≤(Xb vs m).kids.length∧Hid (Yk (fun a b=>ord us vs f a.toNat b.toNat) ((Xb us n).kids.drop c) ((Xb vs m).kids.drop c)=Yk (fun a b=>ord us vs f a.toNat b.toNat) (Xb us n).kids (Xb vs m).kids)∧Below Wb.heap.size Wb wr) (fun i _=>(Xb us n).kids.length-(intOf i).toNat)
               case atStart=>exact ⟨0,rfl,Nat.zero_le _,Nat.zero_le _,by rw[Hid];simp,HB3.out⟩
               case round =>
                obtain ⟨c,rfl,hc1,hc2,HE4,hbz⟩:=hrel
                have x4:=(Xc (b:=w.heap.size) (o:=4) hbz (by omega)).trans HX.out.2.2.1
                have y4:=(Xc (b:=w.heap.size+1) (o:=4) hbz (by omega)).trans HX.out.2.2.2.2
                have HBZ:=Xa (HBB.out.trans (hbz.mono hwb))
                have hzs:=hbz.size
                by_cases j1:c<(Xb us n).kids.length
                ·have m1:(c:Int)<(((Xb us n).kids.length:Nat):Int):=by omega
                 by_cases j2:c<(Xb vs m).kids.length
                 ·have m2:(c:Int)<(((Xb vs m).kids.length:Nat):Int):=by omega
                  obtain ⟨p1,r1,rfl,hp1,hki1⟩:=HKI.out (by omega)
                  obtain ⟨p2,r2,rfl,hp2,hki2⟩:=HKI'.out (by omega)
                  have kr1:=Zx HNX.out.2 j1
                  have kr2:=Zx HNY.out.2 j2
                  obtain ⟨qa,hqa⟩:∃qa:Nat,Xm (Xb us n).kids c=(qa:Int):=⟨(Xm (Xb us n).kids c).toNat,by omega⟩
                  obtain ⟨qb,hqb⟩:∃qb:Nat,Xm (Xb vs m).kids c=(qb:Int):=⟨(Xm (Xb vs m).kids c).toNat,by omega⟩
                  have hqan:qa<n:=by omega
                  have hqbm:qb<m:=by omega
                  have s1:wr.cell? ⟨p1,r1+c,none⟩=some (.int .i64 (qa:Int)):=by rw[←hqa];exact (Xc HBZ.out (by omega)).trans (hki1 c j1)
                  have s2:wr.cell? ⟨p2,r2+c,none⟩=some (.int .i64 (qb:Int)):=by rw[←hqb];exact (Xc HBZ.out (by omega)).trans (hki2 c j2)
                  have HS:=Xa (Xfv (R:=(fun a b=>ord us vs f a.toNat b.toNat)) j1 j2)
                  have HQA:=Xa hqa
                  have HQB:=Xa hqb
                  clear hki1 hki2 hqa hqb kr1 kr2
                  go_wp2_with fail
                  go_region_with (go_at_call 163;refine (IH.out qa qb _ ?_ ?_ ?_ ?_ ?_).mono ?_;exact (by omega);exact (by omega);exact (by omega);exact (H2.out.below (HBZ.out.mono hB)).below (Xaj rfl rfl rfl rfl);exact (by simp;omega);rintro e w5 ⟨rfl,hb5⟩)
                  all_goals
                   have HB5:Hid (Below Wb.heap.size Wb w5):=hbz.drew.trans (hb5.mono (by simpa using hzs))
                   clear hb5
                   obtain ⟨bz,hbz0⟩:∃bz,(ord us vs f qa qb !=0)=bz:=⟨_,rfl⟩
                   cases bz
                   ·have HZ0:Hid (ord us vs f qa qb=0):=by simpa [Hid] using hbz0
                    go_wp2_with fail
                    go_roundw
                    case rel=>exact ⟨c+1,by go_num,by omega,by omega,by rw[Hid,←HE4.out,HS.out];simp[HQA.out,HQB.out,HZ0.out],HB5.out⟩
                    case measure=>simp[intOf];omega
                   ·have HZ0:Hid (¬ord us vs f qa qb=0):=by simpa [Hid] using hbz0
                    have HR3:Hid (ord us vs (f+1) n m=ord us vs f qa qb):=by
                     rw[Hid,HR2.out,←HE4.out,HS.out];simp[HQA.out,HQB.out,HZ0.out]
                    go_wp2_with fail
                    go_ret
                    exact ⟨Yp HR3.out.symm,HBB.out.trans (HB5.out.mono hwb)⟩
                 ·have m2:¬(c:Int)<(((Xb vs m).kids.length:Nat):Int):=by omega
                  have HR3:Hid (ord us vs (f+1) n m=Y1 (((Xb us n).kids.length:Nat):Int) (((Xb vs m).kids.length:Nat):Int)):=by
                   rw[Hid,HR2.out,←HE4.out,Xfw j1 (by omega)];unfold Y1;split<;>(try split)<;>omega
                  go_wp2_with fail
                  refine (Uk _ _ _).mono ?_
                  rintro e w5 ⟨rfl,rfl⟩
                  go_wp2_with fail
                  go_ret
                  exact ⟨Yp HR3.out.symm,HBZ.out⟩
                ·have m1:¬(c:Int)<(((Xb us n).kids.length:Nat):Int):=by omega
                 have HR3:Hid (ord us vs (f+1) n m=Y1 (((Xb us n).kids.length:Nat):Int) (((Xb vs m).kids.length:Nat):Int)):=by
                  rw[Hid,HR2.out,←HE4.out]
                  by_cases j2:c<(Xb vs m).kids.length
                  ·rw[Xfx (by omega) j2];unfold Y1;split<;>(try split)<;>omega
                  ·rw[Xha (by omega) (by omega)];unfold Y1;split<;>(try split)<;>omega
                 go_wp2_with fail
                 refine (Uk _ _ _).mono ?_
                 rintro e w5 ⟨rfl,rfl⟩
                 go_wp2_with fail
                 go_ret
                 exact ⟨Yp HR3.out.symm,HBZ.out⟩
    ·have q2:=Xmy e2
     have HR:Hid (ord us vs (f+1) n m=Y2 (Xb us n).s (Xb vs m).s):=by
      rw[Hid,ord,if_neg (by simp[HE0.out]),if_neg (by simp[HE1.out]),if_pos e2]
     clear e2 HO
     go_enter Tryz.func163,Tryz.ntmps163
     go_wp2_with fail
     refine (Xes _ _ _).mono ?_
     rintro e w1 ⟨rfl,rfl⟩
     go_wp2_with fail
     go_ret
     exact ⟨Yp HR.out.symm,((Below.refl _ _).alloc (Nat.le_refl _) _).alloc (by simp) _⟩
   ·have q1:((Xb us n).n !=(Xb vs m).n)=true:=by simp[e1]
    have HR:Hid (ord us vs (f+1) n m=Y1 (Xb us n).n (Xb vs m).n):=by
     rw[Hid,ord,if_neg (by simp[HE0.out]),if_pos e1]
    clear e1 HO
    go_enter Tryz.func163,Tryz.ntmps163
    go_wp2_with fail
    refine (Uk _ _ _).mono ?_
    rintro e w1 ⟨rfl,rfl⟩
    go_wp2_with fail
    go_ret
    exact ⟨Yp HR.out.symm,((Below.refl _ _).alloc (Nat.le_refl _) _).alloc (by simp) _⟩
  ·have HR:Hid (ord us vs (f+1) n m=Y1 (Xb us n).kind (Xb vs m).kind):=by rw[Hid,ord,if_pos e0]
   have q0:((Xb us n).kind !=(Xb vs m).kind)=true:=by simp[e0]
   clear e0 HO
   go_enter Tryz.func163,Tryz.ntmps163
   go_wp2_with fail
   refine (Uk _ _ _).mono ?_
   rintro e w1 ⟨rfl,rfl⟩
   go_wp2_with fail
   go_ret
   exact ⟨Yp HR.out.symm,((Below.refl _ _).alloc (Nat.le_refl _) _).alloc (by simp) _⟩

def Yt (us vs:List VN):Int:=if okB us=true∧okB vs=true then ord us vs us.length (us.length-1) (vs.length-1) else-2
theorem Xan {us vs:List VN} (h1:okB us=true) (h2:okB vs=true):Yt us vs=ord us vs us.length (us.length-1) (vs.length-1):=if_pos ⟨h1,h2⟩
set_option maxRecDepth 100000 in
theorem Xey (B:Nat) (v1 v2:Value) (us vs:List VN) (w:World) (h:Two B w v1 v2 us vs) (hB:B≤w.heap.size) (hu:1≤us.length∧us.length≤80) (hv:1≤vs.length∧vs.length≤80):
  Calls Tryz.prog 130 #[v1,v2] w fun e w'=>e= .returned (.int .i64 (ord us vs us.length (us.length-1) (vs.length-1)))∧Below w.heap.size w w':=by
 have H:=Xa h
 obtain ⟨_,a1,c1,rfl,_⟩:=h.n1
 obtain ⟨_,a2,c2,rfl,_⟩:=h.n2
 clear h
 obtain ⟨hu1,hu2⟩:=hu
 obtain ⟨hv1,hv2⟩:=hv
 have e1:((us.length:Nat):Int)-1=((us.length-1:Nat):Int):=by omega
 have e2:((vs.length:Nat):Int)-1=((vs.length-1:Nat):Int):=by omega
 go_enter Tryz.func130,Tryz.ntmps130
 go_wp2_with fail
 refine (Xry B _ _ us vs us.length (us.length-1) (vs.length-1) _ (by omega) (by omega) (by omega) H.out hB).mono ?_
 rintro e w1 ⟨rfl,hb1⟩
 go_wp2_with fail
 go_ret
 exact ⟨rfl,hb1⟩

def J0 (x y:Int):Int:=if x=0 then y else x
def R3 (x:Int):Prop:=x= -1∨x=0∨x=1
def Tri (x y z:Int):Prop:=¬(x=1∧y= -1)→¬(x= -1∧y=1)→z=J0 x y
theorem X30 {x y:Int} (hx:R3 x) (hy:R3 y):R3 (J0 x y):=by unfold J0;split<;>assumption
theorem Xqd (x y:Int):J0 (-x) (-y)= -J0 x y:=by unfold J0;split<;>split<;>omega
theorem X31 {x1 y1 z1 x2 y2 z2:Int} (hx1:R3 x1) (hy1:R3 y1) (hx2:R3 x2) (hy2:R3 y2) (h1:Tri x1 y1 z1) (h2:Tri x2 y2 z2):Tri (J0 x1 x2) (J0 y1 y2) (J0 z1 z2):=by
 unfold Tri J0 at *
 unfold R3 at *
 intro a b
 rcases hx1 with rfl|rfl|rfl<;>rcases hy1 with rfl|rfl|rfl<;>rcases hx2 with rfl|rfl|rfl<;>rcases hy2 with rfl|rfl|rfl<;>simp at * <;>simp[*]
theorem Xti (a b:Int):R3 (Y1 a b):=Xd1 a b
theorem Xl3 (a b:Int):Y1 b a= -Y1 a b:=by unfold Y1;split<;>split<;>(try split)<;>omega
theorem X2a (a b c:Int):Tri (Y1 a b) (Y1 b c) (Y1 a c):=by
 unfold Tri J0 Y1
 intro h1 h2
 split<;>split<;>(try split)<;>(try split)<;>(try split)<;>(try split)<;>simp_all<;>omega
structure IsLex {α β:Type} (C:List α→List β→Int) (r:α→β→Int):Prop where
 nn:C [] []=0
 nc:∀b m,C [] (b::m)= -1
 cn:∀a l,C (a::l) []=1
 cc:∀a l b m,C (a::l) (b::m)=J0 (r a b) (C l m)
theorem Xqe {α β:Type} {C:List α→List β→Int} {r:α→β→Int} (h:IsLex C r) (hr:∀a b,R3 (r a b)):∀x y,R3 (C x y):=by
 intro x
 induction x with
 | nil => intro y; cases y with
  |nil=>rw[h.nn];exact Or.inr (Or.inl rfl)
  |cons b m=>rw[h.nc];exact Or.inl rfl
 | cons a l ih => intro y; cases y with
  |nil=>rw[h.cn];exact Or.inr (Or.inr rfl)
  |cons b m=>rw[h.cc];exact X30 (hr a b) (ih m)
theorem Xqf {α β:Type} {C:List α→List β→Int} {C':List β→List α→Int} {r:α→β→Int} {r':β→α→Int} (h:IsLex C r) (h':IsLex C' r') (hf:∀a b,r' b a= -r a b):∀x y,C' y x= -C x y:=by
 intro x
 induction x with
 | nil => intro y; cases y with
  |nil=>rw[h.nn,h'.nn];rfl
  |cons b m=>rw[h.nc,h'.cn];rfl
 | cons a l ih => intro y; cases y with
  |nil=>rw[h.cn,h'.nc]
  |cons b m=>rw[h.cc,h'.cc,hf,ih,Xqd]
theorem X32 {α β γ:Type} {C1:List α→List β→Int} {C2:List β→List γ→Int} {C3:List α→List γ→Int} {r1:α→β→Int} {r2:β→γ→Int} {r3:α→γ→Int} (h1:IsLex C1 r1) (h2:IsLex C2 r2) (h3:IsLex C3 r3) (hr1:∀a b,R3 (r1 a b)) (hr2:∀b c,R3 (r2 b c)) (ht:∀a b c,Tri (r1 a b) (r2 b c) (r3 a c)):∀x y z,Tri (C1 x y) (C2 y z) (C3 x z):=by
 intro x
 induction x with
 | nil =>
  intro y z
  cases y with
  | nil => cases z with
   |nil=>rw[h1.nn,h2.nn,h3.nn];intro _ _;rfl
   |cons c k=>rw[h1.nn,h2.nc,h3.nc];intro _ _;rfl
  | cons b m => cases z with
   |nil=>rw[h1.nc,h2.cn];intro _ h;exact absurd ⟨rfl,rfl⟩ h
   |cons c k=>rw[h1.nc,h3.nc];intro _ _;rfl
 | cons a l ih =>
  intro y z
  cases y with
  | nil => cases z with
   |nil=>rw[h1.cn,h2.nn,h3.cn];intro _ _;rfl
   |cons c k=>rw[h1.cn,h2.nc];intro h _;exact absurd ⟨rfl,rfl⟩ h
  | cons b m => cases z with
   | nil =>
    rw[h2.cn,h3.cn]
    intro _ h
    rcases Xqe h1 hr1 (a::l) (b::m) with e|e|e
    ·exact absurd ⟨e,rfl⟩ h
    ·rw[e];rfl
    ·rw[e];rfl
   | cons c k =>
    rw[h1.cc,h2.cc,h3.cc]
    exact X31 (hr1 a b) (hr2 b c) (Xqe h1 hr1 l m) (Xqe h2 hr2 m k) (ht a b c) (ih m k)
theorem Xh8:IsLex Ks (fun a b=>Y1 (a.toNat:Int) (b.toNat:Int)):=by
 refine ⟨rfl,fun b m=>rfl,fun a l=>rfl,fun a l b m=> ?_⟩
 rw[Ui]
 unfold J0 Y1
 simp only[UInt8.lt_iff_toNat_lt]
 split<;>(try split)<;>(try split)<;>(try split)<;>simp_all<;>omega
theorem Xtj (a b:ByteArray):R3 (Y2 a b):=U1 _ _
theorem Xf6 (a b:ByteArray):Y2 b a= -Y2 a b:=Xws _ _
theorem X2b (a b c:ByteArray):Tri (Y2 a b) (Y2 b c) (Y2 a c):=X32 Xh8 Xh8 Xh8 (fun _ _=>Xti _ _) (fun _ _=>Xti _ _) (fun _ _ _=>X2a _ _ _) _ _ _
theorem cmpKeys_lex:IsLex Yh Y2:=by
 refine ⟨rfl,fun b m=>rfl,fun a l=>rfl,fun a l b m=> ?_⟩
 rw[Yh]
 unfold J0
 by_cases h:Y2 a b=0<;>simp[h]
theorem G0 (R:Int→Int→Int):IsLex (Yk R) R:=by
 refine ⟨rfl,fun b m=>rfl,fun a l=>rfl,fun a l b m=> ?_⟩
 rw[Yk]
 unfold J0
 by_cases h:R a b=0<;>simp[h]
theorem Xej {p:Prop} [Decidable p] {x y:Int} (h:p↔x≠0):(if p then x else y)=J0 x y:=by
 unfold J0
 by_cases e:x=0
 ·rw[if_neg (fun hp=>h.1 hp e),if_pos e]
 ·rw[if_pos (h.2 e),if_neg e]
theorem W9 (us vs:List VN) (f n m:Nat):ord us vs (f+1) n m=J0 (Y1 (Xb us n).kind (Xb vs m).kind) (J0 (Y1 (Xb us n).n (Xb vs m).n) (J0 (Y2 (Xb us n).s (Xb vs m).s) (J0 (Yh (Xb us n).keys (Xb vs m).keys) (Yk (fun a b=>ord us vs f a.toNat b.toNat) (Xb us n).kids (Xb vs m).kids)))):=by
 have hI:∀a b:Int,(a≠b)↔Y1 a b≠0:=fun a b=>(not_congr (Uj a b)).symm
 rw[ord,Xej (hI _ _),Xej (hI _ _),Xej Iff.rfl,Xej Iff.rfl]
theorem X2c (us vs:List VN):∀f n m,ord vs us f m n= -ord us vs f n m:=by
 intro f
 induction f with
 |zero=>intro n m;rfl
 | succ f ih =>
  intro n m
  rw[W9,W9,Xl3 (Xb us n).kind,Xl3 (Xb us n).n,Xf6 (Xb us n).s,Xqf cmpKeys_lex cmpKeys_lex Xf6 (Xb us n).keys,Xqf (G0 (fun a b=>ord us vs f a.toNat b.toNat)) (G0 (fun a b=>ord vs us f a.toNat b.toNat)) (fun a b=>ih a.toNat b.toNat) (Xb us n).kids]
  simp only[Xqd]
theorem Xmo {R R':Int→Int→Int}:∀{l m:List Int},(∀a∈l,∀b∈m,R a b=R' a b)→Yk R l m=Yk R' l m:=by
 intro l
 induction l with
 |nil=>intro m _;cases m<;>rfl
 | cons a l ih =>
  intro m h
  cases m with
  |nil=>rfl
  | cons b m =>
   rw[Yk,Yk,h a (List.mem_cons_self ..) b (List.mem_cons_self ..),ih (fun x hx y hy=>h x (List.mem_cons_of_mem _ hx) y (List.mem_cons_of_mem _ hy))]
theorem X5d {vs:List VN} (hok:okB vs=true) {n:Nat} (hn:n<vs.length) {a:Int} (ha:a∈(Xb vs n).kids):a.toNat<n:=by
 obtain ⟨j,hj,e⟩:=List.getElem_of_mem ha
 have:=Zx ((Xp hok).2.1 n hn).2 hj
 have e2:Xm (Xb vs n).kids j=a:=by unfold Xm;rw[List.getD_eq_getElem?_getD,List.getElem?_eq_getElem hj];exact e
 rw[e2] at this
 omega
theorem Xqg {us vs:List VN} (hok:okB us=true):∀f f' n m,n<f→n<f'→n<us.length→ord us vs f n m=ord us vs f' n m:=by
 intro f
 induction f with
 |zero=>intro f' n m h;omega
 | succ f ih =>
  intro f' n m h1 h2 hn
  cases f' with
  |zero=>omega
  | succ f' =>
   rw[W9,W9]
   congr 4
   exact Xmo (fun a ha b hb=>by
    have:=X5d hok hn ha
    exact ih f' a.toNat b.toNat (by omega) (by omega) (by omega))
theorem Xek {us vs:List VN} (h1:okB us=true) (h2:okB vs=true) {F:Nat} (hF:us.length≤F):Yt us vs=ord us vs F (us.length-1) (vs.length-1):=by
 rw[Xan h1 h2]
 have:=(Xp h1).1
 exact Xqg h1 _ _ _ _ (by omega) (by omega) (by omega)
theorem Xqh {us vs:List VN} (h1:okB us=true) (h2:okB vs=true):Yt vs us= -Yt us vs:=by
 rw[Xek h1 h2 (F:=us.length+vs.length) (by omega),Xek h2 h1 (F:=us.length+vs.length) (by omega)]
 exact X2c us vs _ _ _
theorem Xqi {us:List VN} (h1:okB us=true):Yt us us=0:=by
 have:=Xqh h1 h1
 omega

theorem J2 {x y:Int}:J0 x y=0↔x=0∧y=0:=by
 unfold J0
 by_cases e:x=0<;>simp[e]
theorem Xny (hS:∀a b:ByteArray,Y2 a b=0→a=b):∀l m,Yh l m=0→l=m:=by
 intro l
 induction l with
 | nil => intro m h; cases m with
  |nil=>rfl
  |cons b m=>rw[cmpKeys_lex.nc] at h;omega
 | cons a l ih => intro m h; cases m with
  |nil=>rw[cmpKeys_lex.cn] at h;omega
  | cons b m =>
   rw[cmpKeys_lex.cc,J2] at h
   rw[hS a b h.1,ih m h.2]
theorem Xnz {α:Type} {R:Int→Int→Int} {g g':Int→α} (hR:∀a b,R a b=0→g a=g' b):∀l m,Yk R l m=0→l.map g=m.map g':=by
 intro l
 induction l with
 | nil => intro m h; cases m with
  |nil=>rfl
  |cons b m=>rw[(G0 R).nc] at h;omega
 | cons a l ih => intro m h; cases m with
  |nil=>rw[(G0 R).cn] at h;omega
  | cons b m =>
   rw[(G0 R).cc,J2] at h
   rw[List.map_cons,List.map_cons,hR a b h.1,ih m h.2]
theorem Xn0 (hS:∀a b:ByteArray,Y2 a b=0→a=b) (us vs:List VN):∀f n m,ord us vs f n m=0→Xw us f n=Xw vs f m:=by
 intro f
 induction f with
 |zero=>intro n m _;rfl
 | succ f ih =>
  intro n m h
  rw[W9,J2,J2,J2,J2] at h
  obtain ⟨h1,h2,h3,h4,h5⟩:=h
  rw[Xw,Xw,(Uj _ _).1 h1,(Uj _ _).1 h2,hS _ _ h3,Xny hS _ _ h4,Xnz (g:=fun k=>Xw us f k.toNat) (g':=fun k=>Xw vs f k.toNat) (fun a b hab=>ih a.toNat b.toNat hab) _ _ h5]
theorem Xsw (a b:ByteArray) (h:Y2 a b=0):a=b:=by
 have e:a.toList=b.toList:=(Xas _ _).1 h
 rw[Lib.toList_data,Lib.toList_data] at e
 rw[←Lib.mk_data a,←Lib.mk_data b,e]
theorem Xg3 (x:VN):Yb 0 x=x:=by
 unfold Yb
 have:x.kids.map (· +(0:Int))=x.kids:=by
  have:(fun k:Int=>k+0)=id:=by funext k;simp
  rw[this,List.map_id]
 rw[this]
theorem Xfe {vs:List VN} (hok:okB vs=true):Yw vs (vs.length-1)=vs:=by
 have hs:=(Xp hok).1
 have hr:Jy vs=true:=by unfold okB at hok;simp only[Bool.and_eq_true] at hok;exact hok.2
 unfold Jy at hr
 split at hr
 ·rename_i p e
  simp only[Bool.and_eq_true,decide_eq_true_eq] at hr
  unfold Yw
  rw[e]
  have e0:trF (some p)=0:=by show (p.1:Int)=0;omega
  rw[e0]
  have e1:vs.length-1+1-(0:Int).toNat=vs.length:=by simp;omega
  rw[e1]
  unfold run
  apply List.ext_getElem
  ·simp
  ·intro j h1 h2
   simp only[List.getElem_map,List.getElem_range',Int.neg_zero]
   rw[Xg3]
   unfold Xb
   rw[List.getD_eq_getElem?_getD,show (0:Int).toNat+1 *j=j by simp,List.getElem?_eq_getElem h2]
   rfl
 ·cases hr
theorem Xn1 {us vs:List VN} (h1:okB us=true) (h2:okB vs=true):Yt us vs=0↔us=vs:=by
 constructor
 ·intro h
  rw[Xek h1 h2 (F:=us.length+vs.length) (by omega)] at h
  have ht:=Xn0 Xsw us vs _ _ _ h
  have p1:=(Xp h1).1
  have p2:=(Xp h2).1
  have l1:=(Uc h1 (f:=us.length+vs.length) (m:=us.length-1) (by omega) (by omega)).1
  have l2:=(Uc h2 (f:=us.length+vs.length) (m:=vs.length-1) (by omega) (by omega)).1
  rw[Xfe h1] at l1
  rw[Xfe h2] at l2
  rw[ht] at l1
  exact l1.symm.trans l2
 ·intro h
  subst h
  exact Xqi h1

def cfK (l:List ByteArray) (x y:Int):Int:=Y2 (Xh l x.toNat) (Xh l y.toNat)
def RK (l:List ByteArray) (x y:Int):Prop:=cfK l x y<0∨(cfK l x y=0∧x<y)
theorem Xxa (l:List ByteArray):Tot (RK l):=by
 have r3:∀a b,R3 (cfK l a b):=fun a b=>Xtj _ _
 have fl:∀a b,cfK l b a= -cfK l a b:=fun a b=>Xf6 _ _
 have tr:∀a b c,Tri (cfK l a b) (cfK l b c) (cfK l a c):=fun a b c=>X2b _ _ _
 refine ⟨fun x y z h1 h2=> ?_,fun x y h1 h2=> ?_,fun x y h=> ?_⟩
 ·have t:=tr x y z
  have a1:=r3 x y
  have a2:=r3 y z
  unfold RK at *
  unfold Tri J0 at t
  unfold R3 at a1 a2
  rcases h1 with h1|⟨h1,h1'⟩<;>rcases h2 with h2|⟨h2,h2'⟩
  ·Xa8
   have:=t (by omega) (by omega)
   rw[this];split<;>omega
  ·Xa8
   have:=t (by omega) (by omega)
   rw[this];split<;>omega
  ·Xa8
   have:=t (by omega) (by omega)
   rw[this];split<;>omega
  ·right
   have:=t (by omega) (by omega)
   refine ⟨?_,by omega⟩
   rw[this];split<;>omega
 ·have:=fl x y
  unfold RK at h1 h2
  omega
 ·have:=fl x y
  unfold RK
  rcases Int.lt_or_gt_of_ne h with c|c
  ·by_cases e:cfK l x y<0
   ·exact Or.inl (Or.inl e)
   ·by_cases e2:cfK l x y=0
    ·exact Or.inl (Or.inr ⟨e2,c⟩)
    ·exact Or.inr (Or.inl (by omega))
  ·by_cases e:cfK l y x<0
   ·exact Or.inr (Or.inl e)
   ·by_cases e2:cfK l y x=0
    ·exact Or.inr (Or.inr ⟨e2,c⟩)
    ·exact Or.inl (Or.inl (by omega))
theorem X0t (l:List ByteArray):∀x y:Int,x<y→(cfK l y x<0↔RK l y x):=fun x y h=>by
 unfold RK
 constructor
 ·exact Or.inl
 ·rintro (h|h)
  ·exact h
  ·omega

theorem Xbh {ks:List ByteArray}:∀{i:Nat} {ns:List ByteArray} {ps:List Nat},Ze ks i=some (ns,ps)→ns=ps.map (Xh ks):=by
 intro i
 induction i with
 |zero=>intro ns ps h;simp[Ze] at h;obtain ⟨rfl,rfl⟩:=h;rfl
 | succ i ih =>
  intro ns ps h
  rw[Ze] at h
  split at h
  ·cases h
  ·rename_i ns0 ps0 h0
   split at h
   ·cases h
   ·injection h with h
    injection h with e1 e2
    subst e1 e2
    have:=ih h0
    rw[List.map_append,List.map_append,List.map_take,List.map_drop,←this]
    rfl
theorem X0f {α:Type} {l:List α} {n:Nat} {x:α} (h:x∈l.drop n):∃j,n≤j∧∃hj:j<l.length,l[j]=x:=by
 obtain ⟨i,hi,e⟩:=List.getElem_of_mem h
 rw[List.getElem_drop] at e
 exact ⟨n+i,by omega,by simp at hi;omega,e⟩
theorem X0g {α:Type} {l:List α} {n:Nat} {x:α} (h:x∈l.take n):∃j,j<n∧∃hj:j<l.length,l[j]=x:=by
 obtain ⟨i,hi,e⟩:=List.getElem_of_mem h
 rw[List.getElem_take] at e
 exact ⟨i,by simp at hi;omega,by simp at hi;omega,e⟩
theorem Xrk {ks:List ByteArray}:∀{i:Nat} {ns:List ByteArray} {ps:List Nat},Ze ks i=some (ns,ps)→ns.Pairwise fun a b=>Y9 a b=true:=by
 intro i
 induction i with
 |zero=>intro ns ps h;simp[Ze] at h;obtain ⟨rfl,rfl⟩:=h;exact List.Pairwise.nil
 | succ i ih =>
  intro ns ps h
  rw[Ze] at h
  split at h
  ·cases h
  ·rename_i ns0 ps0 h0
   split at h
   ·cases h
   ·rename_i hh
    injection h with h
    injection h with e1 e2
    subst e1 e2
    have hp:=ih h0
    have hr:Xid ns0:=fun a b hab hb=>by
     rw[K5 (by omega),K5 hb]
     exact List.pairwise_iff_getElem.1 hp a b (by omega) hb hab
    obtain ⟨p1,p2,p3⟩:=Xl7 (l:=ns0) (Xh ks i)
    have lo:∀x∈ns0.take (Z4 ns0 (Xh ks i)),Y9 x (Xh ks i)=true:=fun x hx=>by
     obtain ⟨j,h1,h2,rfl⟩:=X0g hx
     rw[←K5 h2];exact p2 j h1
    have hi:∀x∈ns0.drop (Z4 ns0 (Xh ks i)),Y9 (Xh ks i) x=true:=fun x hx=>by
     obtain ⟨j,h1,h2,rfl⟩:=X0f hx
     have h3:=p3 (by omega)
     have h4:(Xh ns0 (Z4 ns0 (Xh ks i))).toList≠(Xh ks i).toList:=fun e=>hh (by unfold Y5;simp[e];omega)
     rw[←K5 h2]
     by_cases e:j=Z4 ns0 (Xh ks i)
     ·rw[e];exact Xjv h3 h4
     ·exact Xbm (Xjv h3 h4) (hr _ _ (by omega) h2)
    rw[List.append_assoc,List.pairwise_append]
    refine ⟨hp.sublist (List.take_sublist _ _), ?_,fun x hx y hy=> ?_⟩
    ·rw[List.singleton_append,List.pairwise_cons]
     exact ⟨fun y hy=>hi y hy,hp.sublist (List.drop_sublist _ _)⟩
    ·rw[List.singleton_append] at hy
     rcases List.mem_cons.1 hy with rfl|hy
     ·exact lo x hx
     ·exact Xbm (lo x hx) (hi y hy)
theorem Xw1 (a b:ByteArray):Y9 a b=true↔Y2 a b<0:=by
 unfold Y9 Y2
 rw[Xfc,decide_eq_true_eq]
 have:=Xtj a b
 unfold R3 Y2 at this
 omega
theorem X0h {l:List ByteArray} {a b:Nat} (h:Y9 (Xh l a) (Xh l b)=true):RK l (a:Int) (b:Int):=by
 Xa8
 unfold cfK
 rw[Int.toNat_natCast,Int.toNat_natCast]
 exact (Xw1 _ _).1 h
theorem Xlh {A:List Int} {N:Nat} (hn:A.Nodup) (hl:A.length=N) (hs:∀x∈A,0≤x∧x<N):∀x:Int,x∈A↔0≤x∧x<N:=by
 intro x
 refine ⟨hs x,fun hx=> ?_⟩
 apply Classical.byContradiction
 intro hc
 have h1:(x::A).Nodup:=List.nodup_cons.2 ⟨hc,hn⟩
 have h2:(x::A)⊆(List.range N).map fun n:Nat=>(n:Int):=fun y hy=>by
  have:0≤y∧y<N:=by
   rcases List.mem_cons.1 hy with rfl|hy
   ·exact hx
   ·exact hs y hy
  exact List.mem_map.2 ⟨y.toNat,List.mem_range.2 (by omega),by omega⟩
 have h3:=h1.length_le_of_subset h2
 simp at h3
 omega
theorem Xw2 {R:Int→Int→Prop} (hR:Tot R) {A B:List Int} {N:Nat} (ha:A.Pairwise R) (hb:B.Pairwise R) (la:A.length=N) (lb:B.length=N) (sa:∀x∈A,0≤x∧x<N) (sb:∀x∈B,0≤x∧x<N):A=B:=by
 have irr:∀x y,R x y→x≠y:=fun x y h e=>by subst e;exact hR.asym _ _ h h
 have na:A.Nodup:=ha.imp (fun h=>irr _ _ h)
 have nb:B.Nodup:=hb.imp (fun h=>irr _ _ h)
 have hp:A.Perm B:=(List.perm_ext_iff_of_nodup na nb).2 fun x=>by rw[Xlh na la sa,Xlh nb lb sb]
 exact List.Perm.eq_of_pairwise (fun a b _ _ h1 h2=>absurd h2 (hR.asym _ _ h1)) ha hb hp
theorem Xuj {R:Int→Int→Prop} {f:Nat→Int} {N:Nat} (h:Z0 R f 0 N):((List.range N).map f).Pairwise R:=by
 rw[List.pairwise_iff_getElem]
 intro i j hi hj hij
 simp at hi hj⊢
 exact h i j (Nat.zero_le _) hij hj
theorem Xuk {l:List ByteArray} {ns:List ByteArray} {ps:List Nat} {f:Nat→Int} (hs:Ze l l.length=some (ns,ps)) (hf:Blk (RK l) (fun p=>(p:Int)) f 0 l.length):(List.range l.length).map f=ps.map fun n:Nat=>(n:Int):=by
 refine Xw2 (Xxa l) (N:=l.length) (Xuj hf.2) ?_ (by simp) (by rw[List.length_map];exact (Gr hs).2) ?_ ?_
 ·have hr:=Xrk hs
  rw[Xbh hs,List.pairwise_map] at hr
  rw[List.pairwise_map]
  exact hr.imp (fun h=>X0h h)
 ·intro x hx
  obtain ⟨j,hj,rfl⟩:=List.mem_map.1 hx
  obtain ⟨q,q1,q2,q3⟩:=hf.1 j (Nat.zero_le _) (List.mem_range.1 hj)
  simp only at q3
  omega
 ·intro x hx
  obtain ⟨n,hn,rfl⟩:=List.mem_map.1 hx
  have:=Gs hs n hn
  omega
theorem Xrl {ks:List ByteArray}:∀i,(∀a b,a<b→b<i→(Xh ks a).toList≠(Xh ks b).toList)→∃ns ps,Ze ks i=some (ns,ps):=by
 intro i
 induction i with
 |zero=>intro _;exact ⟨[],[],rfl⟩
 | succ i ih =>
  intro h
  obtain ⟨ns,ps,e⟩:=ih (fun a b h1 h2=>h a b h1 (by omega))
  have hn:Y5 ns (Xh ks i)=false:=by
   refine Xl8 fun j hj he=> ?_
   have hm:=Xbh e
   have hl:=Gr e
   have hj2:j<ps.length:=by omega
   have e2:Xh ns j=Xh ks (ps[j]):=by
    rw[K5 hj]
    subst hm
    simp
   rw[e2] at he
   have:=Gs e (ps[j]) (List.getElem_mem _)
   exact h _ i this (by omega) he
  exact ⟨_,_,Xei e rfl hn⟩

set_option maxRecDepth 100000 in
theorem Wh (lo B lo' B':Nat) (us vs:List VN) (f f':Nat) (l m:List Int) (it it':Value) (w:World)
  (h1:ItemsG lo B w it l.length (fun j u=>ValG lo B w us f (Xm l j).toNat u)) (h2:ItemsG lo' B' w it' m.length (fun j u=>ValG lo' B' w vs f' (Xm m j).toNat u))
  (hlo:lo≤B) (hlo':lo'≤B') (hB:B≤w.heap.size) (hB':B'≤w.heap.size) (hl:l.length≤80) (hm:m.length≤80)
  (r1:∀j,j<l.length→(Xm l j).toNat<us.length) (r2:∀j,j<m.length→(Xm m j).toNat<vs.length)
  (ih : ∀ (n k : Nat) (v v' : Value) (w : World), n < us.length → k < vs.length → ValG lo B w us f n v → ValG lo' B' w vs f' k v' → B ≤ w.heap.size → B' ≤ w.heap.size →
   Calls Tryz.prog 194 #[v,v'] w fun e w'=>e= .returned (.int .i64 (ord us vs f n k))∧Below w.heap.size w w'):
  Calls Tryz.prog 206 #[it,it', .func (.func 194) #[] #[]] w fun e w'=>e= .returned (.int .i64 (Yk (fun a b=>ord us vs f a.toNat b.toNat) l m))∧Below w.heap.size w w':=by
 obtain ⟨a1,c1,rfl,hc1⟩:=h1
 obtain ⟨a2,c2,rfl,hc2⟩:=h2
 have HC1:=Xa hc1
 have HC2:=Xa hc2
 have R1:=Xa r1
 have R2:=Xa r2
 have IH:=Xa ih
 clear hc1 hc2 r1 r2 ih
 go_enter Tryz.func206,Tryz.ntmps206
 go_wp2_with fail
 go_loopw [13] (fun i wr=>∃k:Nat,k≤l.length∧i= .int .i64 k∧Hid (k≤m.length∧Yk (fun a b=>ord us vs f a.toNat b.toNat) (l.drop k) (m.drop k)=Yk (fun a b=>ord us vs f a.toNat b.toNat) l m)∧Below w.heap.size w wr) (fun i _=>l.length-(intOf i).toNat)
 case atStart=>exact ⟨0,Nat.zero_le _,rfl,⟨Nat.zero_le _,by simp⟩,Below.refl _ _⟩
 case round=>
  obtain ⟨k,hk,rfl,HE,hbw⟩:=hrel
  have hsz:=hbw.size
  by_cases hlt:k<l.length
  ·obtain ⟨b1,rfl,_,l1,d1⟩:=HC1.out (by omega)
   obtain ⟨t1,x1,e1,V1⟩:=d1 k hlt
   have e1':wr.cell? ⟨b1,k,none⟩=some (.iface t1 x1):=(Xc hbw (by omega)).trans e1
   have HV1:=Xa (ValG.keep (Qg (hbw.mono hB)) (Nat.le_refl _) hlo V1)
   clear d1 e1 V1
   by_cases hlm:k<m.length
   ·obtain ⟨b2,rfl,_,l2,d2⟩:=HC2.out (by omega)
    obtain ⟨t2,x2,e2,V2⟩:=d2 k hlm
    have e2':wr.cell? ⟨b2,k,none⟩=some (.iface t2 x2):=(Xc hbw (by omega)).trans e2
    have HV2:=Xa (ValG.keep (Qg (hbw.mono hB')) (Nat.le_refl _) hlo' V2)
    clear d2 e2 V2
    have hge:¬(m.length:Int)≤(k:Int):=by omega
    have HS:=Xa (Xfv (R:=fun a b=>ord us vs f a.toNat b.toNat) hlt hlm)
    go_wp2_with fail
    refine (IH.out (Xm l k).toNat (Xm m k).toNat _ _ _ (R1.out k hlt) (R2.out k hlm) HV1.out HV2.out (by omega) (by omega)).mono ?_
    rintro e w1 ⟨rfl,hb1⟩
    have HB1:=Xa (hbw.trans (hb1.mono hsz))
    clear hb1
    obtain ⟨bz,hbz0⟩:∃bz,(ord us vs f (Xm l k).toNat (Xm m k).toNat !=0)=bz:=⟨_,rfl⟩
    cases bz
    ·have HZ:Hid (ord us vs f (Xm l k).toNat (Xm m k).toNat=0):=by simpa [Hid] using hbz0
     go_wp2_with fail
     go_roundw
     case rel=>exact ⟨k+1,by omega,by go_num,⟨by omega,by rw[←HE.out.2,HS.out];simp[HZ.out]⟩,HB1.out⟩
     case measure=>simp[intOf];omega
    ·have HZ:Hid (¬ord us vs f (Xm l k).toNat (Xm m k).toNat=0):=by simpa [Hid] using hbz0
     have HR:Hid (Yk (fun a b=>ord us vs f a.toNat b.toNat) l m=ord us vs f (Xm l k).toNat (Xm m k).toNat):=by rw[Hid,←HE.out.2,HS.out];simp[HZ.out]
     go_wp2_with fail
     go_ret
     exact ⟨Yp HR.out.symm,HB1.out⟩
   ·have HZ:Hid (Yk (fun a b=>ord us vs f a.toNat b.toNat) l m=1):=by rw[Hid,←HE.out.2,Xfw hlt (by omega)]
    have hge:(m.length:Int)≤(k:Int):=by omega
    go_wp2_with fail
    go_ret
    exact ⟨Yp HZ.out.symm,hbw⟩
  ·obtain rfl:k=l.length:=by omega
   by_cases hlm:l.length<m.length
   ·have HZ:Hid (Yk (fun a b=>ord us vs f a.toNat b.toNat) l m= -1):=by rw[Hid,←HE.out.2,Xfx (Nat.le_refl _) hlm]
    go_wp2_with fail
    go_ret
    exact ⟨Yp HZ.out.symm,hbw⟩
   ·have HZ:Hid (Yk (fun a b=>ord us vs f a.toNat b.toNat) l m=0):=by rw[Hid,←HE.out.2,Xha (Nat.le_refl _) (by omega)]
    go_wp2_with fail
    go_ret
    exact ⟨Yp HZ.out.symm,hbw⟩

theorem X2l {x:VN} (h:X9 x=true) (h2:x.kind≠2) (h3:x.kind≠3):x.n=0:=by
 unfold X9 Yv at h
 simp[h2,h3] at h
 exact h.1.1.1.1
theorem Xm2 {x:VN} (h:X9 x=true) (h4:x.kind≠4):x.s.toList= []:=by
 unfold X9 Yv at h
 simp only[Bool.and_eq_true,Bool.not_eq_true',Bool.and_eq_false_iff,decide_eq_false_iff_not,Classical.not_not] at h
 exact h.1.1.1.2.resolve_left h4
theorem Xcy {x:VN} (h:X9 x=true) (h6:x.kind≠6):x.keys= []:=by
 unfold X9 Yv at h
 simp[h6] at h
 exact h.1.1.2
theorem Xgu {x:VN} (h:X9 x=true) (h5:x.kind≠5) (h6:x.kind≠6):x.kids= []:=by
 unfold X9 Yv at h
 simp[h5,h6] at h
 exact h.1.2
theorem Xl5 {a b:ByteArray} (ha:a.toList= []) (hb:b.toList= []):Y2 a b=0:=by unfold Y2;rw[ha,hb];rfl
theorem Xaa {us vs:List VN} {f n m:Nat} {k:Int} (hx:X9 (Xb us n)=true) (hy:X9 (Xb vs m)=true) (k1:(Xb us n).kind=k) (k2:(Xb vs m).kind=k):
  ord us vs (f+1) n m=if k=1 then 0 else if k=2∨k=3 then Y1 (Xb us n).n (Xb vs m).n else if k=4 then Y2 (Xb us n).s (Xb vs m).s
   else if Yh (Xb us n).keys (Xb vs m).keys≠0 then Yh (Xb us n).keys (Xb vs m).keys else Yk (fun a b=>ord us vs f a.toNat b.toNat) (Xb us n).kids (Xb vs m).kids:=by
 rw[ord,if_neg (by simp[k1,k2])]
 by_cases h23:k=2∨k=3
 ·have s0:Y2 (Xb us n).s (Xb vs m).s=0:=Xl5 (Xm2 hx (by omega)) (Xm2 hy (by omega))
  rw[if_neg (show ¬k=1 by omega),if_pos h23,s0,Xcy hx (by omega),Xcy hy (by omega),Xgu hx (by omega) (by omega),Xgu hy (by omega) (by omega)]
  by_cases e:(Xb us n).n=(Xb vs m).n
  ·simp[e,Yh,Yk,(Uj _ _).2]
  ·simp[e]
 ·rw[if_neg (by rw[X2l hx (by omega) (by omega),X2l hy (by omega) (by omega)];simp),if_neg h23]
  by_cases h4:k=4
  ·rw[if_neg (show ¬k=1 by omega),if_pos h4,Xcy hx (by omega),Xcy hy (by omega),Xgu hx (by omega) (by omega),Xgu hy (by omega) (by omega)]
   by_cases e:Y2 (Xb us n).s (Xb vs m).s=0
   ·simp[e,Yh,Yk]
   ·simp[e]
  ·have s0:Y2 (Xb us n).s (Xb vs m).s=0:=Xl5 (Xm2 hx (by omega)) (Xm2 hy (by omega))
   rw[s0,if_neg (by simp),if_neg h4]
   by_cases h1:k=1
   ·rw[if_pos h1,Xcy hx (by omega),Xcy hy (by omega),Xgu hx (by omega) (by omega),Xgu hy (by omega) (by omega)]
    simp[Yh,Yk]
   ·rw[if_neg h1]
theorem Xjm (lo B:Nat) (w:World) (P:Nat→Value→Prop):ItemsG lo B w (.slice none 0 0) ([]:List Int).length P:=⟨none,0,rfl,fun h=>absurd h (by simp)⟩
theorem X33 (x:Value) (w:World):(Instr.typeAssert (.iface 113 x) 52 113 false).run Tryz.prog w= .ok x w:=by kernel_rfl
theorem Xjn (x:Value) (w:World):(Instr.typeAssert (.iface 114 x) 52 114 false).run Tryz.prog w= .ok x w:=by kernel_rfl
theorem Xtk (x:Value) (w:World):(Instr.typeAssert (.iface 116 x) 52 116 false).run Tryz.prog w= .ok x w:=by kernel_rfl
theorem Xy7 (x:Value) (w:World):(Instr.typeAssert (.iface 118 x) 52 118 false).run Tryz.prog w= .ok x w:=by kernel_rfl
theorem ItemsG.keep {lo B:Nat} {w w':World} {it:Value} {us:List VN} {f:Nat} {l:List Int} (h:ItemsG lo B w it l.length (fun j u=>ValG lo B w us f (Xm l j).toNat u)) (hb:Below B w w') (hlo:lo≤B):ItemsG lo B w' it l.length (fun j u=>ValG lo B w' us f (Xm l j).toNat u):=by
 obtain ⟨a,cap,e,hx⟩:=h
 refine ⟨a,cap,e,fun hn=> ?_⟩
 obtain ⟨b,ea,h1,h2,h3⟩:=hx hn
 refine ⟨b,ea,h1,h2,fun j hj=> ?_⟩
 obtain ⟨t,x,hc,hv⟩:=h3 j hj
 exact ⟨t,x,(Xc hb h2).trans hc,ValG.keep (Qg hb) (Nat.le_refl _) hlo hv⟩
def Xcz (lo B lo' B':Nat) (us vs:List VN) (f f':Nat):Prop:=
 ∀ (n k : Nat) (v v' : Value) (w : World), n < us.length → k < vs.length → ValG lo B w us f n v → ValG lo' B' w vs f' k v' → B ≤ w.heap.size → B' ≤ w.heap.size →
   Calls Tryz.prog 194 #[v,v'] w fun e w'=>e= .returned (.int .i64 (ord us vs f n k))∧Below w.heap.size w w'
theorem Xam {lo B lo' B':Nat} {us vs:List VN} {f f':Nat} (ih:Xcz lo B lo' B' us vs f f') (hlo:lo≤B) (hlo':lo'≤B') (w:World) (hB:B≤w.heap.size) (hB':B'≤w.heap.size):
  Calls Tryz.prog 206 #[.slice none 0 0, .slice none 0 0, .func (.func 194) #[] #[]] w fun e w'=>e= .returned (.int .i64 0)∧Below w.heap.size w w':=
 Wh lo B lo' B' us vs f f' [] [] _ _ w (Xjm _ _ _ _) (Xjm _ _ _ _) hlo hlo' hB hB' (by simp) (by simp) (fun j hj=>absurd hj (by simp)) (fun j hj=>absurd hj (by simp)) ih
set_option maxRecDepth 100000 in
theorem Xmp {lo B lo' B':Nat} {us vs:List VN} {f f':Nat} (ih:Xcz lo B lo' B' us vs f f') (hlo:lo≤B) (hlo':lo'≤B') (w:World) (hB:B≤w.heap.size) (hB':B'≤w.heap.size):
  Calls Tryz.prog 194 #[.iface 160 (.agg #[]), .iface 160 (.agg #[])] w fun e w'=>e= .returned (.int .i64 0)∧Below w.heap.size w w':=by
 have IH:=Xa ih
 clear ih
 have tabool:=Xbv
 have taint:=Xac
 have tatext:=Xbw
 have tamap:=Xgy
 go_enter Tryz.func194,Tryz.ntmps194
 go_wp2_with fail
 refine (K6 _).mono ?_
 rintro e w1 ⟨rfl,hb1⟩
 have z1:=hb1.size
 go_wp2_with fail
 refine (K6 _).mono ?_
 rintro e w2 ⟨rfl,hb2⟩
 have z2:=hb2.size
 go_wp2_with fail
 refine (Ju _ _ _).mono ?_
 rintro e w3 ⟨rfl,rfl⟩
 rw[show Y1 1 1=0 from rfl]
 go_wp2_with fail
 refine (Xbe _).mono ?_
 rintro e w4 ⟨rfl,hb4⟩
 have z4:=hb4.size
 go_wp2_with fail
 refine (Xbe _).mono ?_
 rintro e w5 ⟨rfl,hb5⟩
 have z5:=hb5.size
 go_wp2_with fail
 refine (Xam IH.out hlo hlo' _ (by omega) (by omega)).mono ?_
 rintro e w6 ⟨rfl,hb6⟩
 go_wp2_with fail
 go_ret
 exact ⟨rfl,hb1.trans ((hb2.trans ((hb4.trans ((hb5.trans (hb6.mono (by omega))).mono (by omega))).mono (by omega))).mono (by omega))⟩
set_option maxRecDepth 100000 in
theorem Xmq (a b:Int) {lo B lo' B':Nat} {us vs:List VN} {f f':Nat} (ih:Xcz lo B lo' B' us vs f f') (hlo:lo≤B) (hlo':lo'≤B') (w:World) (hB:B≤w.heap.size) (hB':B'≤w.heap.size):
  Calls Tryz.prog 194 #[.iface 113 (.agg #[.int .i64 a]), .iface 113 (.agg #[.int .i64 b])] w fun e w'=>e= .returned (.int .i64 (Y1 a b))∧Below w.heap.size w w':=by
 have IH:=Xa ih
 clear ih
 have tabool:=Xbx
 have tb:=X33
 have fld:=Xzg
 go_enter Tryz.func194,Tryz.ntmps194
 go_wp2_with fail
 refine (K7 _ _).mono ?_
 rintro e w1 ⟨rfl,hb1⟩
 go_wp2_with fail
 refine (K7 _ _).mono ?_
 rintro e w2 ⟨rfl,hb2⟩
 have HB2:=Xa (Below.next hb1 hb2)
 clear hb1 hb2
 go_wp2_with fail
 refine (Ju _ _ _).mono ?_
 rintro e w3 ⟨rfl,rfl⟩
 rw[show Y1 2 2=0 from rfl]
 go_wp2_with fail
 go_quiet ((go_at_call 203;exact Calls.quiet_of_same (Ju _ _ _)))
 obtain ⟨bz,hbz0⟩:∃bz,(Y1 a b !=0)=bz:=⟨_,rfl⟩
 have HB3:=Xa (below_drewN ((HB2.out).alloc HB2.out.size (.cells #[.int .i64 a] 113)) nq)
 cases bz
 ·have HZ:Hid (Y1 a b=0):=by simpa [Hid] using hbz0
  go_wp2_with fail
  refine (Xdr _ _).mono ?_
  rintro e w4 ⟨rfl,hb4⟩
  have HB4:=Xa (Below.next HB3.out hb4)
  clear hb4
  go_wp2_with fail
  refine (Xdr _ _).mono ?_
  rintro e w5 ⟨rfl,hb5⟩
  have HB5:=Xa (Below.next HB4.out hb5)
  clear hb5
  have z5:=HB5.out.size
  go_wp2_with fail
  refine (Xam IH.out hlo hlo' _ (by omega) (by omega)).mono ?_
  rintro e w6 ⟨rfl,hb6⟩
  go_wp2_with fail
  go_ret
  exact ⟨Yp HZ.out.symm,Below.next HB5.out hb6⟩
 ·go_wp2_with fail
  go_ret
  exact ⟨rfl,HB3.out⟩
set_option maxRecDepth 100000 in
theorem Xqk (a b:Int) {lo B lo' B':Nat} {us vs:List VN} {f f':Nat} (ih:Xcz lo B lo' B' us vs f f') (hlo:lo≤B) (hlo':lo'≤B') (w:World) (hB:B≤w.heap.size) (hB':B'≤w.heap.size):
  Calls Tryz.prog 194 #[.iface 114 (.agg #[.int .i64 a]), .iface 114 (.agg #[.int .i64 b])] w fun e w'=>e= .returned (.int .i64 (Y1 a b))∧Below w.heap.size w w':=by
 have IH:=Xa ih
 clear ih
 have tabool:=Xc0
 have taint:=Gd
 have tb:=Xjn
 have fld:=Xgf
 go_enter Tryz.func194,Tryz.ntmps194
 go_wp2_with fail
 refine (K8 _ _).mono ?_
 rintro e w1 ⟨rfl,hb1⟩
 go_wp2_with fail
 refine (K8 _ _).mono ?_
 rintro e w2 ⟨rfl,hb2⟩
 have HB2:=Xa (Below.next hb1 hb2)
 clear hb1 hb2
 go_wp2_with fail
 refine (Ju _ _ _).mono ?_
 rintro e w3 ⟨rfl,rfl⟩
 rw[show Y1 3 3=0 from rfl]
 go_wp2_with fail
 go_quiet ((go_at_call 203;exact Calls.quiet_of_same (Ju _ _ _)))
 obtain ⟨bz,hbz0⟩:∃bz,(Y1 a b !=0)=bz:=⟨_,rfl⟩
 have HB3:=Xa (below_drewN ((HB2.out).alloc HB2.out.size (.cells #[.int .i64 a] 114)) nq)
 cases bz
 ·have HZ:Hid (Y1 a b=0):=by simpa [Hid] using hbz0
  go_wp2_with fail
  refine (Xds _ _).mono ?_
  rintro e w4 ⟨rfl,hb4⟩
  have HB4:=Xa (Below.next HB3.out hb4)
  clear hb4
  go_wp2_with fail
  refine (Xds _ _).mono ?_
  rintro e w5 ⟨rfl,hb5⟩
  have HB5:=Xa (Below.next HB4.out hb5)
  clear hb5
  have z5:=HB5.out.size
  go_wp2_with fail
  refine (Xam IH.out hlo hlo' _ (by omega) (by omega)).mono ?_
  rintro e w6 ⟨rfl,hb6⟩
  go_wp2_with fail
  go_ret
  exact ⟨Yp HZ.out.symm,Below.next HB5.out hb6⟩
 ·go_wp2_with fail
  go_ret
  exact ⟨rfl,HB3.out⟩
set_option maxRecDepth 100000 in
theorem Xmr (a b:ByteArray) {lo B lo' B':Nat} {us vs:List VN} {f f':Nat} (ih:Xcz lo B lo' B' us vs f f') (hlo:lo≤B) (hlo':lo'≤B') (w:World) (hB:B≤w.heap.size) (hB':B'≤w.heap.size):
  Calls Tryz.prog 194 #[.iface 116 (.agg #[.string a]), .iface 116 (.agg #[.string b])] w fun e w'=>e= .returned (.int .i64 (Y2 a b))∧Below w.heap.size w w':=by
 have IH:=Xa ih
 clear ih
 have tabool:=Xby
 have taint:=Xad
 have tatext:=Uv
 have tb:=Xtk
 have fld:=Xna
 go_enter Tryz.func194,Tryz.ntmps194
 go_wp2_with fail
 refine (K9 _ _).mono ?_
 rintro e w1 ⟨rfl,hb1⟩
 go_wp2_with fail
 refine (K9 _ _).mono ?_
 rintro e w2 ⟨rfl,hb2⟩
 have HB2:=Xa (Below.next hb1 hb2)
 clear hb1 hb2
 go_wp2_with fail
 refine (Ju _ _ _).mono ?_
 rintro e w3 ⟨rfl,rfl⟩
 rw[show Y1 4 4=0 from rfl]
 go_wp2_with fail
 go_quiet ((go_at_call 204;exact Calls.quiet_of_same (Xat _ _ _)))
 obtain ⟨bz,hbz0⟩:∃bz,(Y2 a b !=0)=bz:=⟨_,rfl⟩
 have HB3:=Xa (below_drewN ((HB2.out).alloc HB2.out.size (.cells #[.string a] 116)) nq)
 cases bz
 ·have HZ:Hid (Y2 a b=0):=by simpa [Hid] using hbz0
  go_wp2_with fail
  refine (Xdt _ _).mono ?_
  rintro e w4 ⟨rfl,hb4⟩
  have HB4:=Xa (Below.next HB3.out hb4)
  clear hb4
  go_wp2_with fail
  refine (Xdt _ _).mono ?_
  rintro e w5 ⟨rfl,hb5⟩
  have HB5:=Xa (Below.next HB4.out hb5)
  clear hb5
  have z5:=HB5.out.size
  go_wp2_with fail
  refine (Xam IH.out hlo hlo' _ (by omega) (by omega)).mono ?_
  rintro e w6 ⟨rfl,hb6⟩
  go_wp2_with fail
  go_ret
  exact ⟨Yp HZ.out.symm,Below.next HB5.out hb6⟩
 ·go_wp2_with fail
  go_ret
  exact ⟨rfl,HB3.out⟩
set_option maxRecDepth 100000 in
theorem Xms (l m:List Int) (it it':Value) {lo B lo' B':Nat} {us vs:List VN} {f f':Nat} (ih:Xcz lo B lo' B' us vs f f') (hlo:lo≤B) (hlo':lo'≤B') (w:World) (hB:B≤w.heap.size) (hB':B'≤w.heap.size)
  (h1:ItemsG lo B w it l.length (fun j u=>ValG lo B w us f (Xm l j).toNat u)) (h2:ItemsG lo' B' w it' m.length (fun j u=>ValG lo' B' w vs f' (Xm m j).toNat u))
  (hl:l.length≤80) (hm:m.length≤80) (r1:∀j,j<l.length→(Xm l j).toNat<us.length) (r2:∀j,j<m.length→(Xm m j).toNat<vs.length):
  Calls Tryz.prog 194 #[.iface 158 (.agg #[it]), .iface 158 (.agg #[it'])] w fun e w'=>e= .returned (.int .i64 (Yk (fun a b=>ord us vs f a.toNat b.toNat) l m))∧Below w.heap.size w w':=by
 have IH:=Xa ih
 have H1:=Xa h1
 have H2:=Xa h2
 have R1:=Xa r1
 have R2:=Xa r2
 obtain ⟨a1,p1,rfl,_⟩:=h1
 obtain ⟨a2,p2,rfl,_⟩:=h2
 clear ih r1 r2
 have tabool:=Xbz
 have taint:=Vq
 have tatext:=Xb0
 have tamap:=Xgz
 go_enter Tryz.func194,Tryz.ntmps194
 go_wp2_with fail
 refine (V8 _ _ _ _).mono ?_
 rintro e w1 ⟨rfl,hb1⟩
 go_wp2_with fail
 refine (V8 _ _ _ _).mono ?_
 rintro e w2 ⟨rfl,hb2⟩
 have HB2:=Xa (Below.next hb1 hb2)
 clear hb1 hb2
 go_wp2_with fail
 refine (Ju _ _ _).mono ?_
 rintro e w3 ⟨rfl,rfl⟩
 rw[show Y1 5 5=0 from rfl]
 go_wp2_with fail
 refine (Ki _ _ _ _).mono ?_
 rintro e w4 ⟨rfl,hb4⟩
 have HB4:=Xa (Below.next HB2.out hb4)
 clear hb4
 go_wp2_with fail
 refine (Ki _ _ _ _).mono ?_
 rintro e w5 ⟨rfl,hb5⟩
 have HB5:=Xa (Below.next HB4.out hb5)
 clear hb5
 have z5:=HB5.out.size
 go_wp2_with fail
 refine (Wh lo B lo' B' us vs f f' l m _ _ _ (H1.out.keep (HB5.out.mono hB) hlo) (H2.out.keep (HB5.out.mono hB') hlo') hlo hlo' (by omega) (by omega) hl hm R1.out R2.out IH.out).mono ?_
 rintro e w6 ⟨rfl,hb6⟩
 go_wp2_with fail
 go_ret
 exact ⟨rfl,Below.next HB5.out hb6⟩
set_option maxRecDepth 100000 in
theorem Xql (ks ks':List ByteArray) (kv kv':Value) (l m:List Int) (it it':Value) {lo B lo' B':Nat} {us vs:List VN} {f f':Nat} (ih:Xcz lo B lo' B' us vs f f') (hlo:lo≤B) (hlo':lo'≤B') (w:World) (hB:B≤w.heap.size) (hB':B'≤w.heap.size)
  (g1:StrsAt B w kv ks) (g2:StrsAt B' w kv' ks')
  (h1:ItemsG lo B w it l.length (fun j u=>ValG lo B w us f (Xm l j).toNat u)) (h2:ItemsG lo' B' w it' m.length (fun j u=>ValG lo' B' w vs f' (Xm m j).toNat u))
  (hl:l.length≤80) (hm:m.length≤80) (r1:∀j,j<l.length→(Xm l j).toNat<us.length) (r2:∀j,j<m.length→(Xm m j).toNat<vs.length):
  Calls Tryz.prog 194 #[.iface 118 (.agg #[kv,it]), .iface 118 (.agg #[kv',it'])] w fun e w'=>e= .returned (.int .i64 (if Yh ks ks'≠0 then Yh ks ks' else Yk (fun a b=>ord us vs f a.toNat b.toNat) l m))∧Below w.heap.size w w':=by
 have IH:=Xa ih
 have H1:=Xa h1
 have H2:=Xa h2
 have G1:=Xa g1
 have G2:=Xa g2
 have R1:=Xa r1
 have R2:=Xa r2
 obtain ⟨a1,p1,rfl,_⟩:=h1
 obtain ⟨a2,p2,rfl,_⟩:=h2
 obtain ⟨_,_,d1,q1,rfl,_⟩:=g1
 obtain ⟨_,_,d2,q2,rfl,_⟩:=g2
 clear ih r1 r2
 have tabool:=Xc1
 have taint:=Uw
 have tatext:=Xae
 have tamap:=Xdu
 have tb:=Xy7
 have fld:=X2q
 go_enter Tryz.func194,Tryz.ntmps194
 go_wp2_with fail
 refine (Va _ _ _ _ _ _ _).mono ?_
 rintro e w1 ⟨rfl,hb1⟩
 go_wp2_with fail
 refine (Va _ _ _ _ _ _ _).mono ?_
 rintro e w2 ⟨rfl,hb2⟩
 have HB2:=Xa (Below.next hb1 hb2)
 clear hb1 hb2
 go_wp2_with fail
 refine (Ju _ _ _).mono ?_
 rintro e w3 ⟨rfl,rfl⟩
 rw[show Y1 6 6=0 from rfl]
 go_wp2_with fail
 have HBA:=Xa ((HB2.out).alloc HB2.out.size (.cells #[.slice d1 ks.length q1, .slice a1 l.length p1] 118))
 go_quiet ((go_at_call 205;exact Calls.quiet_of_same (Xgx w.heap.size _ _ ks ks' _ ((G1.out.wide hB).below (below_drewN HBA.out _)) ((G2.out.wide hB').below (below_drewN HBA.out _)))))
 obtain ⟨bz,hbz0⟩:∃bz,(Yh ks ks' !=0)=bz:=⟨_,rfl⟩
 have HB3:=Xa (below_drewN HBA.out nq)
 cases bz
 ·have HZ:Hid (Yh ks ks'=0):=by simpa [Hid] using hbz0
  go_wp2_with fail
  refine (Uu _ _ _ _ _ _ _).mono ?_
  rintro e w4 ⟨rfl,hb4⟩
  have HB4:=Xa (Below.next HB3.out hb4)
  clear hb4
  go_wp2_with fail
  refine (Uu _ _ _ _ _ _ _).mono ?_
  rintro e w5 ⟨rfl,hb5⟩
  have HB5:=Xa (Below.next HB4.out hb5)
  clear hb5
  have z5:=HB5.out.size
  go_wp2_with fail
  refine (Wh lo B lo' B' us vs f f' l m _ _ _ (H1.out.keep (HB5.out.mono hB) hlo) (H2.out.keep (HB5.out.mono hB') hlo') hlo hlo' (by omega) (by omega) hl hm R1.out R2.out IH.out).mono ?_
  rintro e w6 ⟨rfl,hb6⟩
  go_wp2_with fail
  go_ret
  exact ⟨Yp (by first|rfl|simp[HZ.out]),Below.next HB5.out hb6⟩
 ·have HZ:Hid (¬Yh ks ks'=0):=by simpa [Hid] using hbz0
  go_wp2_with fail
  go_ret
  exact ⟨Yp (by first|rfl|simp[HZ.out]),HB3.out⟩

set_option maxRecDepth 100000 in
theorem Xml (lo B lo' B' f f' n m:Nat) (us vs:List VN) (v v':Value) (w:World) (h1:ValG lo B w us f n v) (h2:ValG lo' B' w vs f' m v') (hne:(Xb us n).kind≠(Xb vs m).kind):
  Calls Tryz.prog 194 #[v,v'] w fun e w'=>e= .returned (.int .i64 (Y1 (Xb us n).kind (Xb vs m).kind))∧Below w.heap.size w w':=by
 cases f with
 |zero=>exact h1.elim
 |succ f=>
 cases f' with
 |zero=>exact h2.elim
 |succ f'=>
 rcases h1 with ⟨k1,rfl⟩|⟨k1,rfl⟩|⟨k1,rfl⟩|⟨k1,rfl⟩|⟨k1,_,rfl,a1,p1,rfl,_⟩|⟨k1,_,_,rfl,⟨_,_,b1,q1,rfl,_⟩,a1,p1,rfl,_⟩<;>
 rcases h2 with ⟨k2,rfl⟩|⟨k2,rfl⟩|⟨k2,rfl⟩|⟨k2,rfl⟩|⟨k2,_,rfl,a2,p2,rfl,_⟩|⟨k2,_,_,rfl,⟨_,_,b2,q2,rfl,_⟩,a2,p2,rfl,_⟩<;>
 first
 |exact absurd (k1.trans k2.symm) hne
 | (rw [k1, k2]
    clear hne k1 k2
    go_enter Tryz.func194,Tryz.ntmps194
    go_wp2_with fail
    first|refine (K6 _).mono ?_|refine (K7 _ _).mono ?_|refine (K8 _ _).mono ?_|refine (K9 _ _).mono ?_|refine (V8 _ _ _ _).mono ?_|refine (Va _ _ _ _ _ _ _).mono ?_
    rintro e w1 ⟨rfl,hb1⟩
    go_wp2_with fail
    first|refine (K6 _).mono ?_|refine (K7 _ _).mono ?_|refine (K8 _ _).mono ?_|refine (K9 _ _).mono ?_|refine (V8 _ _ _ _).mono ?_|refine (Va _ _ _ _ _ _ _).mono ?_
    rintro e w2 ⟨rfl,hb2⟩
    go_wp2_with fail
    refine (Ju _ _ _).mono ?_
    rintro e w3 ⟨rfl,rfl⟩
    go_wp2_with fail
    go_ret
    exact ⟨rfl,hb1.trans (hb2.mono hb1.size)⟩)

structure FineU (us:List VN):Prop where
 size:us.length≤80
 nodes:∀k,k<us.length→X9 (Xb us k)=true∧Z8 us k=true
 few:∀k,k<us.length→(Xb us k).kids.length≤k
theorem Xgo {us:List VN} (h:okB us=true):FineU us:=by
 obtain ⟨h1,h2,_,h4⟩:=Xp h
 exact ⟨h1.2,h2,h4⟩
theorem FineU.kid {us:List VN} (h:FineU us) {n j:Nat} (hn:n<us.length) (hj:j<(Xb us n).kids.length):(Xm (Xb us n).kids j).toNat<us.length:=by
 have:=Zx (h.nodes n hn).2 hj
 omega
theorem Xfy (us vs:List VN) (hu:FineU us) (hv:FineU vs) (lo B lo' B':Nat) (hlo:lo≤B) (hlo':lo'≤B'):∀f f':Nat,Xcz lo B lo' B' us vs f f':=by
 intro f
 induction f with
 |zero=>intro f' n k v v' w _ _ h;exact h.elim
 | succ f ih =>
  intro f' n k v v' w hn hk h1 h2 hB hB'
  cases f' with
  |zero=>exact h2.elim
  | succ f' =>
   have IH:=ih f'
   have nx:=(hu.nodes n hn).1
   have ny:=(hv.nodes k hk).1
   by_cases hne:(Xb us n).kind=(Xb vs k).kind
   ·have f1:=hu.few n hn
    have f2:=hv.few k hk
    have s1:=hu.size
    have s2:=hv.size
    have absurd2:∀{a b:Int},(Xb us n).kind=a→(Xb vs k).kind=b→a≠b→False:=fun e1 e2 h=>h (by omega)
    rcases h1 with ⟨k1,rfl⟩|⟨k1,rfl⟩|⟨k1,rfl⟩|⟨k1,rfl⟩|⟨k1,it,rfl,i1⟩|⟨k1,ks,it,rfl,g1,i1⟩
    ·rcases h2 with ⟨k2,rfl⟩|⟨k2,_⟩|⟨k2,_⟩|⟨k2,_⟩|⟨k2,_⟩|⟨k2,_⟩
     ·rw[Xaa nx ny k1 k2];exact Xmp IH hlo hlo' w hB hB'
     all_goals exact (absurd2 k1 k2 (by decide)).elim
    ·rcases h2 with ⟨k2,_⟩|⟨k2,rfl⟩|⟨k2,_⟩|⟨k2,_⟩|⟨k2,_⟩|⟨k2,_⟩
     ·exact (absurd2 k1 k2 (by decide)).elim
     ·rw[Xaa nx ny k1 k2];exact Xmq _ _ IH hlo hlo' w hB hB'
     all_goals exact (absurd2 k1 k2 (by decide)).elim
    ·rcases h2 with ⟨k2,_⟩|⟨k2,_⟩|⟨k2,rfl⟩|⟨k2,_⟩|⟨k2,_⟩|⟨k2,_⟩
     ·exact (absurd2 k1 k2 (by decide)).elim
     ·exact (absurd2 k1 k2 (by decide)).elim
     ·rw[Xaa nx ny k1 k2];exact Xqk _ _ IH hlo hlo' w hB hB'
     all_goals exact (absurd2 k1 k2 (by decide)).elim
    ·rcases h2 with ⟨k2,_⟩|⟨k2,_⟩|⟨k2,_⟩|⟨k2,rfl⟩|⟨k2,_⟩|⟨k2,_⟩
     ·exact (absurd2 k1 k2 (by decide)).elim
     ·exact (absurd2 k1 k2 (by decide)).elim
     ·exact (absurd2 k1 k2 (by decide)).elim
     ·rw[Xaa nx ny k1 k2];exact Xmr _ _ IH hlo hlo' w hB hB'
     all_goals exact (absurd2 k1 k2 (by decide)).elim
    ·rcases h2 with ⟨k2,_⟩|⟨k2,_⟩|⟨k2,_⟩|⟨k2,_⟩|⟨k2,it',rfl,i2⟩|⟨k2,_⟩
     ·exact (absurd2 k1 k2 (by decide)).elim
     ·exact (absurd2 k1 k2 (by decide)).elim
     ·exact (absurd2 k1 k2 (by decide)).elim
     ·exact (absurd2 k1 k2 (by decide)).elim
     ·have hr:ord us vs (f+1) n k=Yk (fun a b=>ord us vs f a.toNat b.toNat) (Xb us n).kids (Xb vs k).kids:=by
       rw[Xaa nx ny k1 k2,Xcy nx (by omega),Xcy ny (by omega)];rfl
      rw[hr]
      exact Xms _ _ _ _ IH hlo hlo' w hB hB' i1 i2 (by omega) (by omega) (fun j hj=>hu.kid hn hj) (fun j hj=>hv.kid hk hj)
     ·exact (absurd2 k1 k2 (by decide)).elim
    ·rcases h2 with ⟨k2,_⟩|⟨k2,_⟩|⟨k2,_⟩|⟨k2,_⟩|⟨k2,_⟩|⟨k2,ks',it',rfl,g2,i2⟩
     ·exact (absurd2 k1 k2 (by decide)).elim
     ·exact (absurd2 k1 k2 (by decide)).elim
     ·exact (absurd2 k1 k2 (by decide)).elim
     ·exact (absurd2 k1 k2 (by decide)).elim
     ·exact (absurd2 k1 k2 (by decide)).elim
     ·have hr:ord us vs (f+1) n k=if Yh (Xb us n).keys (Xb vs k).keys≠0 then Yh (Xb us n).keys (Xb vs k).keys else Yk (fun a b=>ord us vs f a.toNat b.toNat) (Xb us n).kids (Xb vs k).kids:=by
       rw[Xaa nx ny k1 k2];rfl
      rw[hr]
      exact Xql _ _ _ _ _ _ _ _ IH hlo hlo' w hB hB' g1 g2 i1 i2 (by omega) (by omega) (fun j hj=>hu.kid hn hj) (fun j hj=>hv.kid hk hj)
   ·have hr:ord us vs (f+1) n k=Y1 (Xb us n).kind (Xb vs k).kind:=by rw[ord,if_pos hne]
    rw[hr]
    exact Xml lo B lo' B' (f+1) (f'+1) n k us vs v v' w h1 h2 hne

theorem Sw.cell {g:Nat} {w w':World} (h:Sw g w w') {b o:Nat} (hb:b<w.heap.size) (hg:b≠g):w'.cell? ⟨b,o,none⟩=w.cell? ⟨b,o,none⟩:=h.2.2.2.cell hb hg
set_option maxRecDepth 100000 in
theorem Xr0 (B h g:Nat) (l:List ByteArray) (v:Value) (w0:World) (hl:StrsAt B w0 v l) (h1:w0.cell? ⟨h,0,none⟩=some v) (h2:w0.cell? ⟨h+1,0,none⟩=some (.func (.func 204) #[] #[])) (hh:h+1<w0.heap.size) (hg:h+1<g) (hB:B≤h):
  Xix g l.length w0 (.pointer (some ⟨h+1,0,none⟩)) (.pointer (some ⟨h,0,none⟩)) (cfK l):=by
 intro W hsw x y hx1 hx2 hy1 hy2
 obtain ⟨i,rfl⟩:∃i:Nat,x=(i:Int):=⟨x.toNat,by omega⟩
 obtain ⟨j,rfl⟩:∃j:Nat,y=(j:Int):=⟨y.toNat,by omega⟩
 obtain ⟨hln,_,a,cap,rfl,hc⟩:=hl
 obtain ⟨b,o,rfl,hb,hcc⟩:=hc (by omega)
 have d1:=(hsw.cell (show h<w0.heap.size by omega) (show h≠g by omega)).trans h1
 have d2:=(hsw.cell hh (show h+1≠g by omega)).trans h2
 have d3:=(hsw.cell (show b<w0.heap.size by omega) (show b≠g by omega)).trans (hcc i (by omega))
 have d4:=(hsw.cell (show b<w0.heap.size by omega) (show b≠g by omega)).trans (hcc j (by omega))
 have hi:i<l.length:=by omega
 have hj:j<l.length:=by omega
 have HE:Hid (cfK l (i:Int) (j:Int)=Y2 (Xh l i) (Xh l j)):=by rw[Hid,cfK,Int.toNat_natCast,Int.toNat_natCast]
 clear hcc hc h1 h2 hx1 hx2 hy1 hy2
 go_enter Tryz.func213,Tryz.ntmps213
 go_wp2_with fail
 go_quiet ((go_at_call 204;exact Calls.quiet_of_same (Xat _ _ _)))
 go_wp2_with fail
 go_ret
 exact ⟨by rw[HE.out];rfl,nq,rfl⟩
theorem Xkl (R:Int→Int→Prop) (cf:Int→Int→Int) (g N cap:Nat) (w0:World) (c1 c2:Value) (f:Nat→Int) (w:World) (h:AskedS R cf g N w0 c1 c2 f w):
  Calls Tryz.prog 212 #[.slice (some ⟨g,0,none⟩) N cap, .func (.func 213) #[] #[c1,c2]] w fun e w'=>e= .returned (.tuple #[])∧∃f',w'.rowIs g 3 N (Yq f')∧Blk R f f' 0 N∧Sw g w0 w':=by
 have H:=Xa h
 have hNN:=h.NN
 clear h
 go_enter Tryz.func212,Tryz.ntmps212
 go_wp2_with fail
 refine (Xvq R cf g N cap w0 c1 c2 f w H.out).mono ?_
 rintro e w1 ⟨rfl,f1,hr1,hm1,hs1⟩
 have HH:=Xa (And.intro hr1 (And.intro hm1 hs1))
 clear hr1 hm1 hs1
 go_wp2_with fail
 exact ⟨rfl, .tuple #[],results_none rfl _ _ _,rfl,f1,HH.out⟩
theorem Xlo (w:World) (v:Value) (t:TypeId):(w.alloc (.cells #[v] t)).cell? ⟨w.heap.size,0,none⟩=some v:=by
 have h:=heap_alloc_new w (.cells #[v] t)
 unfold World.cell?
 simp only[h]
 rfl
theorem Xax {w:World} {b o:Nat} {v:Value} (h:w.cell? ⟨b,o,none⟩=some v) (hb:b<w.heap.size) (ob:Obj):(w.alloc ob).cell? ⟨b,o,none⟩=some v:=(Xc ((Below.refl w.heap.size w).alloc (Nat.le_refl _) ob) hb).trans h
theorem X5k:(Tryz.prog.info? 3).map (fun i=>(i.zero,i.size,i.bytes))=some (some (.int .i64 0),1,8):=by kernel_rfl
def Xgn (k j:Nat):Int:=if j<k then (j:Int) else 0
set_option maxRecDepth 100000 in
theorem Xhx (B:Nat) (v:Value) (l:List ByteArray) (w:World) (h:StrsAt B w v l) (hB:B≤w.heap.size) (hn:l.length≤1048576):
  Calls Tryz.prog 208 #[v, .func (.func 204) #[] #[]] w fun e w'=>∃g f',e= .returned (.slice (some ⟨g,0,none⟩) l.length l.length)∧w.heap.size≤g∧w'.rowIs g 3 l.length (Yq f')∧Blk (RK l) (fun p=>(p:Int)) f' 0 l.length∧Below w.heap.size w w':=by
 have H:=Xa h
 obtain ⟨_,_,a,cap,rfl,_⟩:=h
 obtain ⟨N,hN⟩:∃N,l.length=N:=⟨_,rfl⟩
 have HN:=Xa hN
 rw[hN] at hn⊢
 rw[hN] at H
 clear hN
 have hmk:=run_make_row' (P:=Tryz.prog) 249 3 (.int .i64 0) 8 Tryz.underlying249 X5k rfl .i64 .i64 N (by omega) (by omega)
 obtain ⟨W3,hW3⟩:∃W3,W3=((w.alloc (.cells #[.slice a N cap] 72)).alloc (.cells #[.func (.func 204) #[] #[]] 243)).alloc (.cells (madeCells #[Value.int .i64 0] N) 3):=⟨_,rfl⟩
 have hr0:W3.rowIs (w.heap.size+1+1) 3 N (Yq (Xgn 0)):=by
  have:=World.rowIs_made ((w.alloc (.cells #[.slice a N cap] 72)).alloc (.cells #[.func (.func 204) #[] #[]] 243)) (.int .i64 0) N 3
  simp only[World.size_alloc] at this
  rw[hW3]
  exact this.congr fun j _=>by simp[Yq,Xgn]
 have d1:W3.cell? ⟨w.heap.size,0,none⟩=some (.slice a N cap):=by
  rw[hW3]
  exact Xax (Xax (Xlo w _ _) (by rw[World.size_alloc];omega) _) (by rw[World.size_alloc,World.size_alloc];omega) _
 have d2:W3.cell? ⟨w.heap.size+1,0,none⟩=some (.func (.func 204) #[] #[]):=by
  rw[hW3]
  have:=Xlo (w.alloc (.cells #[.slice a N cap] 72)) (.func (.func 204) #[] #[]) 243
  rw[World.size_alloc] at this
  exact Xax this (by rw[World.size_alloc,World.size_alloc];omega) _
 have HZ:Hid (W3.heap.size=w.heap.size+1+1+1):=by rw[Hid,hW3];simp
 have HBW:Hid (Below w.heap.size w W3):=by
  rw[Hid,hW3]
  exact (((Below.refl _ _).alloc (Nat.le_refl _) _).alloc (by simp) _).alloc (by simp;omega) _
 have HW3:=Xa hW3
 have HR0:=Xa hr0
 clear hW3 hr0
 go_enter Tryz.func208,Tryz.ntmps208
 go_wp2_with fail
 rw[←HW3.out]
 clear hmk
 go_loopw [12] (fun vi wr=>∃k:Nat,k≤N∧vi= .int .i64 k∧wr.rowIs (w.heap.size+1+1) 3 N (Yq (Xgn k))∧Sw (w.heap.size+1+1) W3 wr) (fun vi _=>N-(intOf vi).toNat)
 case atStart=>exact ⟨0,Nat.zero_le _,rfl,HR0.out,Sw.refl _ _⟩
 case round=>
  obtain ⟨k,hk,rfl,hrow,hsw⟩:=hrel
  by_cases hlt:k<N
  ·have c1:=hrow.cell hlt
   have f1:=hrow.frozen k
   have HNEW:Hid ((wr.setCell ⟨w.heap.size+1+1,k,none⟩ (.int .i64 k)).rowIs (w.heap.size+1+1) 3 N (Yq (Xgn (k+1)))):=by
    refine (hrow.set k _).congr fun p _=> ?_
    unfold Yq Xgn
    by_cases e:p=k
    ·subst e;rw[if_pos rfl,if_pos (by omega)]
    ·rw[if_neg e]
     by_cases c:p<k
     ·rw[if_pos c,if_pos (by omega)]
     ·rw[if_neg c,if_neg (by omega)]
   have HSN:=Xa (hsw.set k (.int .i64 k))
   clear hrow hsw
   go_wp2_with fail
   go_roundw
   case rel=>exact ⟨k+1,by omega,by go_num,HNEW.out,HSN.out⟩
   case measure=>simp[intOf];omega
  ·obtain rfl:k=N:=by omega
   have HC1:=Xa ((hsw.cell (show w.heap.size<W3.heap.size by rw[HZ.out];omega) (by omega)).trans d1)
   have HC2:=Xa ((hsw.cell (show w.heap.size+1<W3.heap.size by rw[HZ.out];omega) (by omega)).trans d2)
   have HSZ:Hid (W3.heap.size≤wr.heap.size):=hsw.2.2.2.1
   have HBR:Hid (Below w.heap.size w wr):=HBW.out.trans (hsw.below (by omega) (by rw[HZ.out];omega))
   have HCM:Hid (Xix (w.heap.size+1+1) k wr (.pointer (some ⟨w.heap.size+1,0,none⟩)) (.pointer (some ⟨w.heap.size,0,none⟩)) (cfK l)):=by
    have:=Xr0 B w.heap.size (w.heap.size+1+1) l (.slice a k cap) wr (H.out.below (HBR.out.mono hB)) HC1.out HC2.out (by have:=HSZ.out;rw[HZ.out] at this;omega) (by omega) hB
    rw[HN.out] at this
    exact this
   have HA:Hid (AskedS (RK l) (cfK l) (w.heap.size+1+1) k wr (.pointer (some ⟨w.heap.size+1,0,none⟩)) (.pointer (some ⟨w.heap.size,0,none⟩)) (fun p=>(p:Int)) wr):=
    ⟨Xxa l,HCM.out,X0t l,hrow.congr fun p hp=>by unfold Yq Xgn;rw[if_pos hp],Sw.refl _ _,fun p hp=>⟨by omega,by omega⟩,hn,fun p q h1 h2=>by omega⟩
   clear hrow hsw d1 d2
   go_wp2_with fail
   refine (Xkl (RK l) (cfK l) (w.heap.size+1+1) k k wr _ _ (fun p=>(p:Int)) wr HA.out).mono ?_
   rintro e w2 ⟨rfl,f2,hr2,hb2,hs2⟩
   have HFIN:=Xa (And.intro hr2 (And.intro hb2 (HBR.out.trans (hs2.below (by omega) (by have:=HSZ.out;rw[HZ.out] at this;omega)))))
   clear hr2 hb2 hs2
   go_wp2_with fail
   go_ret
   exact ⟨_,f2,rfl,by omega,HFIN.out⟩

def Kx (l:List ByteArray) (f:Nat→Int) (k:Nat):List Value:=(List.range k).map fun j=> .string (Xh l (f j).toNat)
def Ky (V:Nat→Value) (f:Nat→Int) (k:Nat):List Value:=(List.range k).map fun j=>V (f j).toNat
theorem Xrz (l:List ByteArray) (f:Nat→Int) (k:Nat):Kx l f (k+1)=Kx l f k++ [.string (Xh l (f k).toNat)]:=by simp[Kx,List.range_succ]
theorem Xo6 (V:Nat→Value) (f:Nat→Int) (k:Nat):Ky V f (k+1)=Ky V f k++ [V (f k).toNat]:=by simp[Ky,List.range_succ]
structure SM (q base:Nat) (w1 wr:World) (n m:Nat) (ks is:List Value) (kv iv:Value):Prop where
 row:wr.rowIs q 118 2 (fun j=>if j=0 then kv else iv)
 rk:wr.ownsRow base 9 1 kv n ks
 ri:wr.ownsRow base 52 1 iv m is
 sw:Sw q w1 wr
 bs:base≤w1.heap.size
 qb:q<base
theorem SM.c0 {q base n m:Nat} {w1 wr:World} {ks is:List Value} {kv iv:Value} (h:SM q base w1 wr n m ks is kv iv):wr.cell? ⟨q,0,none⟩=some kv:=h.row.cell (by omega)
theorem SM.c1 {q base n m:Nat} {w1 wr:World} {ks is:List Value} {kv iv:Value} (h:SM q base w1 wr n m ks is kv iv):wr.cell? ⟨q,1,none⟩=some iv:=h.row.cell (i:=1) (by omega)
theorem SM.drew {q base n m:Nat} {w1 wr:World} {ks is:List Value} {kv iv:Value} (h:SM q base w1 wr n m ks is kv iv):SM q base w1 wr.drew n m ks is kv iv:=⟨h.row,h.rk,h.ri,h.sw.drew,h.bs,h.qb⟩
theorem SM.size {q base n m:Nat} {w1 wr:World} {ks is:List Value} {kv iv:Value} (h:SM q base w1 wr n m ks is kv iv):w1.heap.size≤wr.heap.size:=h.sw.2.2.2.1
theorem Xo7 {q base:Nat} {w1 wr w5:World} {o:Obj} {row:Option Nat} (h:Sw q w1 wr) (hg:(wr.alloc o).grownBy w5 row) (hr:∀x,row=some x→w1.heap.size≤x):Sw q w1 w5:=by
 have hb:Below w1.heap.size wr w5:=((Below.refl _ _).alloc h.2.2.2.1 o).grown hg (by have:=h.2.2.2.1;simp;omega) (fun x hx=>hr x hx)
 exact ⟨hb.os.trans h.1,hb.tape.trans h.2.1,hb.output.trans h.2.2.1,Nat.le_trans h.2.2.2.1 hb.size,fun c h1 h2=>(hb.block c h1).trans (h.2.2.2.2 c h1 h2)⟩
theorem SM.key {q base n m:Nat} {w1 wr w5:World} {ks is:List Value} {kv iv kv' u:Value} {o:Obj} (h:SM q base w1 wr n m ks is kv iv) (hb:base=w1.heap.size)
  (hg:(wr.alloc o).grownBy w5 kv.ownBlock) (hown:w5.ownsRow base 9 1 kv' (n+1) (ks++ [u])):SM q base w1 (w5.setCell ⟨q,0,none⟩ kv') (n+1) m (ks++ [u]) is kv' iv:=by
 have hz:=h.size
 have hqb:=h.qb
 have far:∀x,x<wr.heap.size→kv.ownBlock≠some x→w5.heap[x]? =wr.heap[x]? :=fun x hx hne=>(hg.block x (by simp;omega) (fun e=>hne e.symm)).trans (Below.block ((Below.refl wr.heap.size wr).alloc (Nat.le_refl _) o) x hx)
 have hkq:kv.ownBlock≠some q:=fun e=>by have:=(h.rk.lt q e).1;omega
 have hrow5:w5.rowIs q 118 2 (fun j=>if j=0 then kv else iv):=h.row.of_block (far q h.row.lt hkq)
 have hri5:w5.ownsRow base 52 1 iv m is:=Xqc h.ri (fun x hx=>by
  refine far x (h.ri.lt x hx).2 (fun e=> ?_)
  rcases Yo h.rk h.ri (by decide) with e2|e2
  ·rw[e2] at e;cases e
  ·exact e2 (by rw[e,hx]))
 refine ⟨(hrow5.set 0 kv').congr fun j _=> ?_, ?_, ?_, ?_,h.bs,h.qb⟩
 ·by_cases e:j=0
  ·rw[if_pos e,if_pos e]
  ·rw[if_neg e,if_neg e,if_neg e]
 ·exact Jm hown kv' (fun x hx e=>by have:=(hown.lt x hx).1;omega)
 ·exact Jm hri5 kv' (fun x hx e=>by have:=(h.ri.lt x hx).1;omega)
 ·exact (Xo7 (base:=base) h.sw hg (fun x hx=>by have:=(h.rk.lt x hx).1;omega)).set 0 kv'
theorem SM.item {q base n m:Nat} {w1 wr w5:World} {ks is:List Value} {kv iv iv' u:Value} {o:Obj} (h:SM q base w1 wr n m ks is kv iv) (hb:base=w1.heap.size)
  (hg:(wr.alloc o).grownBy w5 iv.ownBlock) (hown:w5.ownsRow base 52 1 iv' (m+1) (is++ [u])):SM q base w1 (w5.setCell ⟨q,1,none⟩ iv') n (m+1) ks (is++ [u]) kv iv':=by
 have hz:=h.size
 have hqb:=h.qb
 have far:∀x,x<wr.heap.size→iv.ownBlock≠some x→w5.heap[x]? =wr.heap[x]? :=fun x hx hne=>(hg.block x (by simp;omega) (fun e=>hne e.symm)).trans (Below.block ((Below.refl wr.heap.size wr).alloc (Nat.le_refl _) o) x hx)
 have hkq:iv.ownBlock≠some q:=fun e=>by have:=(h.ri.lt q e).1;omega
 have hrow5:w5.rowIs q 118 2 (fun j=>if j=0 then kv else iv):=h.row.of_block (far q h.row.lt hkq)
 have hrk5:w5.ownsRow base 9 1 kv n ks:=Xqc h.rk (fun x hx=>by
  refine far x (h.rk.lt x hx).2 (fun e=> ?_)
  rcases Yo h.rk h.ri (by decide) with e2|e2
  ·rw[e2] at hx;cases hx
  ·exact e2 (by rw[e,hx]))
 refine ⟨(hrow5.set 1 iv').congr fun j hj=> ?_, ?_, ?_, ?_,h.bs,h.qb⟩
 ·by_cases e:j=1
  ·rw[if_pos e,if_neg (by omega)]
  ·rw[if_neg e,if_pos (by omega),if_pos (by omega)]
 ·exact Jm hrk5 iv' (fun x hx e=>by have:=(h.rk.lt x hx).1;omega)
 ·exact Jm hown iv' (fun x hx e=>by have:=(hown.lt x hx).1;omega)
 ·exact (Xo7 (base:=base) h.sw hg (fun x hx=>by have:=(h.ri.lt x hx).1;omega)).set 1 iv'

theorem Xv5:(Tryz.prog.info? 9).map (fun i=>(i.zero,i.size,i.bytes))=some (some (.string ByteArray.empty),1,16):=by kernel_rfl
theorem Xv6:(Tryz.prog.info? 52).map (fun i=>(i.zero,i.size,i.bytes))=some (some .nilIface,1,16):=by kernel_rfl
def Xtp (w:World) (iv:Value) (N:Nat) (V:Nat→Value):Prop:=∃a cap,iv= .slice a N cap∧(0<N→∃b,a=some ⟨b,0,none⟩∧b<w.heap.size∧∀j,j<N→w.cell? ⟨b,j,none⟩=some (V j)∧∃t x,V j= .iface t x)
set_option maxRecDepth 100000 in
theorem Xl9 (B:Nat) (kv iv:Value) (l:List ByteArray) (V:Nat→Value) (w:World) (hk:StrsAt B w kv l) (hi:Xtp w iv l.length V) (hB:B≤w.heap.size) (hn:l.length≤10000):
  Calls Tryz.prog 201 #[kv,iv] w fun e w'=>∃f k2 i2,e= .returned (.agg #[k2,i2])∧Blk (RK l) (fun p=>(p:Int)) f 0 l.length∧w'.ownsRow w.heap.size 9 1 k2 l.length (Kx l f l.length)∧w'.ownsRow w.heap.size 52 1 i2 l.length (Ky V f l.length)∧Below w.heap.size w w':=by
 have HK:=Xa hk
 have HI:=Xa hi
 obtain ⟨_,hks,ak,ck,rfl,hkc⟩:=hk
 obtain ⟨ai,ci,rfl,hic⟩:=hi
 have HKC:=Xa hkc
 have HIC:=Xa hic
 clear hkc hic
 obtain ⟨N,hN⟩:∃N,l.length=N:=⟨_,rfl⟩
 have HN:=Xa hN
 have HKS:=Xa hks
 rw[hN] at hn HKC HIC⊢
 rw[hN] at HK
 clear hN hks
 obtain ⟨j0,hj0,hy0,hs0,hb0⟩:=info_parts Xv5
 obtain ⟨j1,hj1,hy1,hs1,hb1'⟩:=info_parts Xv6
 obtain ⟨W2,hW2⟩:∃W2,W2=(w.alloc (.cells #[.slice none 0 0, .slice none 0 0] 118)).alloc (.cells #[.slice none 0 0, .slice none 0 0] 118):=⟨_,rfl⟩
 have hr2:W2.rowIs (w.heap.size+1) 118 2 (fun j=>if j=0 then .slice none 0 0 else .slice none 0 0):=by
  have:=World.rowIs_alloc (w.alloc (.cells #[.slice none 0 0, .slice none 0 0] 118)) #[.slice none 0 0, .slice none 0 0] 118 (fun _=> .slice none 0 0) (fun i hi=>by
   match i,hi with
   |0,_=>rfl
   |1,_=>rfl)
  rw[World.size_alloc] at this
  rw[hW2]
  exact this.congr fun j _=>by simp
 have hr3:W2.rowIs w.heap.size 118 2 (fun _=> .slice none 0 0):=by
  have:=World.rowIs_alloc w #[.slice none 0 0, .slice none 0 0] 118 (fun _=> .slice none 0 0) (fun i hi=>by
   match i,hi with
   |0,_=>rfl
   |1,_=>rfl)
  rw[hW2]
  exact this.alloc _
 have HR3:=Xa hr3
 clear hr3
 have hz2:W2.heap.size=w.heap.size+1+1:=by rw[hW2,World.size_alloc,World.size_alloc]
 have hbw:Below w.heap.size w W2:=by
  rw[hW2]
  exact ((Below.refl _ _).alloc (Nat.le_refl _) _).alloc (by rw[World.size_alloc];omega) _
 have HW2:=Xa hW2
 have HR2:=Xa hr2
 have HZ2:=Xa hz2
 have HBW:=Xa hbw
 clear hW2 hr2 hz2 hbw
 go_enter Tryz.func201,Tryz.ntmps201
 go_wp2_with fail
 rw[←HW2.out]
 refine (Xhx B _ l W2 (HK.out.below (HBW.out.mono hB)) (by rw[HZ2.out];omega) (by rw[HN.out];omega)).mono ?_
 rintro e w1 ⟨g,f,rfl,hg,hrow,hblk,hb1⟩
 rw[HN.out] at hrow hblk⊢
 rw[HZ2.out] at hg
 have HROW:=Xa hrow
 have HBLK:=Xa hblk
 have hgl:=hrow.lt
 have z1:=hb1.size
 rw[HZ2.out] at z1
 have HR4:=Xa (Y3 HR3.out hb1 (by rw[HZ2.out];omega))
 have HB1:Hid (Below w.heap.size w w1):=HBW.out.trans (hb1.mono (by rw[HZ2.out];omega))
 have HS0:Hid (SM (w.heap.size+1) w1.heap.size w1 w1 0 0 [] [] (.slice none 0 0) (.slice none 0 0)):=⟨Y3 HR2.out hb1 (by rw[HZ2.out];omega),World.ownsRow_nil _ _ _ _,World.ownsRow_nil _ _ _ _,Sw.refl _ _,Nat.le_refl _,by omega⟩
 clear hrow hblk hb1
 go_wp2_with fail
 go_loopw [11] (fun vi wr=>∃(k:Nat) (kv iv:Value),k≤N∧vi= .int .i64 k∧SM (w.heap.size+1) w1.heap.size w1 wr k k (Kx l f k) (Ky V f k) kv iv) (fun vi _=>N-(intOf vi).toNat)
 case atStart=>exact ⟨0,_,_,Nat.zero_le _,rfl,HS0.out⟩
 case round=>
  obtain ⟨k,kv,iv,hk,rfl,hsm⟩:=hrel
  clear HS0
  have HSM:=Xa hsm
  obtain ⟨a3,c3,e3⟩:=Xj hsm.rk
  obtain ⟨a4,c4,e4⟩:=Xj hsm.ri
  subst e3 e4
  have q0:=hsm.c0
  have q1:=hsm.c1
  have fq:=hsm.row.frozen
  have hql:=hsm.row.lt
  have zr:=hsm.size
  by_cases hlt:k<N
  case neg=>
   obtain rfl:k=N:=by omega
   have HBR:Hid (Below w.heap.size w wr):=HB1.out.trans (hsm.sw.below (by omega) (by omega))
   have hr5:wr.rowIs w.heap.size 118 2 (fun _=> .slice none 0 0):=HR4.out.of_block (hsm.sw.2.2.2.2 w.heap.size (by omega) (by show ¬w.heap.size=w.heap.size+1;omega))
   have y0:=hr5.cell (i:=0) (by omega)
   have y1:=hr5.cell (i:=1) (by omega)
   have fy:=hr5.frozen
   have hne:w.heap.size≠w.heap.size+1:=by omega
   have HK2:=Xa (Qc (Jm (o:=1) (Jm (o:=0) hsm.rk (b:=w.heap.size) (.slice a3 k c3) (fun x hx=>by have:=(hsm.rk.lt x hx).1;omega)) (b:=w.heap.size) (.slice a4 k c4) (fun x hx=>by have:=(hsm.rk.lt x hx).1;omega)) (show w.heap.size≤w1.heap.size by omega))
   have HI2:=Xa (Qc (Jm (o:=1) (Jm (o:=0) hsm.ri (b:=w.heap.size) (.slice a3 k c3) (fun x hx=>by have:=(hsm.ri.lt x hx).1;omega)) (b:=w.heap.size) (.slice a4 k c4) (fun x hx=>by have:=(hsm.ri.lt x hx).1;omega)) (show w.heap.size≤w1.heap.size by omega))
   clear hsm hr5
   go_wp2_with fail
   refine bodyPost_ret (v:= .agg #[.slice a3 k c3, .slice a4 k c4]) (by simp[results,Tryz.results201,go_sem,y0,y1,hne]) rfl ⟨f,_,_,rfl,HBLK.out,HK2.out,HI2.out, ?_⟩
   exact (HBR.out.setCell (p:=⟨w.heap.size,0,none⟩) (Nat.le_refl _) _).setCell (p:=⟨w.heap.size,1,none⟩) (Nat.le_refl _) _
  case pos=>
  obtain ⟨p,p1,p2,p3⟩:=HBLK.out.1 k (Nat.zero_le _) hlt
  have hfk:f k=(p:Int):=p3
  obtain ⟨bK,oK,rfl,hbK,hcK⟩:=HKC.out (by omega)
  obtain ⟨bI,rfl,hbI,hcI⟩:=HIC.out (by omega)
  obtain ⟨hcI1,tI,xI,eI⟩:=hcI p (by omega)
  have d1:wr.cell? ⟨g,k,none⟩=some (.int .i64 (p:Int)):=by
   rw[hsm.sw.cell hgl (by omega),HROW.out.cell hlt]
   unfold Yq
   rw[hfk]
  have d2:wr.cell? ⟨bK,oK+p,none⟩=some (.string (Xh l p)):=by
   rw[hsm.sw.cell (by omega) (by omega),Xc HB1.out (by omega)]
   exact hcK p (by omega)
  have d3:wr.cell? ⟨bI,p,none⟩=some (.iface tI xI):=by
   rw[hsm.sw.cell (by omega) (by omega),Xc HB1.out hbI,hcI1,eI]
  have HD3:Hid (w1.cell? ⟨bI,p,none⟩=some (.iface tI xI)):=by rw[Hid,Xc HB1.out hbI,hcI1,eI]
  have hpN:p<N:=by omega
  have HKS1:Hid (Kx l f (k+1)=Kx l f k++ [.string (Xh l p)]):=by rw[Hid,Xrz,hfk,Int.toNat_natCast]
  have HIT1:Hid (Ky V f (k+1)=Ky V f k++ [.iface tI xI]):=by rw[Hid,Xo6,hfk,Int.toNat_natCast,eI]
  clear hcK hcI hcI1 p3 hfk hsm
  obtain ⟨s,hs⟩:∃s,Xh l p=s:=⟨_,rfl⟩
  rw[hs] at d2 HKS1
  clear hs
  have HRK:Hid ((wr.drew.alloc (.cells #[.string s] 9)).ownsRow w1.heap.size 9 1 (.slice a3 k c3) k (Kx l f k)):=Z2 HSM.out.rk (((Below.refl wr.heap.size wr).drew).alloc (Nat.le_refl _) _) (fun x hx=>(HSM.out.rk.lt x hx).2)
  have HNW:Hid (∀j u,[Value.string s][j]? =some u→(wr.drew.alloc (.cells #[.string s] 9)).cell? ((⟨wr.heap.size,0,none⟩:Addr).add j)=some u):=World.news_of_block (cs:= #[.string s]) (t:=9) (fr:=(0,0)) (heap_alloc_new wr.drew _)
  have hone:∀u∈ [Value.string s],u.oneCell'=true:=fun u hu=>by simp at hu;subst hu;rfl
  have hml:k+1≤maxLen:=by unfold maxLen;omega
  have hby:(k+1) *16≤140737488355328:=by omega
  have hbs:w1.heap.size≤(wr.drew.alloc (.cells #[.string s] 9)).heap.size:=by simp;omega
  have htop:(wr.drew.alloc (.cells #[.string s] 9)).heap.size=wr.heap.size+1:=by simp
  have HQK:Hid ((Value.slice a3 k c3).ownBlock≠some (w.heap.size+1)):=fun e=>by have:=(HSM.out.rk.lt _ e).1;omega
  have x0:(wr.drew.alloc (.cells #[.string s] 9)).cell? ⟨w.heap.size+1,0,none⟩=some (.slice a3 k c3):=Xax q0 hql _
  have HX0:=Xa x0
  have HF0:Hid ((wr.drew.alloc (.cells #[.string s] 9)).frozen? ⟨w.heap.size+1,0,none⟩=false):=(((Below.refl wr.heap.size wr).drew.alloc (Nat.le_refl _) _).frozen (p:=⟨w.heap.size+1,0,none⟩) hql).trans (fq 0)
  clear x0
  go_wp2_with fail
  go_region_law
   (refine step_append_lies _ (by rfl) _ _ _ (by rfl) w1.heap.size 9 j0 (.string ByteArray.empty) 1 16 Tryz.underlying72 hj0 hy0 hs0 hb0 rfl (by omega) (.slice a3 k c3) k (Kx l f k) (by rfl) HRK.out ⟨wr.heap.size,0,none⟩ 1 1 [.string s] (by rfl) (by rfl) HNW.out hone (by omega) hml hby hbs (wr.heap.size+1) htop ?_;intro g5 cap5 w5 hown hgrow hat hlt5;have hS3:w5.cell? ⟨w.heap.size+1,0,none⟩=some (.slice a3 k c3):=(World.grownBy.cell_far hgrow ⟨w.heap.size+1,0,none⟩ (by simp;omega) (Ne.symm HQK.out)).trans HX0.out;have hf3:w5.frozen? ⟨w.heap.size+1,0,none⟩=false:=(World.grownBy.frozen_far hgrow ⟨w.heap.size+1,0,none⟩ (by simp;omega) (Ne.symm HQK.out)).trans HF0.out)
  all_goals
   have HG5:Hid ((wr.drew.alloc (.cells #[.string s] 9)).grownBy w5 (Value.slice a3 k c3).ownBlock):=hgrow
   have HSK:=Xa (HSM.out.drew.key rfl HG5.out hown)
   generalize w5.setCell ⟨w.heap.size+1,0,none⟩ (Value.slice (some ⟨g5,0,none⟩) (k+1) cap5)=W6 at HSK⊢
   clear HG5 hgrow hown hat hlt5 hS3 hf3 HRK HNW hone hbs htop HQK HX0 HF0 q0 q1 fq hql zr d1 d2 d3 HSM
   have q1:=HSK.out.c1
   have fq:=HSK.out.row.frozen
   have hql:=HSK.out.row.lt
   have zr:=HSK.out.size
   have d3:W6.cell? ⟨bI,p,none⟩=some (.iface tI xI):=(HSK.out.sw.cell (by omega) (by omega)).trans HD3.out
   have HRI:Hid ((W6.drew.alloc (.cells #[.iface tI xI] 52)).ownsRow w1.heap.size 52 1 (.slice a4 k c4) k (Ky V f k)):=Z2 HSK.out.ri (((Below.refl W6.heap.size W6).drew).alloc (Nat.le_refl _) _) (fun x hx=>(HSK.out.ri.lt x hx).2)
   have HNW:Hid (∀j u,[Value.iface tI xI][j]? =some u→(W6.drew.alloc (.cells #[.iface tI xI] 52)).cell? ((⟨W6.heap.size,0,none⟩:Addr).add j)=some u):=World.news_of_block (cs:= #[.iface tI xI]) (t:=52) (fr:=(0,0)) (heap_alloc_new W6.drew _)
   have hone:∀u∈ [Value.iface tI xI],u.oneCell'=true:=fun u hu=>by simp at hu;subst hu;rfl
   have hbs:w1.heap.size≤(W6.drew.alloc (.cells #[.iface tI xI] 52)).heap.size:=by simp;omega
   have htop:(W6.drew.alloc (.cells #[.iface tI xI] 52)).heap.size=W6.heap.size+1:=by simp
   have HQI:Hid ((Value.slice a4 k c4).ownBlock≠some (w.heap.size+1)):=fun e=>by have:=(HSK.out.ri.lt _ e).1;omega
   have HX1:Hid ((W6.drew.alloc (.cells #[.iface tI xI] 52)).cell? ⟨w.heap.size+1,1,none⟩=some (.slice a4 k c4)):=Xax q1 hql _
   have HF1:Hid ((W6.drew.alloc (.cells #[.iface tI xI] 52)).frozen? ⟨w.heap.size+1,1,none⟩=false):=(((Below.refl W6.heap.size W6).drew.alloc (Nat.le_refl _) _).frozen (p:=⟨w.heap.size+1,1,none⟩) hql).trans (fq 1)
   go_wp2_with fail
   go_region_law
    (refine step_append_lies _ (by rfl) _ _ _ (by rfl) w1.heap.size 52 j1 .nilIface 1 16 Tryz.underlying58 hj1 hy1 hs1 hb1' rfl (by omega) (.slice a4 k c4) k (Ky V f k) (by rfl) HRI.out ⟨W6.heap.size,0,none⟩ 1 1 [.iface tI xI] (by rfl) (by rfl) HNW.out hone (by omega) hml hby hbs (W6.heap.size+1) htop ?_;intro g7 cap7 w7 hown hgrow hat hlt7;have hS3:w7.cell? ⟨w.heap.size+1,1,none⟩=some (.slice a4 k c4):=(World.grownBy.cell_far hgrow ⟨w.heap.size+1,1,none⟩ (by simp;omega) (Ne.symm HQI.out)).trans HX1.out;have hf3:w7.frozen? ⟨w.heap.size+1,1,none⟩=false:=(World.grownBy.frozen_far hgrow ⟨w.heap.size+1,1,none⟩ (by simp;omega) (Ne.symm HQI.out)).trans HF1.out)
   all_goals
    have HG7:Hid ((W6.drew.alloc (.cells #[.iface tI xI] 52)).grownBy w7 (Value.slice a4 k c4).ownBlock):=hgrow
    have HSN:=Xa (HSK.out.drew.item rfl HG7.out hown)
    rw[←HKS1.out,←HIT1.out] at HSN
    clear HG7 hgrow hown
    go_wp2_with fail
    go_roundw
    case rel=>exact ⟨k+1,_,_,by omega,by go_num,HSN.out⟩
    case measure=>simp[intOf];omega
end Go.Proofs.YtdjddneidbddpaaGreatDoor
