import Derived.Test.YtdjddneidbddpaaGreatDoorCmp
import Derived.Test.YtdjddneidbddpaaGreatDoorIMinA
import Derived.Deep.QuietTactic
import Derived.BigQuiet
import Derived.WalkSmall
import Derived.Deep.RegionWith
import Derived.Test.YtdjddneidbddpaaGreatDoorEqSS
import Derived.Test.YtdjddneidbddpaaGreatDoorPsZ
import Derived.Test.YtdjddneidbddpaaGreatDoorTo
import Derived.Test.YtdjddneidbddpaaGreatDoorSSort
import Derived.Test.YtdjddneidbddpaaGreatDoorByP
namespace Go.Proofs.YtdjddneidbddpaaGreatDoor
set_option linter.unusedSectionVars false
set_option maxRecDepth 100000
set_option maxHeartbeats 8000000
open Go.RowKit
set_option linter.unusedSimpArgs false
set_option linter.unusedVariables false
theorem Kv {l:List ByteArray} {j:Nat} (h:j<l.length):Xf l j=l[j]:=by simp[Xf,h]
theorem Xfa {l m:List ByteArray} {k:Nat} (h1:k<l.length) (h2:k<m.length):Ya (l.drop k) (m.drop k)=if Yw (Xf l k) (Xf m k)≠0 then Yw (Xf l k) (Xf m k) else Ya (l.drop (k+1)) (m.drop (k+1)):=by
 rw[List.drop_eq_getElem_cons h1,List.drop_eq_getElem_cons h2,Ya,Kv h1,Kv h2]
theorem Xfb {l m:List ByteArray} {k:Nat} (h1:k<l.length) (h2:m.length<=k):Ya (l.drop k) (m.drop k)=1:=by
 rw[List.drop_eq_getElem_cons h1,List.drop_of_length_le h2,Ya]
theorem Xfc {l m:List ByteArray} {k:Nat} (h1:l.length<=k) (h2:k<m.length):Ya (l.drop k) (m.drop k)= -1:=by
 rw[List.drop_of_length_le h1,List.drop_eq_getElem_cons h2,Ya]
theorem Xgt {l m:List ByteArray} {k:Nat} (h1:l.length<=k) (h2:m.length<=k):Ya (l.drop k) (m.drop k)=0:=by
 rw[List.drop_of_length_le h1,List.drop_of_length_le h2,Ya]
def Ye (R:Int->Int->Int):List Int->List Int->Int
 |[],[]=>0
 |[],_::_=> -1
 |_::_,[]=>1
 |a::l,b::m=>if R a b≠0 then R a b else Ye R l m
theorem Xfd {R:Int->Int->Int} {l m:List Int} {k:Nat} (h1:k<l.length) (h2:k<m.length):Ye R (l.drop k) (m.drop k)=if R (Xj l k) (Xj m k)≠0 then R (Xj l k) (Xj m k) else Ye R (l.drop (k+1)) (m.drop (k+1)):=by
 rw[List.drop_eq_getElem_cons h1,List.drop_eq_getElem_cons h2,Ye,Y8 h1,Y8 h2]
theorem Xfe {R:Int->Int->Int} {l m:List Int} {k:Nat} (h1:k<l.length) (h2:m.length<=k):Ye R (l.drop k) (m.drop k)=1:=by
 rw[List.drop_eq_getElem_cons h1,List.drop_of_length_le h2,Ye]
theorem Xff {R:Int->Int->Int} {l m:List Int} {k:Nat} (h1:l.length<=k) (h2:k<m.length):Ye R (l.drop k) (m.drop k)= -1:=by
 rw[List.drop_of_length_le h1,List.drop_eq_getElem_cons h2,Ye]
theorem Xgu {R:Int->Int->Int} {l m:List Int} {k:Nat} (h1:l.length<=k) (h2:m.length<=k):Ye R (l.drop k) (m.drop k)=0:=by
 rw[List.drop_of_length_le h1,List.drop_of_length_le h2,Ye]
theorem Xl5 {R:Int->Int->Int} (hR:∀a b,-1<=R a b/\R a b<=1):∀l m,-1<=Ye R l m/\Ye R l m<=1:=by
 intro l
 induction l with
 |nil=>intro m;cases m<;>simp[Ye]
 |cons a l ih=>
  intro m
  cases m with
  |nil=>simp[Ye]
  |cons b m=>
   rw[Ye]
   split
   ·exact hR _ _
   ·exact ih m
def ord (us vs:List VN):Nat->Nat->Nat->Int
 |0,_,_=>0
 |f+1,n,m=>
  if (Xb us n).kind≠(Xb vs m).kind then Yv (Xb us n).kind (Xb vs m).kind
  else if (Xb us n).n≠(Xb vs m).n then Yv (Xb us n).n (Xb vs m).n
  else if Yw (Xb us n).s (Xb vs m).s≠0 then Yw (Xb us n).s (Xb vs m).s
  else if Ya (Xb us n).keys (Xb vs m).keys≠0 then Ya (Xb us n).keys (Xb vs m).keys
  else Ye (fun a b=>ord us vs f a.toNat b.toNat) (Xb us n).kids (Xb vs m).kids
theorem Xw9 (us vs:List VN):∀f n m,-1<=ord us vs f n m/\ord us vs f n m<=1:=by
 intro f
 induction f with
 |zero=>intro n m;simp[ord]
 |succ f ih=>
  intro n m
  rw[ord]
  split
  ·rcases Xdi (Xb us n).kind (Xb vs m).kind with h|h|h<;>omega
  split
  ·rcases Xdi (Xb us n).n (Xb vs m).n with h|h|h<;>omega
  split
  ·rcases Us (Xb us n).s.toList (Xb vs m).s.toList with h|h|h<;>(unfold Yw;omega)
  split
  ·rcases Xly (Xb us n).keys (Xb vs m).keys with h|h|h<;>omega
  ·exact Xl5 (fun a b=>ih _ _) _ _
theorem Xgh (B:Nat) (v1 v2:Value) (l m:List ByteArray) (w:World) (h1:StrsAt B w v1 l) (h2:StrsAt B w v2 m):
  Calls Tryz.prog 205 #[v1,v2] w fun e w'=>e= .returned (.int .i64 (Ya l m))/\w'=w:=by
 obtain ⟨t,_,D,c1,rfl,c⟩:=h1
 obtain ⟨y,_,F,G,rfl,d⟩:=h2
 have g:=Xa c
 have j:=Xa d
 clear c d
 go_enter Tryz.func205,Tryz.ntmps205
 go_wp2_with fail
 go_loopw [11] (fun i wr=>∃k:Nat,k<=l.length/\i= .int .i64 k/\Hid (k<=m.length/\Ya (l.drop k) (m.drop k)=Ya l m)/\wr=w) (fun i _=>l.length-(intOf i).toNat)
 case atStart=>exact ⟨0,Nat.zero_le _,rfl,⟨Nat.zero_le _,by simp⟩,rfl⟩
 case round=>
  obtain ⟨k,J,rfl,f,rfl⟩:=hrel
  by_cases hlt:k<l.length
  ·obtain ⟨L,M,rfl,_,p⟩:=g.out (by omega)
   have P:=p k hlt
   clear p
   by_cases hlm:k<m.length
   ·obtain ⟨R,S,rfl,_,q⟩:=j.out (by omega)
    have T:=q k hlm
    clear q
    have o:¬(m.length:Int)<=(k:Int):=by omega
    have s:=Xa (Xfa hlt hlm)
    by_cases hz:Yw (Xf l k) (Xf m k)=0
    ·have b:=Xa hz
     clear hz
     go_wp2_with fail
     refine (Xib _ _ _).mono ?_
     rintro e z ⟨rfl,rfl⟩
     rw[b.out]
     go_wp2_with fail
     go_roundw
     case rel=>exact ⟨k+1,by omega,by go_num,⟨by omega,by rw[<-f.out.2,s.out];simp[b.out]⟩,by trivial⟩
     case measure=>simp[intOf];omega
    ·have b:Hid (Ya l m=Yw (Xf l k) (Xf m k)):=by rw[Hid,<-f.out.2,s.out];simp[hz]
     have C:(Yw (Xf l k) (Xf m k) !=0)=true:=by simp[hz]
     clear hz
     go_wp2_with fail
     refine (Xib _ _ _).mono ?_
     rintro e z ⟨rfl,rfl⟩
     go_wp2_with fail
     go_ret
     exact ⟨Yl b.out.symm,rfl⟩
   ·have b:Hid (Ya l m=1):=by rw[Hid,<-f.out.2,Xfb hlt (by omega)]
    have o:(m.length:Int)<=(k:Int):=by omega
    go_wp2_with fail
    go_ret
    exact ⟨Yl b.out.symm,rfl⟩
  ·obtain rfl:k=l.length:=by omega
   by_cases hlm:l.length<m.length
   ·have b:Hid (Ya l m= -1):=by rw[Hid,<-f.out.2,Xfc (Nat.le_refl _) hlm]
    go_wp2_with fail
    go_ret
    exact ⟨Yl b.out.symm,rfl⟩
   ·have b:Hid (Ya l m=0):=by rw[Hid,<-f.out.2,Xgt (Nat.le_refl _) (by omega)]
    go_wp2_with fail
    go_ret
    exact ⟨Yl b.out.symm,rfl⟩


structure Two (B:Nat) (w:World) (v1 v2:Value) (us vs:List VN):Prop where
 n1:NodesAt B w v1 us
 n2:NodesAt B w v2 vs
 k1:∀k,k<us.length->Xz (Xb us k)=true/\Z5 us k=true
 k2:∀k,k<vs.length->Xz (Xb vs k)=true/\Z5 vs k=true
theorem Two.below {B:Nat} {w w':World} {v1 v2:Value} {us vs:List VN} (h:Two B w v1 v2 us vs) (hb:Below B w w'):Two B w' v1 v2 us vs:=⟨h.n1.below hb,h.n2.below hb,h.k1,h.k2⟩
theorem Xa2 {x:VN} (h:Xz x=true) (hk:x.kind≠6):x.keys= []:=by
 unfold Xz Yr at h
 simp[hk] at h
 exact h.1.1.2
theorem Xrd (B : Nat) (v1 v2 : Value) (us vs : List VN) : ∀ (f n m : Nat) (w : World), n < f -> n < us.length -> m < vs.length -> Two B w v1 v2 us vs -> B <= w.heap.size ->
  Calls Tryz.prog 163 #[v1, .int .i64 n,v2, .int .i64 m] w fun e w'=>e= .returned (.int .i64 (ord us vs f n m))/\Below w.heap.size w w':=by
 intro f
 induction f with
 |zero=>intro n m w h;omega
 |succ f ih =>
  intro n m w hf hn hm h2 hB
  have H2:=Xa h2
  have IH:=Xa ih
  clear ih
  obtain ⟨b8,a1,co,rfl,y⟩:=h2.n1
  obtain ⟨b9,a2,cp,rfl,z⟩:=h2.n2
  obtain ⟨b1,o1,rfl,cs,bl⟩:=y (by omega)
  obtain ⟨b2,o2,rfl,ct,bm⟩:=z (by omega)
  obtain ⟨ka,ki,hx⟩:=bl n hn
  obtain ⟨cu,cv,hy⟩:=bm m hm
  have c0:=hx.c0
  have c1:=hx.c1
  have c2:=hx.c2
  have c3:=hx.c3
  have c4:=hx.c4
  have d0:=hy.c0
  have d1:=hy.c1
  have d2:=hy.c2
  have d3:=hy.c3
  have d4:=hy.c4
  obtain ⟨lk,_,Y,S,ek,bu⟩:=hx.inn.keys
  obtain ⟨li,_,Z,ci,ei,bv⟩:=hx.inn.kids
  obtain ⟨cw,_,j,d,ca,be⟩:=hy.inn.keys
  obtain ⟨cx,_,l,p,cb,bf⟩:=hy.inn.kids
  subst ek ei ca cb
  have cc:=Xa bu
  have cd:=Xa bv
  have bw:=Xa be
  have bx:=Xa bf
  have bn:=Xa (h2.k1 n hn)
  have bo:=Xa (h2.k2 m hm)
  have HO:Hid (ord us vs (f+1) n m=_):=Xa (ord.eq_def us vs (f+1) n m)
  clear h2 y z bl bm hx hy bu bv be bf
  have l1:b1<w.heap.size:=by omega
  have l2:b2<w.heap.size:=by omega
  by_cases e0:(Xb us n).kind=(Xb vs m).kind
  ·have q0 : ((Xb us n).kind != (Xb vs m).kind) = false := by simp [e0]
   have C:=Xa e0
   clear e0
   by_cases V:(Xb us n).n=(Xb vs m).n
   ·have q1 : ((Xb us n).n != (Xb vs m).n) = false := by simp [V]
    have b0:=Xa V
    clear V
    by_cases X:Yw (Xb us n).s (Xb vs m).s=0
    ·have q2 := Xmf X
     have ce:=Xa X
     have T:Hid (ord us vs (f+1) n m=if Ya (Xb us n).keys (Xb vs m).keys≠0 then Ya (Xb us n).keys (Xb vs m).keys else Ye (fun a b=>ord us vs f a.toNat b.toNat) (Xb us n).kids (Xb vs m).kids):=by
      rw[Hid,ord,if_neg (by simp[C.out]),if_neg (by simp[b0.out]),if_neg (by simp[ce.out])]
     clear X HO
     have x0:((w.alloc (.cells #[.int .i64 (Xb us n).kind, .int .i64 (Xb us n).n, .string (Xb us n).s, .slice Y (Xb us n).keys.length S, .slice Z (Xb us n).kids.length ci] 75)).alloc (.cells #[.int .i64 (Xb vs m).kind, .int .i64 (Xb vs m).n, .string (Xb vs m).s, .slice j (Xb vs m).keys.length d, .slice l (Xb vs m).kids.length p] 75)).cell? ⟨w.heap.size,0,none⟩=some (.int .i64 (Xb us n).kind):=by simp
     have x3:((w.alloc (.cells #[.int .i64 (Xb us n).kind, .int .i64 (Xb us n).n, .string (Xb us n).s, .slice Y (Xb us n).keys.length S, .slice Z (Xb us n).kids.length ci] 75)).alloc (.cells #[.int .i64 (Xb vs m).kind, .int .i64 (Xb vs m).n, .string (Xb vs m).s, .slice j (Xb vs m).keys.length d, .slice l (Xb vs m).kids.length p] 75)).cell? ⟨w.heap.size,3,none⟩=some (.slice Y (Xb us n).keys.length S):=by simp
     have x4:((w.alloc (.cells #[.int .i64 (Xb us n).kind, .int .i64 (Xb us n).n, .string (Xb us n).s, .slice Y (Xb us n).keys.length S, .slice Z (Xb us n).kids.length ci] 75)).alloc (.cells #[.int .i64 (Xb vs m).kind, .int .i64 (Xb vs m).n, .string (Xb vs m).s, .slice j (Xb vs m).keys.length d, .slice l (Xb vs m).kids.length p] 75)).cell? ⟨w.heap.size,4,none⟩=some (.slice Z (Xb us n).kids.length ci):=by simp
     have y3:((w.alloc (.cells #[.int .i64 (Xb us n).kind, .int .i64 (Xb us n).n, .string (Xb us n).s, .slice Y (Xb us n).keys.length S, .slice Z (Xb us n).kids.length ci] 75)).alloc (.cells #[.int .i64 (Xb vs m).kind, .int .i64 (Xb vs m).n, .string (Xb vs m).s, .slice j (Xb vs m).keys.length d, .slice l (Xb vs m).kids.length p] 75)).cell? ⟨w.heap.size+1,3,none⟩=some (.slice j (Xb vs m).keys.length d):=by simp
     have y4:((w.alloc (.cells #[.int .i64 (Xb us n).kind, .int .i64 (Xb us n).n, .string (Xb us n).s, .slice Y (Xb us n).keys.length S, .slice Z (Xb us n).kids.length ci] 75)).alloc (.cells #[.int .i64 (Xb vs m).kind, .int .i64 (Xb vs m).n, .string (Xb vs m).s, .slice j (Xb vs m).keys.length d, .slice l (Xb vs m).kids.length p] 75)).cell? ⟨w.heap.size+1,4,none⟩=some (.slice l (Xb vs m).kids.length p):=by simp
     have sb:((w.alloc (.cells #[.int .i64 (Xb us n).kind, .int .i64 (Xb us n).n, .string (Xb us n).s, .slice Y (Xb us n).keys.length S, .slice Z (Xb us n).kids.length ci] 75)).alloc (.cells #[.int .i64 (Xb vs m).kind, .int .i64 (Xb vs m).n, .string (Xb vs m).s, .slice j (Xb vs m).keys.length d, .slice l (Xb vs m).kids.length p] 75)).heap.size=w.heap.size+1+1:=by simp
     have bb:Below w.heap.size w ((w.alloc (.cells #[.int .i64 (Xb us n).kind, .int .i64 (Xb us n).n, .string (Xb us n).s, .slice Y (Xb us n).keys.length S, .slice Z (Xb us n).kids.length ci] 75)).alloc (.cells #[.int .i64 (Xb vs m).kind, .int .i64 (Xb vs m).n, .string (Xb vs m).s, .slice j (Xb vs m).keys.length d, .slice l (Xb vs m).kids.length p] 75)):=((Below.refl _ _).alloc (Nat.le_refl _) _).alloc (by simp) _
     have HX:=Xa (And.intro x0 (And.intro x3 (And.intro x4 (And.intro y3 y4))))
     have cf:=Xa sb
     have D:=Xa bb
     clear x0 x3 x4 y3 y4 sb bb
     go_enter Tryz.func163,Tryz.ntmps163
     go_wp2_with fail
     generalize ((w.alloc (.cells #[.int .i64 (Xb us n).kind, .int .i64 (Xb us n).n, .string (Xb us n).s, .slice Y (Xb us n).keys.length S, .slice Z (Xb us n).kids.length ci] 75)).alloc (.cells #[.int .i64 (Xb vs m).kind, .int .i64 (Xb vs m).n, .string (Xb vs m).s, .slice j (Xb vs m).keys.length d, .slice l (Xb vs m).kids.length p] 75))=Wb at *
     have cy:w.heap.size+1<Wb.heap.size:=by have:=cf.out;omega
     have ba:=D.out.size
     clear c0 c1 c2 c3 c4 d0 d1 d2 d3 d4 q0 q1 q2
     go_loopw [11] (fun i wr=>∃k:Nat,i= .int .i64 k/\k<=(Xb us n).keys.length/\k<=(Xb vs m).keys.length/\Hid (Ya ((Xb us n).keys.drop k) ((Xb vs m).keys.drop k)=Ya (Xb us n).keys (Xb vs m).keys)/\Below Wb.heap.size Wb wr) (fun i _=>(Xb us n).keys.length-(intOf i).toNat)
     case atStart=>exact ⟨0,rfl,Nat.zero_le _,Nat.zero_le _,by rw[Hid];simp,Below.refl _ _⟩
     case round =>
      obtain ⟨k,rfl,cz,c5,HE,g⟩:=hrel
      have x0:=(Xc (b:=w.heap.size) (o:=0) g (by omega)).trans HX.out.1
      have x3:=(Xc (b:=w.heap.size) (o:=3) g (by omega)).trans HX.out.2.1
      have x4:=(Xc (b:=w.heap.size) (o:=4) g (by omega)).trans HX.out.2.2.1
      have y3:=(Xc (b:=w.heap.size+1) (o:=3) g (by omega)).trans HX.out.2.2.2.1
      have y4:=(Xc (b:=w.heap.size+1) (o:=4) g (by omega)).trans HX.out.2.2.2.2
      have bc:=Xa (D.out.trans (g.mono ba))
      by_cases g1:k<(Xb us n).keys.length
      ·by_cases g2 : k < (Xb vs m).keys.length
       ·obtain ⟨p1, r1, rfl, cg, bg⟩ := cc.out (by omega)
        obtain ⟨p2,r2,rfl,ch,bh⟩:=bw.out (by omega)
        have s1:wr.cell? ⟨p1,r1+k,none⟩=some (.string (Xf (Xb us n).keys k)):=(Xc (bc.out) (by omega)).trans (bg k g1)
        have s2:wr.cell? ⟨p2,r2+k,none⟩=some (.string (Xf (Xb vs m).keys k)):=(Xc (bc.out) (by omega)).trans (bh k g2)
        clear bg bh
        have i1:(k:Int)<(((Xb us n).keys.length:Nat):Int):=by omega
        have i2:(k:Int)<(((Xb vs m).keys.length:Nat):Int):=by omega
        have HS:=Xa (Xfa g1 g2)
        by_cases hz:Yw (Xf (Xb us n).keys k) (Xf (Xb vs m).keys k)=0
        ·have qz:=Xmf hz
         have HZ:=Xa hz
         clear hz
         go_wp2_with fail
         go_quiet (fail)
         go_wp2_with fail
         go_roundw
         case rel=>exact ⟨k+1,by go_num,by omega,by omega,by rw[Hid,<-HE.out,HS.out];simp[HZ.out],below_drewN g nq⟩
         case measure=>simp[intOf];omega
        ·have qz:=Xmg hz
         have q:Hid (ord us vs (f+1) n m=Yw (Xf (Xb us n).keys k) (Xf (Xb vs m).keys k)):=by
          have hc:Ya (Xb us n).keys (Xb vs m).keys=Yw (Xf (Xb us n).keys k) (Xf (Xb vs m).keys k):=by rw[<-HE.out,HS.out];simp[hz]
          rw[Hid,T.out,hc,if_pos hz]
         clear hz
         go_wp2_with fail
         go_quiet (fail)
         go_wp2_with fail
         have t1:(wr.drewN nq).cell? ⟨p1,r1+k,none⟩=some (.string (Xf (Xb us n).keys k)):=s1
         have t2:(wr.drewN nq).cell? ⟨p2,r2+k,none⟩=some (.string (Xf (Xb vs m).keys k)):=s2
         have t3:(wr.drewN nq).cell? ⟨w.heap.size,3,none⟩=some (.slice (some ⟨p1,r1,none⟩) (Xb us n).keys.length S):=x3
         have t4:(wr.drewN nq).cell? ⟨w.heap.size+1,3,none⟩=some (.slice (some ⟨p2,r2,none⟩) (Xb vs m).keys.length d):=y3
         have HW:=Xa (below_drewN g nq)
         clear s1 s2 x0 x3 x4 y3 y4
         generalize wr.drewN nq=wz at *
         go_quiet ((go_at_call 185;exact Calls.quiet_of_same (Xd8 _ _ _)))
         go_wp2_with fail
         go_ret
         exact ⟨Yl q.out.symm,D.out.trans ((below_drewN HW.out _).mono ba)⟩
       ·have i1 : (k : Int) < (((Xb us n).keys.length : Nat) : Int) := by omega
        have i2:¬(k:Int)<(((Xb vs m).keys.length:Nat):Int):=by omega
        have t:(Xb us n).keys.length≠(Xb vs m).keys.length:=by omega
        have F:(Xb us n).kind=6:=by
               by_cases e:(Xb us n).kind=6
               ·exact e
               ·have V:=Xa2 bn.out.1 e
                have X:=Xa2 bo.out.1 (by rw[<-C.out];exact e)
                rw[V,X] at t
                exact absurd rfl t
        have G:Ya (Xb us n).keys (Xb vs m).keys=1:=by rw[<-HE.out];exact Xfb g1 (by omega)
        have q:Hid (ord us vs (f+1) n m=Yv (((Xb us n).keys.length:Nat):Int) (((Xb vs m).keys.length:Nat):Int)):=by
               have bp:Yv (((Xb us n).keys.length:Nat):Int) (((Xb vs m).keys.length:Nat):Int)=1:=by unfold Yv;split<;>(try split)<;>omega
               rw[Hid,T.out,G,bp];rfl
        have qk:((Xb us n).kind==6)=true:=by simp[F]
        have ql:((((Xb us n).keys.length:Nat):Int) !=(((Xb vs m).keys.length:Nat):Int))=true:=by simp;omega
        clear t F G
        go_wp2_with fail
        refine (Ue _ _ _).mono ?_
        rintro e w1 ⟨rfl,rfl⟩
        go_wp2_with fail
        go_ret
        exact ⟨Yl q.out.symm,bc.out⟩
      ·have i1 : ¬ (k : Int) < (((Xb us n).keys.length : Nat) : Int) := by omega
       by_cases g3:(Xb us n).keys.length<(Xb vs m).keys.length
       ·have t:(Xb us n).keys.length≠(Xb vs m).keys.length:=by omega
        have F:(Xb us n).kind=6:=by
               by_cases e:(Xb us n).kind=6
               ·exact e
               ·have V:=Xa2 bn.out.1 e
                have X:=Xa2 bo.out.1 (by rw[<-C.out];exact e)
                rw[V,X] at t
                exact absurd rfl t
        have G:Ya (Xb us n).keys (Xb vs m).keys= -1:=by rw[<-HE.out];exact Xfc (by omega) (by omega)
        have q:Hid (ord us vs (f+1) n m=Yv (((Xb us n).keys.length:Nat):Int) (((Xb vs m).keys.length:Nat):Int)):=by
               have bp:Yv (((Xb us n).keys.length:Nat):Int) (((Xb vs m).keys.length:Nat):Int)= -1:=by unfold Yv;split<;>(try split)<;>omega
               rw[Hid,T.out,G,bp];rfl
        have qk:((Xb us n).kind==6)=true:=by simp[F]
        have ql:((((Xb us n).keys.length:Nat):Int) !=(((Xb vs m).keys.length:Nat):Int))=true:=by simp;omega
        clear t F G
        go_wp2_with fail
        refine (Ue _ _ _).mono ?_
        rintro e w1 ⟨rfl,rfl⟩
        go_wp2_with fail
        go_ret
        exact ⟨Yl q.out.symm,bc.out⟩
       ·have b3 : Ya (Xb us n).keys (Xb vs m).keys = 0 := by rw [<- HE.out]; exact Xgt (by omega) (by omega)
        have q:Hid (ord us vs (f+1) n m=Ye (fun a b=>ord us vs f a.toNat b.toNat) (Xb us n).kids (Xb vs m).kids):=by
               rw[Hid,T.out,b3];simp
        have J:(Xb us n).keys.length=(Xb vs m).keys.length:=by omega
        have ql:((((Xb us n).keys.length:Nat):Int) !=(((Xb vs m).keys.length:Nat):Int))=false:=by simp[J]
        have HQ:=Xa J
        clear b3 J
        obtain ⟨bq,qk⟩:∃bq,((Xb us n).kind==6)=bq:=⟨_,rfl⟩
        have cj:=Xa g
        have c6:=Xa g.size
        cases bq
        all_goals
               go_wp2_with fail
               clear x0 x3 x4 y3 y4 qk ql
               obtain ⟨W3,rfl⟩:∃W3,W3=wr:=⟨_,rfl⟩
               go_loopw [12] (fun i wr=>∃c:Nat,i= .int .i64 c/\c<=(Xb us n).kids.length/\c<=(Xb vs m).kids.length/\Hid (Ye (fun a b=>ord us vs f a.toNat b.toNat) ((Xb us n).kids.drop c) ((Xb vs m).kids.drop c)=Ye (fun a b=>ord us vs f a.toNat b.toNat) (Xb us n).kids (Xb vs m).kids)/\Below Wb.heap.size Wb wr) (fun i _=>(Xb us n).kids.length-(intOf i).toNat)
               case atStart=>exact ⟨0,rfl,Nat.zero_le _,Nat.zero_le _,by rw[Hid];simp,cj.out⟩
               case round =>
                obtain ⟨c,rfl,bl,bm,bd,L⟩:=hrel
                have x4:=(Xc (b:=w.heap.size) (o:=4) L (by omega)).trans HX.out.2.2.1
                have y4:=(Xc (b:=w.heap.size+1) (o:=4) L (by omega)).trans HX.out.2.2.2.2
                have M:=Xa (D.out.trans (L.mono ba))
                have cl:=L.size
                by_cases j1:c<(Xb us n).kids.length
                ·have m1:(c:Int)<(((Xb us n).kids.length:Nat):Int):=by omega
                 by_cases j2:c<(Xb vs m).kids.length
                 ·have m2:(c:Int)<(((Xb vs m).kids.length:Nat):Int):=by omega
                  obtain ⟨p1,r1,rfl,cg,bi⟩:=cd.out (by omega)
                  obtain ⟨p2,r2,rfl,ch,bj⟩:=bx.out (by omega)
                  have cm:=Zw bn.out.2 j1
                  have cn:=Zw bo.out.2 j2
                  obtain ⟨qa,br⟩:∃qa:Nat,Xj (Xb us n).kids c=(qa:Int):=⟨(Xj (Xb us n).kids c).toNat,by omega⟩
                  obtain ⟨qb,bs⟩:∃qb:Nat,Xj (Xb vs m).kids c=(qb:Int):=⟨(Xj (Xb vs m).kids c).toNat,by omega⟩
                  have cq:qa<n:=by omega
                  have cr:qb<m:=by omega
                  have s1:wr.cell? ⟨p1,r1+c,none⟩=some (.int .i64 (qa:Int)):=by rw[<-br];exact (Xc M.out (by omega)).trans (bi c j1)
                  have s2:wr.cell? ⟨p2,r2+c,none⟩=some (.int .i64 (qb:Int)):=by rw[<-bs];exact (Xc M.out (by omega)).trans (bj c j2)
                  have HS:=Xa (Xfd (R:=(fun a b=>ord us vs f a.toNat b.toNat)) j1 j2)
                  have b4:=Xa br
                  have b5:=Xa bs
                  clear bi bj br bs cm cn
                  go_wp2_with fail
                  go_region_with (go_at_call 163;refine (IH.out qa qb _ ?_ ?_ ?_ ?_ ?_).mono ?_;exact (by omega);exact (by omega);exact (by omega);exact (H2.out.below (M.out.mono hB)).below (W9 rfl rfl rfl rfl);exact (by simp;omega);rintro e w5 ⟨rfl,b6⟩)
                  all_goals
                   have b7:Hid (Below Wb.heap.size Wb w5):=L.drew.trans (b6.mono (by simpa using cl))
                   clear b6
                   obtain ⟨bz,bk⟩:∃bz,(ord us vs f qa qb !=0)=bz:=⟨_,rfl⟩
                   cases bz
                   ·have bt:Hid (ord us vs f qa qb=0):=by simpa [Hid] using bk
                    go_wp2_with fail
                    go_roundw
                    case rel=>exact ⟨c+1,by go_num,by omega,by omega,by rw[Hid,<-bd.out,HS.out];simp[b4.out,b5.out,bt.out],b7.out⟩
                    case measure=>simp[intOf];omega
                   ·have bt:Hid (¬ord us vs f qa qb=0):=by simpa [Hid] using bk
                    have P:Hid (ord us vs (f+1) n m=ord us vs f qa qb):=by
                     rw[Hid,q.out,<-bd.out,HS.out];simp[b4.out,b5.out,bt.out]
                    go_wp2_with fail
                    go_ret
                    exact ⟨Yl P.out.symm,D.out.trans (b7.out.mono ba)⟩
                 ·have m2:¬(c:Int)<(((Xb vs m).kids.length:Nat):Int):=by omega
                  have P:Hid (ord us vs (f+1) n m=Yv (((Xb us n).kids.length:Nat):Int) (((Xb vs m).kids.length:Nat):Int)):=by
                   rw[Hid,q.out,<-bd.out,Xfe j1 (by omega)];unfold Yv;split<;>(try split)<;>omega
                  go_wp2_with fail
                  refine (Ue _ _ _).mono ?_
                  rintro e w5 ⟨rfl,rfl⟩
                  go_wp2_with fail
                  go_ret
                  exact ⟨Yl P.out.symm,M.out⟩
                ·have m1:¬(c:Int)<(((Xb us n).kids.length:Nat):Int):=by omega
                 have P:Hid (ord us vs (f+1) n m=Yv (((Xb us n).kids.length:Nat):Int) (((Xb vs m).kids.length:Nat):Int)):=by
                  rw[Hid,q.out,<-bd.out]
                  by_cases j2:c<(Xb vs m).kids.length
                  ·rw[Xff (by omega) j2];unfold Yv;split<;>(try split)<;>omega
                  ·rw[Xgu (by omega) (by omega)];unfold Yv;split<;>(try split)<;>omega
                 go_wp2_with fail
                 refine (Ue _ _ _).mono ?_
                 rintro e w5 ⟨rfl,rfl⟩
                 go_wp2_with fail
                 go_ret
                 exact ⟨Yl P.out.symm,M.out⟩
    ·have q2:=Xmg X
     have T:Hid (ord us vs (f+1) n m=Yw (Xb us n).s (Xb vs m).s):=by
      rw[Hid,ord,if_neg (by simp[C.out]),if_neg (by simp[b0.out]),if_pos X]
     clear X HO
     go_enter Tryz.func163,Tryz.ntmps163
     go_wp2_with fail
     refine (Xd8 _ _ _).mono ?_
     rintro e w1 ⟨rfl,rfl⟩
     go_wp2_with fail
     go_ret
     exact ⟨Yl T.out.symm,((Below.refl _ _).alloc (Nat.le_refl _) _).alloc (by simp) _⟩
   ·have q1:((Xb us n).n !=(Xb vs m).n)=true:=by simp[V]
    have T:Hid (ord us vs (f+1) n m=Yv (Xb us n).n (Xb vs m).n):=by
     rw[Hid,ord,if_neg (by simp[C.out]),if_pos V]
    clear V HO
    go_enter Tryz.func163,Tryz.ntmps163
    go_wp2_with fail
    refine (Ue _ _ _).mono ?_
    rintro e w1 ⟨rfl,rfl⟩
    go_wp2_with fail
    go_ret
    exact ⟨Yl T.out.symm,((Below.refl _ _).alloc (Nat.le_refl _) _).alloc (by simp) _⟩
  ·have T:Hid (ord us vs (f+1) n m=Yv (Xb us n).kind (Xb vs m).kind):=by rw[Hid,ord,if_pos e0]
   have q0:((Xb us n).kind !=(Xb vs m).kind)=true:=by simp[e0]
   clear e0 HO
   go_enter Tryz.func163,Tryz.ntmps163
   go_wp2_with fail
   refine (Ue _ _ _).mono ?_
   rintro e w1 ⟨rfl,rfl⟩
   go_wp2_with fail
   go_ret
   exact ⟨Yl T.out.symm,((Below.refl _ _).alloc (Nat.le_refl _) _).alloc (by simp) _⟩


def Y9 (us vs:List VN):Int:=if okB us=true/\okB vs=true then ord us vs us.length (us.length-1) (vs.length-1) else-2
theorem Xac {us vs:List VN} (h1:okB us=true) (h2:okB vs=true):Y9 us vs=ord us vs us.length (us.length-1) (vs.length-1):=if_pos ⟨h1,h2⟩
theorem Xee (B:Nat) (v1 v2:Value) (us vs:List VN) (w:World) (h:Two B w v1 v2 us vs) (hB:B<=w.heap.size) (hu:1<=us.length/\us.length<=80) (hv:1<=vs.length/\vs.length<=80):
  Calls Tryz.prog 130 #[v1,v2] w fun e w'=>e= .returned (.int .i64 (ord us vs us.length (us.length-1) (vs.length-1)))/\Below w.heap.size w w':=by
 have H:=Xa h
 obtain ⟨_,j,c1,rfl,_⟩:=h.n1
 obtain ⟨_,l,o,rfl,_⟩:=h.n2
 clear h
 obtain ⟨c,d⟩:=hu
 obtain ⟨f,g⟩:=hv
 have p:((us.length:Nat):Int)-1=((us.length-1:Nat):Int):=by omega
 have q:((vs.length:Nat):Int)-1=((vs.length-1:Nat):Int):=by omega
 go_enter Tryz.func130,Tryz.ntmps130
 go_wp2_with fail
 refine (Xrd B _ _ us vs us.length (us.length-1) (vs.length-1) _ (by omega) (by omega) (by omega) H.out hB).mono ?_
 rintro e s ⟨rfl,b⟩
 go_wp2_with fail
 go_ret
 exact ⟨rfl,b⟩


def Jr (x y:Int):Int:=if x=0 then y else x
def R3 (x:Int):Prop:=x= -1\/x=0\/x=1
def Tri (x y z:Int):Prop:=¬(x=1/\y= -1)->¬(x= -1/\y=1)->z=Jr x y
theorem X3q {x y:Int} (hx:R3 x) (hy:R3 y):R3 (Jr x y):=by unfold Jr;split<;>assumption
theorem Xpw (x y:Int):Jr (-x) (-y)= -Jr x y:=by unfold Jr;split<;>split<;>omega
theorem X3r {x1 y1 z1 x2 y2 z2:Int} (hx1:R3 x1) (hy1:R3 y1) (hx2:R3 x2) (hy2:R3 y2) (h1:Tri x1 y1 z1) (h2:Tri x2 y2 z2):Tri (Jr x1 x2) (Jr y1 y2) (Jr z1 z2):=by
 unfold Tri Jr at *
 unfold R3 at *
 intro a b
 rcases hx1 with rfl|rfl|rfl<;>rcases hy1 with rfl|rfl|rfl<;>rcases hx2 with rfl|rfl|rfl<;>rcases hy2 with rfl|rfl|rfl<;>simp at * <;>simp[*]
theorem Xsw (a b:Int):R3 (Yv a b):=Xdi a b
theorem Xll (a b:Int):Yv b a= -Yv a b:=by unfold Yv;split<;>split<;>(try split)<;>omega
theorem X12 (a b c:Int):Tri (Yv a b) (Yv b c) (Yv a c):=by
 unfold Tri Jr Yv
 intro d f
 split<;>split<;>(try split)<;>(try split)<;>(try split)<;>(try split)<;>simp_all<;>omega
structure IsLex {α β:Type} (C:List α->List β->Int) (r:α->β->Int):Prop where
 nn:C [] []=0
 nc:∀b m,C [] (b::m)= -1
 cn:∀a l,C (a::l) []=1
 cc:∀a l b m,C (a::l) (b::m)=Jr (r a b) (C l m)
theorem Xpx {α β:Type} {C:List α->List β->Int} {r:α->β->Int} (h:IsLex C r) (hr:∀a b,R3 (r a b)):∀x y,R3 (C x y):=by
 intro x
 induction x with
 |nil=>intro y;cases y with
  |nil=>rw[h.nn];exact Or.inr (Or.inl rfl)
  |cons b m=>rw[h.nc];exact Or.inl rfl
 |cons a l ih=>intro y;cases y with
  |nil=>rw[h.cn];exact Or.inr (Or.inr rfl)
  |cons b m=>rw[h.cc];exact X3q (hr a b) (ih m)
theorem Xpy {α β:Type} {C:List α->List β->Int} {C':List β->List α->Int} {r:α->β->Int} {r':β->α->Int} (h:IsLex C r) (h':IsLex C' r') (hf:∀a b,r' b a= -r a b):∀x y,C' y x= -C x y:=by
 intro x
 induction x with
 |nil=>intro y;cases y with
  |nil=>rw[h.nn,h'.nn];rfl
  |cons b m=>rw[h.nc,h'.cn];rfl
 |cons a l ih=>intro y;cases y with
  |nil=>rw[h.cn,h'.nc]
  |cons b m=>rw[h.cc,h'.cc,hf,ih,Xpw]
theorem X3s {α β γ:Type} {C1:List α->List β->Int} {C2:List β->List γ->Int} {C3:List α->List γ->Int} {r1:α->β->Int} {r2:β->γ->Int} {r3:α->γ->Int} (h1:IsLex C1 r1) (h2:IsLex C2 r2) (h3:IsLex C3 r3) (hr1:∀a b,R3 (r1 a b)) (hr2:∀b c,R3 (r2 b c)) (ht:∀a b c,Tri (r1 a b) (r2 b c) (r3 a c)):∀x y z,Tri (C1 x y) (C2 y z) (C3 x z):=by
 intro x
 induction x with
 |nil=>
  intro y z
  cases y with
  |nil=>cases z with
   |nil=>rw[h1.nn,h2.nn,h3.nn];intro _ _;rfl
   |cons c k=>rw[h1.nn,h2.nc,h3.nc];intro _ _;rfl
  |cons b m=>cases z with
   |nil=>rw[h1.nc,h2.cn];intro _ h;exact absurd ⟨rfl,rfl⟩ h
   |cons c k=>rw[h1.nc,h3.nc];intro _ _;rfl
 |cons a l ih=>
  intro y z
  cases y with
  |nil=>cases z with
   |nil=>rw[h1.cn,h2.nn,h3.cn];intro _ _;rfl
   |cons c k=>rw[h1.cn,h2.nc];intro h _;exact absurd ⟨rfl,rfl⟩ h
  |cons b m=>cases z with
   |nil=>
    rw[h2.cn,h3.cn]
    intro _ h
    rcases Xpx h1 hr1 (a::l) (b::m) with e|e|e
    ·exact absurd ⟨e,rfl⟩ h
    ·rw[e];rfl
    ·rw[e];rfl
   |cons c k=>
    rw[h1.cc,h2.cc,h3.cc]
    exact X3r (hr1 a b) (hr2 b c) (Xpx h1 hr1 l m) (Xpx h2 hr2 m k) (ht a b c) (ih m k)
theorem Xhr:IsLex Kk (fun a b=>Yv (a.toNat:Int) (b.toNat:Int)):=by
 refine ⟨rfl,fun b m=>rfl,fun a l=>rfl,fun a l b m=> ?_⟩
 rw[Uc]
 unfold Jr Yv
 simp only[UInt8.lt_iff_toNat_lt]
 split<;>(try split)<;>(try split)<;>(try split)<;>simp_all<;>omega
theorem Xsx (a b:ByteArray):R3 (Yw a b):=Us _ _
theorem Xfr (a b:ByteArray):Yw b a= -Yw a b:=Xwa _ _
theorem X13 (a b c:ByteArray):Tri (Yw a b) (Yw b c) (Yw a c):=X3s Xhr Xhr Xhr (fun _ _=>Xsw _ _) (fun _ _=>Xsw _ _) (fun _ _ _=>X12 _ _ _) _ _ _
theorem cmpKeys_lex:IsLex Ya Yw:=by
 refine ⟨rfl,fun b m=>rfl,fun a l=>rfl,fun a l b m=> ?_⟩
 rw[Ya]
 unfold Jr
 by_cases h:Yw a b=0<;>simp[h]
theorem Gu (R:Int->Int->Int):IsLex (Ye R) R:=by
 refine ⟨rfl,fun b m=>rfl,fun a l=>rfl,fun a l b m=> ?_⟩
 rw[Ye]
 unfold Jr
 by_cases h:R a b=0<;>simp[h]
theorem Xdy {p:Prop} [Decidable p] {x y:Int} (h:p↔x≠0):(if p then x else y)=Jr x y:=by
 unfold Jr
 by_cases e:x=0
 ·rw[if_neg (fun hp=>h.1 hp e),if_pos e]
 ·rw[if_pos (h.2 e),if_neg e]
theorem Ws (us vs:List VN) (f n m:Nat):ord us vs (f+1) n m=Jr (Yv (Xb us n).kind (Xb vs m).kind) (Jr (Yv (Xb us n).n (Xb vs m).n) (Jr (Yw (Xb us n).s (Xb vs m).s) (Jr (Ya (Xb us n).keys (Xb vs m).keys) (Ye (fun a b=>ord us vs f a.toNat b.toNat) (Xb us n).kids (Xb vs m).kids)))):=by
 have c:∀a b:Int,(a≠b)↔Yv a b≠0:=fun a b=>(not_congr (Ud a b)).symm
 rw[ord,Xdy (c _ _),Xdy (c _ _),Xdy Iff.rfl,Xdy Iff.rfl]
theorem X14 (us vs:List VN):∀f n m,ord vs us f m n= -ord us vs f n m:=by
 intro f
 induction f with
 |zero=>intro n m;rfl
 |succ f ih=>
  intro n m
  rw[Ws,Ws,Xll (Xb us n).kind,Xll (Xb us n).n,Xfr (Xb us n).s,Xpy cmpKeys_lex cmpKeys_lex Xfr (Xb us n).keys,Xpy (Gu (fun a b=>ord us vs f a.toNat b.toNat)) (Gu (fun a b=>ord vs us f a.toNat b.toNat)) (fun a b=>ih a.toNat b.toNat) (Xb us n).kids]
  simp only[Xpw]
theorem Xl6 {R R':Int->Int->Int}:∀{l m:List Int},(∀a∈l,∀b∈m,R a b=R' a b)->Ye R l m=Ye R' l m:=by
 intro l
 induction l with
 |nil=>intro m _;cases m<;>rfl
 |cons a l ih=>
  intro m h
  cases m with
  |nil=>rfl
  |cons b m=>
   rw[Ye,Ye,h a (List.mem_cons_self ..) b (List.mem_cons_self ..),ih (fun x hx y hy=>h x (List.mem_cons_of_mem _ hx) y (List.mem_cons_of_mem _ hy))]
theorem X4t {vs:List VN} (hok:okB vs=true) {n:Nat} (hn:n<vs.length) {a:Int} (ha:a∈(Xb vs n).kids):a.toNat<n:=by
 obtain ⟨j,b,e⟩:=List.getElem_of_mem ha
 have:=Zw ((Xm hok).2.1 n hn).2 b
 have c:Xj (Xb vs n).kids j=a:=by unfold Xj;rw[List.getD_eq_getElem?_getD,List.getElem?_eq_getElem b];exact e
 rw[c] at this
 omega
theorem Xpz {us vs:List VN} (hok:okB us=true):∀f f' n m,n<f->n<f'->n<us.length->ord us vs f n m=ord us vs f' n m:=by
 intro f
 induction f with
 |zero=>intro f' n m h;omega
 |succ f ih=>
  intro f' n m d g c
  cases f' with
  |zero=>omega
  |succ f'=>
   rw[Ws,Ws]
   congr 4
   exact Xl6 (fun a ha b hb=>by
    have:=X4t hok c ha
    exact ih f' a.toNat b.toNat (by omega) (by omega) (by omega))
theorem Xdz {us vs:List VN} (h1:okB us=true) (h2:okB vs=true) {F:Nat} (hF:us.length<=F):Y9 us vs=ord us vs F (us.length-1) (vs.length-1):=by
 rw[Xac h1 h2]
 have:=(Xm h1).1
 exact Xpz h1 _ _ _ _ (by omega) (by omega) (by omega)
theorem Xp0 {us vs:List VN} (h1:okB us=true) (h2:okB vs=true):Y9 vs us= -Y9 us vs:=by
 rw[Xdz h1 h2 (F:=us.length+vs.length) (by omega),Xdz h2 h1 (F:=us.length+vs.length) (by omega)]
 exact X14 us vs _ _ _
theorem Xp1 {us:List VN} (h1:okB us=true):Y9 us us=0:=by
 have:=Xp0 h1 h1
 omega


theorem Jt {x y:Int}:Jr x y=0↔x=0/\y=0:=by
 unfold Jr
 by_cases e:x=0<;>simp[e]
theorem Xnh (hS:∀a b:ByteArray,Yw a b=0->a=b):∀l m,Ya l m=0->l=m:=by
 intro l
 induction l with
 |nil=>intro m h;cases m with
  |nil=>rfl
  |cons b m=>rw[cmpKeys_lex.nc] at h;omega
 |cons a l ih=>intro m h;cases m with
  |nil=>rw[cmpKeys_lex.cn] at h;omega
  |cons b m=>
   rw[cmpKeys_lex.cc,Jt] at h
   rw[hS a b h.1,ih m h.2]
theorem Xni {α:Type} {R:Int->Int->Int} {g g':Int->α} (hR:∀a b,R a b=0->g a=g' b):∀l m,Ye R l m=0->l.map g=m.map g':=by
 intro l
 induction l with
 |nil=>intro m h;cases m with
  |nil=>rfl
  |cons b m=>rw[(Gu R).nc] at h;omega
 |cons a l ih=>intro m h;cases m with
  |nil=>rw[(Gu R).cn] at h;omega
  |cons b m=>
   rw[(Gu R).cc,Jt] at h
   rw[List.map_cons,List.map_cons,hR a b h.1,ih m h.2]
theorem Xnj (hS:∀a b:ByteArray,Yw a b=0->a=b) (us vs:List VN):∀f n m,ord us vs f n m=0->Xt us f n=Xt vs f m:=by
 intro f
 induction f with
 |zero=>intro n m _;rfl
 |succ f ih=>
  intro n m h
  rw[Ws,Jt,Jt,Jt,Jt] at h
  obtain ⟨c,d,j,l,o⟩:=h
  rw[Xt,Xt,(Ud _ _).1 c,(Ud _ _).1 d,hS _ _ j,Xnh hS _ _ l,Xni (g:=fun k=>Xt us f k.toNat) (g':=fun k=>Xt vs f k.toNat) (fun a b hab=>ih a.toNat b.toNat hab) _ _ o]
theorem Xsd (a b:ByteArray) (h:Yw a b=0):a=b:=by
 have e:a.toList=b.toList:=(Xag _ _).1 h
 rw[Lib.toList_data,Lib.toList_data] at e
 rw[<-Lib.mk_data a,<-Lib.mk_data b,e]
theorem Xgn (x:VN):X5 0 x=x:=by
 unfold X5
 have:x.kids.map (· +(0:Int))=x.kids:=by
  have:(fun k:Int=>k+0)=id:=by funext k;simp
  rw[this,List.map_id]
 rw[this]
theorem Xew {vs:List VN} (hok:okB vs=true):Ys vs (vs.length-1)=vs:=by
 have g:=(Xm hok).1
 have b:Jo vs=true:=by unfold okB at hok;simp only[Bool.and_eq_true] at hok;exact hok.2
 unfold Jo at b
 split at b
 ·rename_i p e
  simp only[Bool.and_eq_true,decide_eq_true_eq] at b
  unfold Ys
  rw[e]
  have c:trF (some p)=0:=by show (p.1:Int)=0;omega
  rw[c]
  have d:vs.length-1+1-(0:Int).toNat=vs.length:=by simp;omega
  rw[d]
  unfold run
  apply List.ext_getElem
  ·simp
  ·intro j l f
   simp only[List.getElem_map,List.getElem_range',Int.neg_zero]
   rw[Xgn]
   unfold Xb
   rw[List.getD_eq_getElem?_getD,show (0:Int).toNat+1 *j=j by simp,List.getElem?_eq_getElem f]
   rfl
 ·cases b
theorem Xnk {us vs:List VN} (h1:okB us=true) (h2:okB vs=true):Y9 us vs=0↔us=vs:=by
 constructor
 ·intro h
  rw[Xdz h1 h2 (F:=us.length+vs.length) (by omega)] at h
  have d:=Xnj Xsd us vs _ _ _ h
  have g:=(Xm h1).1
  have j:=(Xm h2).1
  have b:=(G0 h1 (f:=us.length+vs.length) (m:=us.length-1) (by omega) (by omega)).1
  have c:=(G0 h2 (f:=us.length+vs.length) (m:=vs.length-1) (by omega) (by omega)).1
  rw[Xew h1] at b
  rw[Xew h2] at c
  rw[d] at b
  exact b.symm.trans c
 ·intro h
  subst h
  exact Xp1 h1


def cfK (l:List ByteArray) (x y:Int):Int:=Yw (Xf l x.toNat) (Xf l y.toNat)
def RK (l:List ByteArray) (x y:Int):Prop:=cfK l x y<0\/(cfK l x y=0/\x<y)
theorem Xws (l:List ByteArray):Tot (RK l):=by
 have d:∀a b,R3 (cfK l a b):=fun a b=>Xsx _ _
 have f:∀a b,cfK l b a= -cfK l a b:=fun a b=>Xfr _ _
 have tr:∀a b c,Tri (cfK l a b) (cfK l b c) (cfK l a c):=fun a b c=>X13 _ _ _
 refine ⟨fun x y z h1 h2=> ?_,fun x y h1 h2=> ?_,fun x y h=> ?_⟩
 ·have t:=tr x y z
  have g:=d x y
  have j:=d y z
  unfold RK at *
  unfold Tri Jr at t
  unfold R3 at g j
  rcases h1 with h1|⟨h1,h1'⟩<;>rcases h2 with h2|⟨h2,h2'⟩
  ·left
   have:=t (by omega) (by omega)
   rw[this];split<;>omega
  ·left
   have:=t (by omega) (by omega)
   rw[this];split<;>omega
  ·left
   have:=t (by omega) (by omega)
   rw[this];split<;>omega
  ·right
   have:=t (by omega) (by omega)
   refine ⟨?_,by omega⟩
   rw[this];split<;>omega
 ·have:=f x y
  unfold RK at h1 h2
  omega
 ·have:=f x y
  unfold RK
  rcases Int.lt_or_gt_of_ne h with c|c
  ·by_cases e:cfK l x y<0
   ·exact Or.inl (Or.inl e)
   ·by_cases e2:cfK l x y=0
    ·exact Or.inl (Or.inr ⟨e2,c⟩)
    ·exact Or.inr (Or.inl (by omega))
  ·by_cases e:cfK l y x<0
   ·exact Or.inr (Or.inl e)
   ·by_cases e2:cfK l y x=0
    ·exact Or.inr (Or.inr ⟨e2,c⟩)
    ·exact Or.inl (Or.inl (by omega))
theorem X0j (l:List ByteArray):∀x y:Int,x<y->(cfK l y x<0↔RK l y x):=fun x y h=>by
 unfold RK
 constructor
 ·exact Or.inl
 ·rintro (h|h)
  ·exact h
  ·omega


theorem Xa1 {ks:List ByteArray}:∀{i:Nat} {ns:List ByteArray} {ps:List Nat},Zf ks i=some (ns,ps)->ns=ps.map (Xf ks):=by
 intro i
 induction i with
 |zero=>intro ns ps h;simp[Zf] at h;obtain ⟨rfl,rfl⟩:=h;rfl
 |succ i ih=>
  intro ns ps h
  rw[Zf] at h
  split at h
  ·cases h
  ·rename_i ns0 ps0 h0
   split at h
   ·cases h
   ·injection h with h
    injection h with e1 e2
    subst e1 e2
    have:=ih h0
    rw[List.map_append,List.map_append,List.map_take,List.map_drop,<-this]
    rfl
theorem Xz7 {α:Type} {l:List α} {n:Nat} {x:α} (h:x∈l.drop n):∃j,n<=j/\∃hj:j<l.length,l[j]=x:=by
 obtain ⟨i,b,e⟩:=List.getElem_of_mem h
 rw[List.getElem_drop] at e
 exact ⟨n+i,by omega,by simp at b;omega,e⟩
theorem Xz8 {α:Type} {l:List α} {n:Nat} {x:α} (h:x∈l.take n):∃j,j<n/\∃hj:j<l.length,l[j]=x:=by
 obtain ⟨i,b,e⟩:=List.getElem_of_mem h
 rw[List.getElem_take] at e
 exact ⟨i,by simp at b;omega,by simp at b;omega,e⟩
theorem Xq1 {ks:List ByteArray}:∀{i:Nat} {ns:List ByteArray} {ps:List Nat},Zf ks i=some (ns,ps)->ns.Pairwise fun a b=>Y2 a b=true:=by
 intro i
 induction i with
 |zero=>intro ns ps h;simp[Zf] at h;obtain ⟨rfl,rfl⟩:=h;exact List.Pairwise.nil
 |succ i ih=>
  intro ns ps h
  rw[Zf] at h
  split at h
  ·cases h
  ·rename_i ns0 ps0 h0
   split at h
   ·cases h
   ·rename_i hh
    injection h with h
    injection h with e1 e2
    subst e1 e2
    have d:=ih h0
    have s:Xhw ns0:=fun a b hab hb=>by
     rw[Kv (by omega),Kv hb]
     exact List.pairwise_iff_getElem.1 d a b (by omega) hb hab
    obtain ⟨B,t,z⟩:=Xlp (l:=ns0) (Xf ks i)
    have f:∀x∈ns0.take (Zz ns0 (Xf ks i)),Y2 x (Xf ks i)=true:=fun x hx=>by
     obtain ⟨j,g,c,rfl⟩:=Xz8 hx
     rw[<-Kv c];exact t j g
    have o:∀x∈ns0.drop (Zz ns0 (Xf ks i)),Y2 (Xf ks i) x=true:=fun x hx=>by
     obtain ⟨j,g,c,rfl⟩:=Xz7 hx
     have p:=z (by omega)
     have q:(Xf ns0 (Zz ns0 (Xf ks i))).toList≠(Xf ks i).toList:=fun e=>hh (by unfold Yz;simp[e];omega)
     rw[<-Kv c]
     by_cases e:j=Zz ns0 (Xf ks i)
     ·rw[e];exact Xjd p q
     ·exact Xa6 (Xjd p q) (s _ _ (by omega) c)
    rw[List.append_assoc,List.pairwise_append]
    refine ⟨d.sublist (List.take_sublist _ _), ?_,fun x hx y hy=> ?_⟩
    ·rw[List.singleton_append,List.pairwise_cons]
     exact ⟨fun y hy=>o y hy,d.sublist (List.drop_sublist _ _)⟩
    ·rw[List.singleton_append] at hy
     rcases List.mem_cons.1 hy with rfl|hy
     ·exact f x hx
     ·exact Xa6 (f x hx) (o y hy)
theorem Xwj (a b:ByteArray):Y2 a b=true↔Yw a b<0:=by
 unfold Y2 Yw
 rw[Xeu,decide_eq_true_eq]
 have:=Xsx a b
 unfold R3 Yw at this
 omega
theorem Xz9 {l:List ByteArray} {a b:Nat} (h:Y2 (Xf l a) (Xf l b)=true):RK l (a:Int) (b:Int):=by
 left
 unfold cfK
 rw[Int.toNat_natCast,Int.toNat_natCast]
 exact (Xwj _ _).1 h
theorem Xk2 {A:List Int} {N:Nat} (hn:A.Nodup) (hl:A.length=N) (hs:∀x∈A,0<=x/\x<N):∀x:Int,x∈A↔0<=x/\x<N:=by
 intro x
 refine ⟨hs x,fun hx=> ?_⟩
 apply Classical.byContradiction
 intro b
 have c:(x::A).Nodup:=List.nodup_cons.2 ⟨b,hn⟩
 have d:(x::A)⊆(List.range N).map fun n:Nat=>(n:Int):=fun y hy=>by
  have:0<=y/\y<N:=by
   rcases List.mem_cons.1 hy with rfl|hy
   ·exact hx
   ·exact hs y hy
  exact List.mem_map.2 ⟨y.toNat,List.mem_range.2 (by omega),by omega⟩
 have f:=c.length_le_of_subset d
 simp at f
 omega
theorem Xwk {R:Int->Int->Prop} (hR:Tot R) {A B:List Int} {N:Nat} (ha:A.Pairwise R) (hb:B.Pairwise R) (la:A.length=N) (lb:B.length=N) (sa:∀x∈A,0<=x/\x<N) (sb:∀x∈B,0<=x/\x<N):A=B:=by
 have c:∀x y,R x y->x≠y:=fun x y h e=>by subst e;exact hR.asym _ _ h h
 have d:A.Nodup:=ha.imp (fun h=>c _ _ h)
 have f:B.Nodup:=hb.imp (fun h=>c _ _ h)
 have g:A.Perm B:=(List.perm_ext_iff_of_nodup d f).2 fun x=>by rw[Xk2 d la sa,Xk2 f lb sb]
 exact List.Perm.eq_of_pairwise (fun a b _ _ h1 h2=>absurd h2 (hR.asym _ _ h1)) ha hb g
theorem Xtx {R:Int->Int->Prop} {f:Nat->Int} {N:Nat} (h:Z0 R f 0 N):((List.range N).map f).Pairwise R:=by
 rw[List.pairwise_iff_getElem]
 intro i j d c b
 simp at d c|-
 exact h i j (Nat.zero_le _) b c
theorem Xty {l:List ByteArray} {ns:List ByteArray} {ps:List Nat} {f:Nat->Int} (hs:Zf l l.length=some (ns,ps)) (hf:Blk (RK l) (fun p=>(p:Int)) f 0 l.length):(List.range l.length).map f=ps.map fun n:Nat=>(n:Int):=by
 refine Xwk (Xws l) (N:=l.length) (Xtx hf.2) ?_ (by simp) (by rw[List.length_map];exact (Gl hs).2) ?_ ?_
 ·have c:=Xq1 hs
  rw[Xa1 hs,List.pairwise_map] at c
  rw[List.pairwise_map]
  exact c.imp (fun h=>Xz9 h)
 ·intro x b
  obtain ⟨j,d,rfl⟩:=List.mem_map.1 b
  obtain ⟨q,s,t,g⟩:=hf.1 j (Nat.zero_le _) (List.mem_range.1 d)
  simp only at g
  omega
 ·intro x b
  obtain ⟨n,o,rfl⟩:=List.mem_map.1 b
  have:=Gm hs n o
  omega
theorem Xq2 {ks:List ByteArray}:∀i,(∀a b,a<b->b<i->(Xf ks a).toList≠(Xf ks b).toList)->∃ns ps,Zf ks i=some (ns,ps):=by
 intro i
 induction i with
 |zero=>intro _;exact ⟨[],[],rfl⟩
 |succ i ih=>
  intro h
  obtain ⟨ns,ps,e⟩:=ih (fun a b h1 h2=>h a b h1 (by omega))
  have c:Yz ns (Xf ks i)=false:=by
   refine Xlq fun j hj he=> ?_
   have d:=Xa1 e
   have l:=Gl e
   have f:j<ps.length:=by omega
   have g:Xf ns j=Xf ks (ps[j]):=by
    rw[Kv hj]
    subst d
    simp
   rw[g] at he
   have:=Gm e (ps[j]) (List.getElem_mem _)
   exact h _ i this (by omega) he
  exact ⟨_,_,Xi1 e rfl c⟩


theorem U7 (lo B lo' B':Nat) (us vs:List VN) (f f':Nat) (l m:List Int) (it it':Value) (w:World)
  (h1:ItemsG lo B w it l.length (fun j u=>ValG lo B w us f (Xj l j).toNat u)) (h2:ItemsG lo' B' w it' m.length (fun j u=>ValG lo' B' w vs f' (Xj m j).toNat u))
  (hlo:lo<=B) (hlo':lo'<=B') (hB:B<=w.heap.size) (hB':B'<=w.heap.size) (hl:l.length<=80) (hm:m.length<=80)
  (r1:∀j,j<l.length->(Xj l j).toNat<us.length) (r2:∀j,j<m.length->(Xj m j).toNat<vs.length)
  (ih : ∀ (n k : Nat) (v v' : Value) (w : World), n < us.length -> k < vs.length -> ValG lo B w us f n v -> ValG lo' B' w vs f' k v' -> B <= w.heap.size -> B' <= w.heap.size ->
   Calls Tryz.prog 194 #[v,v'] w fun e w'=>e= .returned (.int .i64 (ord us vs f n k))/\Below w.heap.size w w'):
  Calls Tryz.prog 206 #[it,it', .func (.func 194) #[] #[]] w fun e w'=>e= .returned (.int .i64 (Ye (fun a b=>ord us vs f a.toNat b.toNat) l m))/\Below w.heap.size w w':=by
 obtain ⟨a1,c1,rfl,o⟩:=h1
 obtain ⟨a2,c2,rfl,p⟩:=h2
 have y:=Xa o
 have z:=Xa p
 have Y:=Xa r1
 have Z:=Xa r2
 have IH:=Xa ih
 clear o p r1 r2 ih
 go_enter Tryz.func206,Tryz.ntmps206
 go_wp2_with fail
 go_loopw [13] (fun i wr=>∃k:Nat,k<=l.length/\i= .int .i64 k/\Hid (k<=m.length/\Ye (fun a b=>ord us vs f a.toNat b.toNat) (l.drop k) (m.drop k)=Ye (fun a b=>ord us vs f a.toNat b.toNat) l m)/\Below w.heap.size w wr) (fun i _=>l.length-(intOf i).toNat)
 case atStart=>exact ⟨0,Nat.zero_le _,rfl,⟨Nat.zero_le _,by simp⟩,Below.refl _ _⟩
 case round=>
  obtain ⟨k,hk,rfl,q,c⟩:=hrel
  have C:=c.size
  by_cases hlt:k<l.length
  ·obtain ⟨b1,rfl,_,l1,L⟩:=y.out (by omega)
   obtain ⟨t1,x1,M,P⟩:=L k hlt
   have ba:wr.cell? ⟨b1,k,none⟩=some (.iface t1 x1):=(Xc c (by omega)).trans M
   have D:=Xa (ValG.keep (Z9 (c.mono hB)) (Nat.le_refl _) hlo P)
   clear L M P
   by_cases hlm:k<m.length
   ·obtain ⟨b2,rfl,_,l2,S⟩:=z.out (by omega)
    obtain ⟨t2,x2,T,V⟩:=S k hlm
    have bb:wr.cell? ⟨b2,k,none⟩=some (.iface t2 x2):=(Xc c (by omega)).trans T
    have F:=Xa (ValG.keep (Z9 (c.mono hB')) (Nat.le_refl _) hlo' V)
    clear S T V
    have G:¬(m.length:Int)<=(k:Int):=by omega
    have X:=Xa (Xfd (R:=fun a b=>ord us vs f a.toNat b.toNat) hlt hlm)
    go_wp2_with fail
    refine (IH.out (Xj l k).toNat (Xj m k).toNat _ _ _ (Y.out k hlt) (Z.out k hlm) D.out F.out (by omega) (by omega)).mono ?_
    rintro e w1 ⟨rfl,s⟩
    have t:=Xa (c.trans (s.mono C))
    clear s
    obtain ⟨J,g⟩:∃J,(ord us vs f (Xj l k).toNat (Xj m k).toNat !=0)=J:=⟨_,rfl⟩
    cases J
    ·have d:Hid (ord us vs f (Xj l k).toNat (Xj m k).toNat=0):=by simpa [Hid] using g
     go_wp2_with fail
     go_roundw
     case rel=>exact ⟨k+1,by omega,by go_num,⟨by omega,by rw[<-q.out.2,X.out];simp[d.out]⟩,t.out⟩
     case measure=>simp[intOf];omega
    ·have d:Hid (¬ord us vs f (Xj l k).toNat (Xj m k).toNat=0):=by simpa [Hid] using g
     have HR:Hid (Ye (fun a b=>ord us vs f a.toNat b.toNat) l m=ord us vs f (Xj l k).toNat (Xj m k).toNat):=by rw[Hid,<-q.out.2,X.out];simp[d.out]
     go_wp2_with fail
     go_ret
     exact ⟨Yl HR.out.symm,t.out⟩
   ·have d:Hid (Ye (fun a b=>ord us vs f a.toNat b.toNat) l m=1):=by rw[Hid,<-q.out.2,Xfe hlt (by omega)]
    have G:(m.length:Int)<=(k:Int):=by omega
    go_wp2_with fail
    go_ret
    exact ⟨Yl d.out.symm,c⟩
  ·obtain rfl:k=l.length:=by omega
   by_cases hlm:l.length<m.length
   ·have d:Hid (Ye (fun a b=>ord us vs f a.toNat b.toNat) l m= -1):=by rw[Hid,<-q.out.2,Xff (Nat.le_refl _) hlm]
    go_wp2_with fail
    go_ret
    exact ⟨Yl d.out.symm,c⟩
   ·have d:Hid (Ye (fun a b=>ord us vs f a.toNat b.toNat) l m=0):=by rw[Hid,<-q.out.2,Xgu (Nat.le_refl _) (by omega)]
    go_wp2_with fail
    go_ret
    exact ⟨Yl d.out.symm,c⟩


theorem X2d {x:VN} (h:Xz x=true) (h2:x.kind≠2) (h3:x.kind≠3):x.n=0:=by
 unfold Xz Yr at h
 simp[h2,h3] at h
 exact h.1.1.1.1
theorem Xmk {x:VN} (h:Xz x=true) (h4:x.kind≠4):x.s.toList= []:=by
 unfold Xz Yr at h
 simp only[Bool.and_eq_true,Bool.not_eq_true',Bool.and_eq_false_iff,decide_eq_false_iff_not,Classical.not_not] at h
 exact h.1.1.1.2.resolve_left h4
theorem Xce {x:VN} (h:Xz x=true) (h6:x.kind≠6):x.keys= []:=by
 unfold Xz Yr at h
 simp[h6] at h
 exact h.1.1.2
theorem Xgf {x:VN} (h:Xz x=true) (h5:x.kind≠5) (h6:x.kind≠6):x.kids= []:=by
 unfold Xz Yr at h
 simp[h5,h6] at h
 exact h.1.2
theorem Xln {a b:ByteArray} (ha:a.toList= []) (hb:b.toList= []):Yw a b=0:=by unfold Yw;rw[ha,hb];rfl
theorem Wt {us vs:List VN} {f n m:Nat} {k:Int} (hx:Xz (Xb us n)=true) (hy:Xz (Xb vs m)=true) (k1:(Xb us n).kind=k) (k2:(Xb vs m).kind=k):
  ord us vs (f+1) n m=if k=1 then 0 else if k=2\/k=3 then Yv (Xb us n).n (Xb vs m).n else if k=4 then Yw (Xb us n).s (Xb vs m).s
   else if Ya (Xb us n).keys (Xb vs m).keys≠0 then Ya (Xb us n).keys (Xb vs m).keys else Ye (fun a b=>ord us vs f a.toNat b.toNat) (Xb us n).kids (Xb vs m).kids:=by
 rw[ord,if_neg (by simp[k1,k2])]
 by_cases h23:k=2\/k=3
 ·have c:Yw (Xb us n).s (Xb vs m).s=0:=Xln (Xmk hx (by omega)) (Xmk hy (by omega))
  rw[if_neg (show ¬k=1 by omega),if_pos h23,c,Xce hx (by omega),Xce hy (by omega),Xgf hx (by omega) (by omega),Xgf hy (by omega) (by omega)]
  by_cases e:(Xb us n).n=(Xb vs m).n
  ·simp[e,Ya,Ye,(Ud _ _).2]
  ·simp[e]
 ·rw[if_neg (by rw[X2d hx (by omega) (by omega),X2d hy (by omega) (by omega)];simp),if_neg h23]
  by_cases h4:k=4
  ·rw[if_neg (show ¬k=1 by omega),if_pos h4,Xce hx (by omega),Xce hy (by omega),Xgf hx (by omega) (by omega),Xgf hy (by omega) (by omega)]
   by_cases e:Yw (Xb us n).s (Xb vs m).s=0
   ·simp[e,Ya,Ye]
   ·simp[e]
  ·have c:Yw (Xb us n).s (Xb vs m).s=0:=Xln (Xmk hx (by omega)) (Xmk hy (by omega))
   rw[c,if_neg (by simp),if_neg h4]
   by_cases h1:k=1
   ·rw[if_pos h1,Xce hx (by omega),Xce hy (by omega),Xgf hx (by omega) (by omega),Xgf hy (by omega) (by omega)]
    simp[Ya,Ye]
   ·rw[if_neg h1]
theorem Xi4 (lo B:Nat) (w:World) (P:Nat->Value->Prop):ItemsG lo B w (.slice none 0 0) ([]:List Int).length P:=⟨none,0,rfl,fun h=>absurd h (by simp)⟩
theorem X3t (x:Value) (w:World):(Instr.typeAssert (.iface 113 x) 52 113 false).run Tryz.prog w= .ok x w:=by kernel_rfl
theorem Xi5 (x:Value) (w:World):(Instr.typeAssert (.iface 114 x) 52 114 false).run Tryz.prog w= .ok x w:=by kernel_rfl
theorem Xsy (x:Value) (w:World):(Instr.typeAssert (.iface 116 x) 52 116 false).run Tryz.prog w= .ok x w:=by kernel_rfl
theorem Xyy (x:Value) (w:World):(Instr.typeAssert (.iface 118 x) 52 118 false).run Tryz.prog w= .ok x w:=by kernel_rfl
theorem ItemsG.keep {lo B:Nat} {w w':World} {it:Value} {us:List VN} {f:Nat} {l:List Int} (h:ItemsG lo B w it l.length (fun j u=>ValG lo B w us f (Xj l j).toNat u)) (hb:Below B w w') (hlo:lo<=B):ItemsG lo B w' it l.length (fun j u=>ValG lo B w' us f (Xj l j).toNat u):=by
 obtain ⟨a,c,e,g⟩:=h
 refine ⟨a,c,e,fun hn=> ?_⟩
 obtain ⟨b,o,p,d,q⟩:=g hn
 refine ⟨b,o,p,d,fun j hj=> ?_⟩
 obtain ⟨t,x,s,y⟩:=q j hj
 exact ⟨t,x,(Xc hb d).trans s,ValG.keep (Z9 hb) (Nat.le_refl _) hlo y⟩
def Xcf (lo B lo' B':Nat) (us vs:List VN) (f f':Nat):Prop:=
 ∀ (n k : Nat) (v v' : Value) (w : World), n < us.length -> k < vs.length -> ValG lo B w us f n v -> ValG lo' B' w vs f' k v' -> B <= w.heap.size -> B' <= w.heap.size ->
   Calls Tryz.prog 194 #[v,v'] w fun e w'=>e= .returned (.int .i64 (ord us vs f n k))/\Below w.heap.size w w'
theorem Xab {lo B lo' B':Nat} {us vs:List VN} {f f':Nat} (ih:Xcf lo B lo' B' us vs f f') (hlo:lo<=B) (hlo':lo'<=B') (w:World) (hB:B<=w.heap.size) (hB':B'<=w.heap.size):
  Calls Tryz.prog 206 #[.slice none 0 0, .slice none 0 0, .func (.func 194) #[] #[]] w fun e w'=>e= .returned (.int .i64 0)/\Below w.heap.size w w':=
 U7 lo B lo' B' us vs f f' [] [] _ _ w (Xi4 _ _ _ _) (Xi4 _ _ _ _) hlo hlo' hB hB' (by simp) (by simp) (fun j hj=>absurd hj (by simp)) (fun j hj=>absurd hj (by simp)) ih
theorem Xl7 {lo B lo' B':Nat} {us vs:List VN} {f f':Nat} (ih:Xcf lo B lo' B' us vs f f') (hlo:lo<=B) (hlo':lo'<=B') (w:World) (hB:B<=w.heap.size) (hB':B'<=w.heap.size):
  Calls Tryz.prog 194 #[.iface 160 (.agg #[]), .iface 160 (.agg #[])] w fun e w'=>e= .returned (.int .i64 0)/\Below w.heap.size w w':=by
 have s:=Xa ih
 clear ih
 have j:=Xbg
 have o:=Wu
 have l:=Xbh
 have p:=Xgi
 go_enter Tryz.func194,Tryz.ntmps194
 go_wp2_with fail
 refine (Kw _).mono ?_
 rintro e t ⟨rfl,b⟩
 have y:=b.size
 go_wp2_with fail
 refine (Kw _).mono ?_
 rintro e z ⟨rfl,c⟩
 have C:=c.size
 go_wp2_with fail
 refine (Jk _ _ _).mono ?_
 rintro e D ⟨rfl,rfl⟩
 rw[show Yv 1 1=0 from rfl]
 go_wp2_with fail
 refine (Xay _).mono ?_
 rintro e F ⟨rfl,d⟩
 have G:=d.size
 go_wp2_with fail
 refine (Xay _).mono ?_
 rintro e J ⟨rfl,g⟩
 have L:=g.size
 go_wp2_with fail
 refine (Xab s.out hlo hlo' _ (by omega) (by omega)).mono ?_
 rintro e M ⟨rfl,q⟩
 go_wp2_with fail
 go_ret
 exact ⟨rfl,b.trans ((c.trans ((d.trans ((g.trans (q.mono (by omega))).mono (by omega))).mono (by omega))).mono (by omega))⟩
theorem Xl8 (a b:Int) {lo B lo' B':Nat} {us vs:List VN} {f f':Nat} (ih:Xcf lo B lo' B' us vs f f') (hlo:lo<=B) (hlo':lo'<=B') (w:World) (hB:B<=w.heap.size) (hB':B'<=w.heap.size):
  Calls Tryz.prog 194 #[.iface 113 (.agg #[.int .i64 a]), .iface 113 (.agg #[.int .i64 b])] w fun e w'=>e= .returned (.int .i64 (Yv a b))/\Below w.heap.size w w':=by
 have C:=Xa ih
 clear ih
 have s:=Xbi
 have G:=X3t
 have D:=Xy7
 go_enter Tryz.func194,Tryz.ntmps194
 go_wp2_with fail
 refine (Kx _ _).mono ?_
 rintro e J ⟨rfl,c⟩
 go_wp2_with fail
 refine (Kx _ _).mono ?_
 rintro e L ⟨rfl,d⟩
 have g:=Xa (Below.next c d)
 clear c d
 go_wp2_with fail
 refine (Jk _ _ _).mono ?_
 rintro e M ⟨rfl,rfl⟩
 rw[show Yv 2 2=0 from rfl]
 go_wp2_with fail
 go_quiet ((go_at_call 203;exact Calls.quiet_of_same (Jk _ _ _)))
 obtain ⟨t,j⟩:∃t,(Yv a b !=0)=t:=⟨_,rfl⟩
 have l:=Xa (below_drewN ((g.out).alloc g.out.size (.cells #[.int .i64 a] 113)) nq)
 cases t
 ·have F:Hid (Yv a b=0):=by simpa [Hid] using j
  go_wp2_with fail
  refine (Xc8 _ _).mono ?_
  rintro e P ⟨rfl,o⟩
  have y:=Xa (Below.next l.out o)
  clear o
  go_wp2_with fail
  refine (Xc8 _ _).mono ?_
  rintro e R ⟨rfl,p⟩
  have q:=Xa (Below.next y.out p)
  clear p
  have S:=q.out.size
  go_wp2_with fail
  refine (Xab C.out hlo hlo' _ (by omega) (by omega)).mono ?_
  rintro e T ⟨rfl,z⟩
  go_wp2_with fail
  go_ret
  exact ⟨Yl F.out.symm,Below.next q.out z⟩
 ·go_wp2_with fail
  go_ret
  exact ⟨rfl,l.out⟩
theorem Xp3 (a b:Int) {lo B lo' B':Nat} {us vs:List VN} {f f':Nat} (ih:Xcf lo B lo' B' us vs f f') (hlo:lo<=B) (hlo':lo'<=B') (w:World) (hB:B<=w.heap.size) (hB':B'<=w.heap.size):
  Calls Tryz.prog 194 #[.iface 114 (.agg #[.int .i64 a]), .iface 114 (.agg #[.int .i64 b])] w fun e w'=>e= .returned (.int .i64 (Yv a b))/\Below w.heap.size w w':=by
 have D:=Xa ih
 clear ih
 have s:=Xcg
 have t:=V9
 have J:=Xi5
 have F:=Xf0
 go_enter Tryz.func194,Tryz.ntmps194
 go_wp2_with fail
 refine (Ky _ _).mono ?_
 rintro e L ⟨rfl,c⟩
 go_wp2_with fail
 refine (Ky _ _).mono ?_
 rintro e M ⟨rfl,d⟩
 have g:=Xa (Below.next c d)
 clear c d
 go_wp2_with fail
 refine (Jk _ _ _).mono ?_
 rintro e P ⟨rfl,rfl⟩
 rw[show Yv 3 3=0 from rfl]
 go_wp2_with fail
 go_quiet ((go_at_call 203;exact Calls.quiet_of_same (Jk _ _ _)))
 obtain ⟨y,j⟩:∃y,(Yv a b !=0)=y:=⟨_,rfl⟩
 have l:=Xa (below_drewN ((g.out).alloc g.out.size (.cells #[.int .i64 a] 114)) nq)
 cases y
 ·have G:Hid (Yv a b=0):=by simpa [Hid] using j
  go_wp2_with fail
  refine (Xc9 _ _).mono ?_
  rintro e R ⟨rfl,o⟩
  have z:=Xa (Below.next l.out o)
  clear o
  go_wp2_with fail
  refine (Xc9 _ _).mono ?_
  rintro e S ⟨rfl,p⟩
  have q:=Xa (Below.next z.out p)
  clear p
  have T:=q.out.size
  go_wp2_with fail
  refine (Xab D.out hlo hlo' _ (by omega) (by omega)).mono ?_
  rintro e V ⟨rfl,C⟩
  go_wp2_with fail
  go_ret
  exact ⟨Yl G.out.symm,Below.next q.out C⟩
 ·go_wp2_with fail
  go_ret
  exact ⟨rfl,l.out⟩
theorem Xl9 (a b:ByteArray) {lo B lo' B':Nat} {us vs:List VN} {f f':Nat} (ih:Xcf lo B lo' B' us vs f f') (hlo:lo<=B) (hlo':lo'<=B') (w:World) (hB:B<=w.heap.size) (hB':B'<=w.heap.size):
  Calls Tryz.prog 194 #[.iface 116 (.agg #[.string a]), .iface 116 (.agg #[.string b])] w fun e w'=>e= .returned (.int .i64 (Yw a b))/\Below w.heap.size w w':=by
 have F:=Xa ih
 clear ih
 have s:=Xbj
 have y:=Wv
 have t:=Um
 have L:=Xsy
 have G:=Xms
 go_enter Tryz.func194,Tryz.ntmps194
 go_wp2_with fail
 refine (Kz _ _).mono ?_
 rintro e M ⟨rfl,c⟩
 go_wp2_with fail
 refine (Kz _ _).mono ?_
 rintro e P ⟨rfl,d⟩
 have g:=Xa (Below.next c d)
 clear c d
 go_wp2_with fail
 refine (Jk _ _ _).mono ?_
 rintro e R ⟨rfl,rfl⟩
 rw[show Yv 4 4=0 from rfl]
 go_wp2_with fail
 go_quiet ((go_at_call 204;exact Calls.quiet_of_same (Xah _ _ _)))
 obtain ⟨z,j⟩:∃z,(Yw a b !=0)=z:=⟨_,rfl⟩
 have l:=Xa (below_drewN ((g.out).alloc g.out.size (.cells #[.string a] 116)) nq)
 cases z
 ·have J:Hid (Yw a b=0):=by simpa [Hid] using j
  go_wp2_with fail
  refine (Xda _ _).mono ?_
  rintro e S ⟨rfl,o⟩
  have C:=Xa (Below.next l.out o)
  clear o
  go_wp2_with fail
  refine (Xda _ _).mono ?_
  rintro e T ⟨rfl,p⟩
  have q:=Xa (Below.next C.out p)
  clear p
  have V:=q.out.size
  go_wp2_with fail
  refine (Xab F.out hlo hlo' _ (by omega) (by omega)).mono ?_
  rintro e X ⟨rfl,D⟩
  go_wp2_with fail
  go_ret
  exact ⟨Yl J.out.symm,Below.next q.out D⟩
 ·go_wp2_with fail
  go_ret
  exact ⟨rfl,l.out⟩
theorem Xma (l m:List Int) (it it':Value) {lo B lo' B':Nat} {us vs:List VN} {f f':Nat} (ih:Xcf lo B lo' B' us vs f f') (hlo:lo<=B) (hlo':lo'<=B') (w:World) (hB:B<=w.heap.size) (hB':B'<=w.heap.size)
  (h1:ItemsG lo B w it l.length (fun j u=>ValG lo B w us f (Xj l j).toNat u)) (h2:ItemsG lo' B' w it' m.length (fun j u=>ValG lo' B' w vs f' (Xj m j).toNat u))
  (hl:l.length<=80) (hm:m.length<=80) (r1:∀j,j<l.length->(Xj l j).toNat<us.length) (r2:∀j,j<m.length->(Xj m j).toNat<vs.length):
  Calls Tryz.prog 194 #[.iface 158 (.agg #[it]), .iface 158 (.agg #[it'])] w fun e w'=>e= .returned (.int .i64 (Ye (fun a b=>ord us vs f a.toNat b.toNat) l m))/\Below w.heap.size w w':=by
 have F:=Xa ih
 have G:=Xa h1
 have J:=Xa h2
 have L:=Xa r1
 have M:=Xa r2
 obtain ⟨P,R,rfl,_⟩:=h1
 obtain ⟨S,T,rfl,_⟩:=h2
 clear ih r1 r2
 have q:=Xbk
 have t:=Vk
 have s:=Xbl
 have y:=Xgj
 go_enter Tryz.func194,Tryz.ntmps194
 go_wp2_with fail
 refine (V3 _ _ _ _).mono ?_
 rintro e V ⟨rfl,d⟩
 go_wp2_with fail
 refine (V3 _ _ _ _).mono ?_
 rintro e X ⟨rfl,g⟩
 have z:=Xa (Below.next d g)
 clear d g
 go_wp2_with fail
 refine (Jk _ _ _).mono ?_
 rintro e Y ⟨rfl,rfl⟩
 rw[show Yv 5 5=0 from rfl]
 go_wp2_with fail
 refine (Ka _ _ _ _).mono ?_
 rintro e Z ⟨rfl,o⟩
 have C:=Xa (Below.next z.out o)
 clear o
 go_wp2_with fail
 refine (Ka _ _ _ _).mono ?_
 rintro e w5 ⟨rfl,p⟩
 have c:=Xa (Below.next C.out p)
 clear p
 have z5:=c.out.size
 go_wp2_with fail
 refine (U7 lo B lo' B' us vs f f' l m _ _ _ (G.out.keep (c.out.mono hB) hlo) (J.out.keep (c.out.mono hB') hlo') hlo hlo' (by omega) (by omega) hl hm L.out M.out F.out).mono ?_
 rintro e w6 ⟨rfl,D⟩
 go_wp2_with fail
 go_ret
 exact ⟨rfl,Below.next c.out D⟩
theorem Xp4 (ks ks':List ByteArray) (kv kv':Value) (l m:List Int) (it it':Value) {lo B lo' B':Nat} {us vs:List VN} {f f':Nat} (ih:Xcf lo B lo' B' us vs f f') (hlo:lo<=B) (hlo':lo'<=B') (w:World) (hB:B<=w.heap.size) (hB':B'<=w.heap.size)
  (g1:StrsAt B w kv ks) (g2:StrsAt B' w kv' ks')
  (h1:ItemsG lo B w it l.length (fun j u=>ValG lo B w us f (Xj l j).toNat u)) (h2:ItemsG lo' B' w it' m.length (fun j u=>ValG lo' B' w vs f' (Xj m j).toNat u))
  (hl:l.length<=80) (hm:m.length<=80) (r1:∀j,j<l.length->(Xj l j).toNat<us.length) (r2:∀j,j<m.length->(Xj m j).toNat<vs.length):
  Calls Tryz.prog 194 #[.iface 118 (.agg #[kv,it]), .iface 118 (.agg #[kv',it'])] w fun e w'=>e= .returned (.int .i64 (if Ya ks ks'≠0 then Ya ks ks' else Ye (fun a b=>ord us vs f a.toNat b.toNat) l m))/\Below w.heap.size w w':=by
 have P:=Xa ih
 have R:=Xa h1
 have S:=Xa h2
 have T:=Xa g1
 have V:=Xa g2
 have X:=Xa r1
 have Y:=Xa r2
 obtain ⟨Z,p1,rfl,_⟩:=h1
 obtain ⟨a2,p2,rfl,_⟩:=h2
 obtain ⟨_,_,d1,q1,rfl,_⟩:=g1
 obtain ⟨_,_,d2,q2,rfl,_⟩:=g2
 clear ih r1 r2
 have z:=Xch
 have D:=Un
 have C:=Ww
 have F:=Xdb
 have tb:=Xyy
 have ba:=X2i
 go_enter Tryz.func194,Tryz.ntmps194
 go_wp2_with fail
 refine (K3 _ _ _ _ _ _ _).mono ?_
 rintro e w1 ⟨rfl,o⟩
 go_wp2_with fail
 refine (K3 _ _ _ _ _ _ _).mono ?_
 rintro e w2 ⟨rfl,p⟩
 have q:=Xa (Below.next o p)
 clear o p
 go_wp2_with fail
 refine (Jk _ _ _).mono ?_
 rintro e w3 ⟨rfl,rfl⟩
 rw[show Yv 6 6=0 from rfl]
 go_wp2_with fail
 have g:=Xa ((q.out).alloc q.out.size (.cells #[.slice d1 ks.length q1, .slice Z l.length p1] 118))
 go_quiet ((go_at_call 205;exact Calls.quiet_of_same (Xgh w.heap.size _ _ ks ks' _ ((T.out.wide hB).below (below_drewN g.out _)) ((V.out.wide hB').below (below_drewN g.out _)))))
 obtain ⟨G,d⟩:∃G,(Ya ks ks' !=0)=G:=⟨_,rfl⟩
 have s:=Xa (below_drewN g.out nq)
 cases G
 ·have J:Hid (Ya ks ks'=0):=by simpa [Hid] using d
  go_wp2_with fail
  refine (Ul _ _ _ _ _ _ _).mono ?_
  rintro e w4 ⟨rfl,t⟩
  have L:=Xa (Below.next s.out t)
  clear t
  go_wp2_with fail
  refine (Ul _ _ _ _ _ _ _).mono ?_
  rintro e w5 ⟨rfl,y⟩
  have c:=Xa (Below.next L.out y)
  clear y
  have z5:=c.out.size
  go_wp2_with fail
  refine (U7 lo B lo' B' us vs f f' l m _ _ _ (R.out.keep (c.out.mono hB) hlo) (S.out.keep (c.out.mono hB') hlo') hlo hlo' (by omega) (by omega) hl hm X.out Y.out P.out).mono ?_
  rintro e w6 ⟨rfl,M⟩
  go_wp2_with fail
  go_ret
  exact ⟨Yl (by first|rfl|simp[J.out]),Below.next c.out M⟩
 ·have J:Hid (¬Ya ks ks'=0):=by simpa [Hid] using d
  go_wp2_with fail
  go_ret
  exact ⟨Yl (by first|rfl|simp[J.out]),s.out⟩


theorem Xl3 (lo B lo' B' f f' n m:Nat) (us vs:List VN) (v v':Value) (w:World) (h1:ValG lo B w us f n v) (h2:ValG lo' B' w vs f' m v') (hne:(Xb us n).kind≠(Xb vs m).kind):
  Calls Tryz.prog 194 #[v,v'] w fun e w'=>e= .returned (.int .i64 (Yv (Xb us n).kind (Xb vs m).kind))/\Below w.heap.size w w':=by
 cases f with
 |zero=>exact h1.elim
 |succ f=>
 cases f' with
 |zero=>exact h2.elim
 |succ f'=>
 rcases h1 with ⟨k1,rfl⟩|⟨k1,rfl⟩|⟨k1,rfl⟩|⟨k1,rfl⟩|⟨k1,_,rfl,a1,p1,rfl,_⟩|⟨k1,_,_,rfl,⟨_,_,b1,q1,rfl,_⟩,a1,p1,rfl,_⟩<;>
 rcases h2 with ⟨k2,rfl⟩|⟨k2,rfl⟩|⟨k2,rfl⟩|⟨k2,rfl⟩|⟨k2,_,rfl,a2,p2,rfl,_⟩|⟨k2,_,_,rfl,⟨_,_,b2,q2,rfl,_⟩,a2,p2,rfl,_⟩<;>
 first
 |exact absurd (k1.trans k2.symm) hne
 |(rw [k1, k2]
   clear hne k1 k2
   go_enter Tryz.func194,Tryz.ntmps194
   go_wp2_with fail
   first|refine (Kw _).mono ?_|refine (Kx _ _).mono ?_|refine (Ky _ _).mono ?_|refine (Kz _ _).mono ?_|refine (V3 _ _ _ _).mono ?_|refine (K3 _ _ _ _ _ _ _).mono ?_
   rintro e d ⟨rfl,b⟩
   go_wp2_with fail
   first|refine (Kw _).mono ?_|refine (Kx _ _).mono ?_|refine (Ky _ _).mono ?_|refine (Kz _ _).mono ?_|refine (V3 _ _ _ _).mono ?_|refine (K3 _ _ _ _ _ _ _).mono ?_
   rintro e g ⟨rfl,c⟩
   go_wp2_with fail
   refine (Jk _ _ _).mono ?_
   rintro e j ⟨rfl,rfl⟩
   go_wp2_with fail
   go_ret
   exact ⟨rfl,b.trans (c.mono b.size)⟩)


structure FineU (us:List VN):Prop where
 size:us.length<=80
 nodes:∀k,k<us.length->Xz (Xb us k)=true/\Z5 us k=true
 few:∀k,k<us.length->(Xb us k).kids.length<=k
theorem Xf9 {us:List VN} (h:okB us=true):FineU us:=by
 obtain ⟨b,c,_,d⟩:=Xm h
 exact ⟨b.2,c,d⟩
theorem FineU.kid {us:List VN} (h:FineU us) {n j:Nat} (hn:n<us.length) (hj:j<(Xb us n).kids.length):(Xj (Xb us n).kids j).toNat<us.length:=by
 have:=Zw (h.nodes n hn).2 hj
 omega
theorem Xfg (us vs:List VN) (hu:FineU us) (hv:FineU vs) (lo B lo' B':Nat) (hlo:lo<=B) (hlo':lo'<=B'):∀f f':Nat,Xcf lo B lo' B' us vs f f':=by
 intro f
 induction f with
 |zero=>intro f' n k v z w _ _ h;exact h.elim
 |succ f ih =>
  intro f' n k v z w t y C g p d
  cases f' with
  |zero=>exact g.elim
  |succ f'=>
   have q:=ih f'
   have l:=(hu.nodes n t).1
   have o:=(hv.nodes k y).1
   by_cases hne:(Xb us n).kind=(Xb vs k).kind
   ·have D:=hu.few n t
    have F:=hv.few k y
    have G:=hu.size
    have J:=hv.size
    have c:∀{a b:Int},(Xb us n).kind=a->(Xb vs k).kind=b->a≠b->False:=fun e1 e2 h=>h (by omega)
    rcases C with ⟨k1,rfl⟩|⟨k1,rfl⟩|⟨k1,rfl⟩|⟨k1,rfl⟩|⟨k1,it,rfl,i1⟩|⟨k1,ks,it,rfl,g1,i1⟩
    ·rcases g with ⟨k2,rfl⟩|⟨k2,_⟩|⟨k2,_⟩|⟨k2,_⟩|⟨k2,_⟩|⟨k2,_⟩
     ·rw[Wt l o k1 k2];exact Xl7 q hlo hlo' w p d
     all_goals exact (c k1 k2 (by decide)).elim
    ·rcases g with ⟨k2,_⟩|⟨k2,rfl⟩|⟨k2,_⟩|⟨k2,_⟩|⟨k2,_⟩|⟨k2,_⟩
     ·exact (c k1 k2 (by decide)).elim
     ·rw[Wt l o k1 k2];exact Xl8 _ _ q hlo hlo' w p d
     all_goals exact (c k1 k2 (by decide)).elim
    ·rcases g with ⟨k2,_⟩|⟨k2,_⟩|⟨k2,rfl⟩|⟨k2,_⟩|⟨k2,_⟩|⟨k2,_⟩
     ·exact (c k1 k2 (by decide)).elim
     ·exact (c k1 k2 (by decide)).elim
     ·rw[Wt l o k1 k2];exact Xp3 _ _ q hlo hlo' w p d
     all_goals exact (c k1 k2 (by decide)).elim
    ·rcases g with ⟨k2,_⟩|⟨k2,_⟩|⟨k2,_⟩|⟨k2,rfl⟩|⟨k2,_⟩|⟨k2,_⟩
     ·exact (c k1 k2 (by decide)).elim
     ·exact (c k1 k2 (by decide)).elim
     ·exact (c k1 k2 (by decide)).elim
     ·rw[Wt l o k1 k2];exact Xl9 _ _ q hlo hlo' w p d
     all_goals exact (c k1 k2 (by decide)).elim
    ·rcases g with ⟨k2,_⟩|⟨k2,_⟩|⟨k2,_⟩|⟨k2,_⟩|⟨k2,it',rfl,i2⟩|⟨k2,_⟩
     ·exact (c k1 k2 (by decide)).elim
     ·exact (c k1 k2 (by decide)).elim
     ·exact (c k1 k2 (by decide)).elim
     ·exact (c k1 k2 (by decide)).elim
     ·have s:ord us vs (f+1) n k=Ye (fun a b=>ord us vs f a.toNat b.toNat) (Xb us n).kids (Xb vs k).kids:=by
       rw[Wt l o k1 k2,Xce l (by omega),Xce o (by omega)];rfl
      rw[s]
      exact Xma _ _ _ _ q hlo hlo' w p d i1 i2 (by omega) (by omega) (fun j hj=>hu.kid t hj) (fun j hj=>hv.kid y hj)
     ·exact (c k1 k2 (by decide)).elim
    ·rcases g with ⟨k2,_⟩|⟨k2,_⟩|⟨k2,_⟩|⟨k2,_⟩|⟨k2,_⟩|⟨k2,ks',it',rfl,g2,i2⟩
     ·exact (c k1 k2 (by decide)).elim
     ·exact (c k1 k2 (by decide)).elim
     ·exact (c k1 k2 (by decide)).elim
     ·exact (c k1 k2 (by decide)).elim
     ·exact (c k1 k2 (by decide)).elim
     ·have s:ord us vs (f+1) n k=if Ya (Xb us n).keys (Xb vs k).keys≠0 then Ya (Xb us n).keys (Xb vs k).keys else Ye (fun a b=>ord us vs f a.toNat b.toNat) (Xb us n).kids (Xb vs k).kids:=by
       rw[Wt l o k1 k2];rfl
      rw[s]
      exact Xp4 _ _ _ _ _ _ _ _ q hlo hlo' w p d g1 g2 i1 i2 (by omega) (by omega) (fun j hj=>hu.kid t hj) (fun j hj=>hv.kid y hj)
   ·have s:ord us vs (f+1) n k=Yv (Xb us n).kind (Xb vs k).kind:=by rw[ord,if_pos hne]
    rw[s]
    exact Xl3 lo B lo' B' (f+1) (f'+1) n k us vs v z w C g hne


theorem Sw.cell {g:Nat} {w w':World} (h:Sw g w w') {b o:Nat} (hb:b<w.heap.size) (hg:b≠g):w'.cell? ⟨b,o,none⟩=w.cell? ⟨b,o,none⟩:=h.2.2.2.cell hb hg
theorem Xrf (B h g:Nat) (l:List ByteArray) (v:Value) (w0:World) (hl:StrsAt B w0 v l) (h1:w0.cell? ⟨h,0,none⟩=some v) (h2:w0.cell? ⟨h+1,0,none⟩=some (.func (.func 204) #[] #[])) (hh:h+1<w0.heap.size) (hg:h+1<g) (hB:B<=h):
  Xii g l.length w0 (.pointer (some ⟨h+1,0,none⟩)) (.pointer (some ⟨h,0,none⟩)) (cfK l):=by
 intro W c x y f p q s
 obtain ⟨i,rfl⟩:∃i:Nat,x=(i:Int):=⟨x.toNat,by omega⟩
 obtain ⟨j,rfl⟩:∃j:Nat,y=(j:Int):=⟨y.toNat,by omega⟩
 obtain ⟨z,_,a,C,rfl,t⟩:=hl
 obtain ⟨b,o,rfl,F,d⟩:=t (by omega)
 have G:=(c.cell (show h<w0.heap.size by omega) (show h≠g by omega)).trans h1
 have J:=(c.cell hh (show h+1≠g by omega)).trans h2
 have L:=(c.cell (show b<w0.heap.size by omega) (show b≠g by omega)).trans (d i (by omega))
 have M:=(c.cell (show b<w0.heap.size by omega) (show b≠g by omega)).trans (d j (by omega))
 have P:i<l.length:=by omega
 have R:j<l.length:=by omega
 have D:Hid (cfK l (i:Int) (j:Int)=Yw (Xf l i) (Xf l j)):=by rw[Hid,cfK,Int.toNat_natCast,Int.toNat_natCast]
 clear d t h1 h2 f p q s
 go_enter Tryz.func213,Tryz.ntmps213
 go_wp2_with fail
 go_quiet ((go_at_call 204;exact Calls.quiet_of_same (Xah _ _ _)))
 go_wp2_with fail
 go_ret
 exact ⟨by rw[D.out];rfl,nq,rfl⟩
theorem Xj3 (R:Int->Int->Prop) (cf:Int->Int->Int) (g N cap:Nat) (w0:World) (c1 c2:Value) (f:Nat->Int) (w:World) (h:AskedS R cf g N w0 c1 c2 f w):
  Calls Tryz.prog 212 #[.slice (some ⟨g,0,none⟩) N cap, .func (.func 213) #[] #[c1,c2]] w fun e w'=>e= .returned (.tuple #[])/\∃f',w'.rowIs g 3 N (Yq f')/\Blk R f f' 0 N/\Sw g w0 w':=by
 have H:=Xa h
 have j:=h.NN
 clear h
 go_enter Tryz.func212,Tryz.ntmps212
 go_wp2_with fail
 refine (Xu7 R cf g N cap w0 c1 c2 f w H.out).mono ?_
 rintro e p ⟨rfl,l,b,c,d⟩
 have o:=Xa (And.intro b (And.intro c d))
 clear b c d
 go_wp2_with fail
 exact ⟨rfl, .tuple #[],results_none rfl _ _ _,rfl,l,o.out⟩
theorem Xk9 (w:World) (v:Value) (t:TypeId):(w.alloc (.cells #[v] t)).cell? ⟨w.heap.size,0,none⟩=some v:=by
 have h:=heap_alloc_new w (.cells #[v] t)
 unfold World.cell?
 simp only[h]
 rfl
theorem Xal {w:World} {b o:Nat} {v:Value} (h:w.cell? ⟨b,o,none⟩=some v) (hb:b<w.heap.size) (ob:Obj):(w.alloc ob).cell? ⟨b,o,none⟩=some v:=(Xc ((Below.refl w.heap.size w).alloc (Nat.le_refl _) ob) hb).trans h
theorem X41:(Tryz.prog.info? 3).map (fun i=>(i.zero,i.size,i.bytes))=some (some (.int .i64 0),1,8):=by kernel_rfl
def Xf8 (k j:Nat):Int:=if j<k then (j:Int) else 0
theorem Xhg (B:Nat) (v:Value) (l:List ByteArray) (w:World) (h:StrsAt B w v l) (hB:B<=w.heap.size) (hn:l.length<=1048576):
  Calls Tryz.prog 208 #[v, .func (.func 204) #[] #[]] w fun e w'=>∃g f',e= .returned (.slice (some ⟨g,0,none⟩) l.length l.length)/\w.heap.size<=g/\w'.rowIs g 3 l.length (Yq f')/\Blk (RK l) (fun p=>(p:Int)) f' 0 l.length/\Below w.heap.size w w':=by
 have H:=Xa h
 obtain ⟨_,_,a,o,rfl,_⟩:=h
 obtain ⟨N,M⟩:∃N,l.length=N:=⟨_,rfl⟩
 have HN:=Xa M
 rw[M] at hn|-
 rw[M] at H
 clear M
 have R:=run_make_row' (P:=Tryz.prog) 249 3 (.int .i64 0) 8 Tryz.underlying249 X41 rfl .i64 .i64 N (by omega) (by omega)
 obtain ⟨s,d⟩:∃s,s=((w.alloc (.cells #[.slice a N o] 72)).alloc (.cells #[.func (.func 204) #[] #[]] 243)).alloc (.cells (madeCells #[Value.int .i64 0] N) 3):=⟨_,rfl⟩
 have t:s.rowIs (w.heap.size+1+1) 3 N (Yq (Xf8 0)):=by
  have:=World.rowIs_made ((w.alloc (.cells #[.slice a N o] 72)).alloc (.cells #[.func (.func 204) #[] #[]] 243)) (.int .i64 0) N 3
  simp only[World.size_alloc] at this
  rw[d]
  exact this.congr fun j _=>by simp[Yq,Xf8]
 have d1:s.cell? ⟨w.heap.size,0,none⟩=some (.slice a N o):=by
  rw[d]
  exact Xal (Xal (Xk9 w _ _) (by rw[World.size_alloc];omega) _) (by rw[World.size_alloc,World.size_alloc];omega) _
 have d2:s.cell? ⟨w.heap.size+1,0,none⟩=some (.func (.func 204) #[] #[]):=by
  rw[d]
  have:=Xk9 (w.alloc (.cells #[.slice a N o] 72)) (.func (.func 204) #[] #[]) 243
  rw[World.size_alloc] at this
  exact Xal this (by rw[World.size_alloc,World.size_alloc];omega) _
 have y:Hid (s.heap.size=w.heap.size+1+1+1):=by rw[Hid,d];simp
 have S:Hid (Below w.heap.size w s):=by
  rw[Hid,d]
  exact (((Below.refl _ _).alloc (Nat.le_refl _) _).alloc (by simp) _).alloc (by simp;omega) _
 have T:=Xa d
 have V:=Xa t
 clear d t
 go_enter Tryz.func208,Tryz.ntmps208
 go_wp2_with fail
 rw[<-T.out]
 clear R
 go_loopw [12] (fun vi wr=>∃k:Nat,k<=N/\vi= .int .i64 k/\wr.rowIs (w.heap.size+1+1) 3 N (Yq (Xf8 k))/\Sw (w.heap.size+1+1) s wr) (fun vi _=>N-(intOf vi).toNat)
 case atStart=>exact ⟨0,Nat.zero_le _,rfl,V.out,Sw.refl _ _⟩
 case round=>
  obtain ⟨k,hk,rfl,b,f⟩:=hrel
  by_cases hlt:k<N
  ·have c1:=b.cell hlt
   have f1:=b.frozen k
   have z:Hid ((wr.setCell ⟨w.heap.size+1+1,k,none⟩ (.int .i64 k)).rowIs (w.heap.size+1+1) 3 N (Yq (Xf8 (k+1)))):=by
    refine (b.set k _).congr fun p _=> ?_
    unfold Yq Xf8
    by_cases e:p=k
    ·subst e;rw[if_pos rfl,if_pos (by omega)]
    ·rw[if_neg e]
     by_cases c:p<k
     ·rw[if_pos c,if_pos (by omega)]
     ·rw[if_neg c,if_neg (by omega)]
   have X:=Xa (f.set k (.int .i64 k))
   clear b f
   go_wp2_with fail
   go_roundw
   case rel=>exact ⟨k+1,by omega,by go_num,z.out,X.out⟩
   case measure=>simp[intOf];omega
  ·obtain rfl:k=N:=by omega
   have Y:=Xa ((f.cell (show w.heap.size<s.heap.size by rw[y.out];omega) (by omega)).trans d1)
   have Z:=Xa ((f.cell (show w.heap.size+1<s.heap.size by rw[y.out];omega) (by omega)).trans d2)
   have C:Hid (s.heap.size<=wr.heap.size):=f.2.2.2.1
   have D:Hid (Below w.heap.size w wr):=S.out.trans (f.below (by omega) (by rw[y.out];omega))
   have ba:Hid (Xii (w.heap.size+1+1) k wr (.pointer (some ⟨w.heap.size+1,0,none⟩)) (.pointer (some ⟨w.heap.size,0,none⟩)) (cfK l)):=by
    have:=Xrf B w.heap.size (w.heap.size+1+1) l (.slice a k o) wr (H.out.below (D.out.mono hB)) Y.out Z.out (by have:=C.out;rw[y.out] at this;omega) (by omega) hB
    rw[HN.out] at this
    exact this
   have HA:Hid (AskedS (RK l) (cfK l) (w.heap.size+1+1) k wr (.pointer (some ⟨w.heap.size+1,0,none⟩)) (.pointer (some ⟨w.heap.size,0,none⟩)) (fun p=>(p:Int)) wr):=
    ⟨Xws l,ba.out,X0j l,b.congr fun p hp=>by unfold Yq Xf8;rw[if_pos hp],Sw.refl _ _,fun p hp=>⟨by omega,by omega⟩,hn,fun p q h1 h2=>by omega⟩
   clear b f d1 d2
   go_wp2_with fail
   refine (Xj3 (RK l) (cfK l) (w.heap.size+1+1) k k wr _ _ (fun p=>(p:Int)) wr HA.out).mono ?_
   rintro e w2 ⟨rfl,f2,F,G,J⟩
   have L:=Xa (And.intro F (And.intro G (D.out.trans (J.below (by omega) (by have:=C.out;rw[y.out] at this;omega)))))
   clear F G J
   go_wp2_with fail
   go_ret
   exact ⟨_,f2,rfl,by omega,L.out⟩


def Kq (l:List ByteArray) (f:Nat->Int) (k:Nat):List Value:=(List.range k).map fun j=> .string (Xf l (f j).toNat)
def Kr (V:Nat->Value) (f:Nat->Int) (k:Nat):List Value:=(List.range k).map fun j=>V (f j).toNat
theorem Xre (l:List ByteArray) (f:Nat->Int) (k:Nat):Kq l f (k+1)=Kq l f k++ [.string (Xf l (f k).toNat)]:=by simp[Kq,List.range_succ]
theorem Xor (V:Nat->Value) (f:Nat->Int) (k:Nat):Kr V f (k+1)=Kr V f k++ [V (f k).toNat]:=by simp[Kr,List.range_succ]
structure SM (q base:Nat) (w1 wr:World) (n m:Nat) (ks is:List Value) (kv iv:Value):Prop where
 row:wr.rowIs q 118 2 (fun j=>if j=0 then kv else iv)
 rk:wr.ownsRow base 9 1 kv n ks
 ri:wr.ownsRow base 52 1 iv m is
 sw:Sw q w1 wr
 bs:base<=w1.heap.size
 qb:q<base
theorem SM.c0 {q base n m:Nat} {w1 wr:World} {ks is:List Value} {kv iv:Value} (h:SM q base w1 wr n m ks is kv iv):wr.cell? ⟨q,0,none⟩=some kv:=h.row.cell (by omega)
theorem SM.c1 {q base n m:Nat} {w1 wr:World} {ks is:List Value} {kv iv:Value} (h:SM q base w1 wr n m ks is kv iv):wr.cell? ⟨q,1,none⟩=some iv:=h.row.cell (i:=1) (by omega)
theorem SM.drew {q base n m:Nat} {w1 wr:World} {ks is:List Value} {kv iv:Value} (h:SM q base w1 wr n m ks is kv iv):SM q base w1 wr.drew n m ks is kv iv:=⟨h.row,h.rk,h.ri,h.sw.drew,h.bs,h.qb⟩
theorem SM.size {q base n m:Nat} {w1 wr:World} {ks is:List Value} {kv iv:Value} (h:SM q base w1 wr n m ks is kv iv):w1.heap.size<=wr.heap.size:=h.sw.2.2.2.1
theorem Xos {q base:Nat} {w1 wr w5:World} {o:Obj} {row:Option Nat} (h:Sw q w1 wr) (hg:(wr.alloc o).grownBy w5 row) (hr:∀x,row=some x->w1.heap.size<=x):Sw q w1 w5:=by
 have b:Below w1.heap.size wr w5:=((Below.refl _ _).alloc h.2.2.2.1 o).grown hg (by have:=h.2.2.2.1;simp;omega) (fun x hx=>hr x hx)
 exact ⟨b.os.trans h.1,b.tape.trans h.2.1,b.output.trans h.2.2.1,Nat.le_trans h.2.2.2.1 b.size,fun c h1 h2=>(b.block c h1).trans (h.2.2.2.2 c h1 h2)⟩
theorem SM.key {q base n m:Nat} {w1 wr w5:World} {ks is:List Value} {kv iv kv' u:Value} {o:Obj} (h:SM q base w1 wr n m ks is kv iv) (hb:base=w1.heap.size)
  (hg:(wr.alloc o).grownBy w5 kv.ownBlock) (hown:w5.ownsRow base 9 1 kv' (n+1) (ks++ [u])):SM q base w1 (w5.setCell ⟨q,0,none⟩ kv') (n+1) m (ks++ [u]) is kv' iv:=by
 have g:=h.size
 have f:=h.qb
 have far:∀x,x<wr.heap.size->kv.ownBlock≠some x->w5.heap[x]? =wr.heap[x]? :=fun x hx hne=>(hg.block x (by simp;omega) (fun e=>hne e.symm)).trans (Below.block ((Below.refl wr.heap.size wr).alloc (Nat.le_refl _) o) x hx)
 have d:kv.ownBlock≠some q:=fun e=>by have:=(h.rk.lt q e).1;omega
 have b:w5.rowIs q 118 2 (fun j=>if j=0 then kv else iv):=h.row.of_block (far q h.row.lt d)
 have c:w5.ownsRow base 52 1 iv m is:=Xpv h.ri (fun x hx=>by
  refine far x (h.ri.lt x hx).2 (fun e=> ?_)
  rcases Yj h.rk h.ri (by decide) with e2|e2
  ·rw[e2] at e;cases e
  ·exact e2 (by rw[e,hx]))
 refine ⟨(b.set 0 kv').congr fun j _=> ?_, ?_, ?_, ?_,h.bs,h.qb⟩
 ·by_cases e:j=0
  ·rw[if_pos e,if_pos e]
  ·rw[if_neg e,if_neg e,if_neg e]
 ·exact Je hown kv' (fun x hx e=>by have:=(hown.lt x hx).1;omega)
 ·exact Je c kv' (fun x hx e=>by have:=(h.ri.lt x hx).1;omega)
 ·exact (Xos (base:=base) h.sw hg (fun x hx=>by have:=(h.rk.lt x hx).1;omega)).set 0 kv'
theorem SM.item {q base n m:Nat} {w1 wr w5:World} {ks is:List Value} {kv iv iv' u:Value} {o:Obj} (h:SM q base w1 wr n m ks is kv iv) (hb:base=w1.heap.size)
  (hg:(wr.alloc o).grownBy w5 iv.ownBlock) (hown:w5.ownsRow base 52 1 iv' (m+1) (is++ [u])):SM q base w1 (w5.setCell ⟨q,1,none⟩ iv') n (m+1) ks (is++ [u]) kv iv':=by
 have g:=h.size
 have f:=h.qb
 have far:∀x,x<wr.heap.size->iv.ownBlock≠some x->w5.heap[x]? =wr.heap[x]? :=fun x hx hne=>(hg.block x (by simp;omega) (fun e=>hne e.symm)).trans (Below.block ((Below.refl wr.heap.size wr).alloc (Nat.le_refl _) o) x hx)
 have d:iv.ownBlock≠some q:=fun e=>by have:=(h.ri.lt q e).1;omega
 have b:w5.rowIs q 118 2 (fun j=>if j=0 then kv else iv):=h.row.of_block (far q h.row.lt d)
 have c:w5.ownsRow base 9 1 kv n ks:=Xpv h.rk (fun x hx=>by
  refine far x (h.rk.lt x hx).2 (fun e=> ?_)
  rcases Yj h.rk h.ri (by decide) with e2|e2
  ·rw[e2] at hx;cases hx
  ·exact e2 (by rw[e,hx]))
 refine ⟨(b.set 1 iv').congr fun j hj=> ?_, ?_, ?_, ?_,h.bs,h.qb⟩
 ·by_cases e:j=1
  ·rw[if_pos e,if_neg (by omega)]
  ·rw[if_neg e,if_pos (by omega),if_pos (by omega)]
 ·exact Je c iv' (fun x hx e=>by have:=(h.rk.lt x hx).1;omega)
 ·exact Je hown iv' (fun x hx e=>by have:=(hown.lt x hx).1;omega)
 ·exact (Xos (base:=base) h.sw hg (fun x hx=>by have:=(h.ri.lt x hx).1;omega)).set 1 iv'


theorem Xvn:(Tryz.prog.info? 9).map (fun i=>(i.zero,i.size,i.bytes))=some (some (.string ByteArray.empty),1,16):=by kernel_rfl
theorem Xvo:(Tryz.prog.info? 52).map (fun i=>(i.zero,i.size,i.bytes))=some (some .nilIface,1,16):=by kernel_rfl
def Xs3 (w:World) (iv:Value) (N:Nat) (V:Nat->Value):Prop:=∃a cap,iv= .slice a N cap/\(0<N->∃b,a=some ⟨b,0,none⟩/\b<w.heap.size/\∀j,j<N->w.cell? ⟨b,j,none⟩=some (V j)/\∃t x,V j= .iface t x)
theorem Xlr (B:Nat) (kv iv:Value) (l:List ByteArray) (V:Nat->Value) (w:World) (hk:StrsAt B w kv l) (hi:Xs3 w iv l.length V) (hB:B<=w.heap.size) (hn:l.length<=10000):
  Calls Tryz.prog 201 #[kv,iv] w fun e w'=>∃f k2 i2,e= .returned (.agg #[k2,i2])/\Blk (RK l) (fun p=>(p:Int)) f 0 l.length/\w'.ownsRow w.heap.size 9 1 k2 l.length (Kq l f l.length)/\w'.ownsRow w.heap.size 52 1 i2 l.length (Kr V f l.length)/\Below w.heap.size w w':=by
 have HK:=Xa hk
 obtain ⟨_,c7,ak,ck,rfl,bv⟩:=hk
 obtain ⟨ai,ci,rfl,bw⟩:=hi
 have bi:=Xa bv
 have bj:=Xa bw
 obtain ⟨N,hN⟩:∃N,l.length=N:=⟨_,rfl⟩
 have HN:=Xa hN
 rw[hN] at hn bi bj|-
 rw[hN] at HK
 obtain ⟨j0,bx,bz,b0,b1⟩:=info_parts Xvn
 obtain ⟨j1,b2,b3,b4,bk⟩:=info_parts Xvo
 obtain ⟨W2,F⟩:∃W2,W2=(w.alloc (.cells #[.slice none 0 0, .slice none 0 0] 118)).alloc (.cells #[.slice none 0 0, .slice none 0 0] 118):=⟨_,rfl⟩
 have b5:W2.rowIs (w.heap.size+1) 118 2 (fun j=>if j=0 then .slice none 0 0 else .slice none 0 0):=by
  have:=World.rowIs_alloc (w.alloc (.cells #[.slice none 0 0, .slice none 0 0] 118)) #[.slice none 0 0, .slice none 0 0] 118 (fun _=> .slice none 0 0) (fun i hi=>by
   match i,hi with
   |0,_=>rfl
   |1,_=>rfl)
  rw[World.size_alloc] at this
  rw[F]
  exact this.congr fun j _=>by simp
 have b6:W2.rowIs w.heap.size 118 2 (fun _=> .slice none 0 0):=by
  have:=World.rowIs_alloc w #[.slice none 0 0, .slice none 0 0] 118 (fun _=> .slice none 0 0) (fun i hi=>by
   match i,hi with
   |0,_=>rfl
   |1,_=>rfl)
  rw[F]
  exact this.alloc _
 have b7:=Xa b6
 have b8:W2.heap.size=w.heap.size+1+1:=by rw[F,World.size_alloc,World.size_alloc]
 have b9:Below w.heap.size w W2:=by
  rw[F]
  exact ((Below.refl _ _).alloc (Nat.le_refl _) _).alloc (by rw[World.size_alloc];omega) _
 have ca:=Xa F
 have cb:=Xa b5
 have D:=Xa b8
 have bl:=Xa b9
 go_enter Tryz.func201,Tryz.ntmps201
 go_wp2_with fail
 rw[<-ca.out]
 refine (Xhg B _ l W2 (HK.out.below (bl.out.mono hB)) (by rw[D.out];omega) (by rw[HN.out];omega)).mono ?_
 rintro e y ⟨g,f,rfl,hg,G,ba,R⟩
 rw[HN.out] at G ba|-
 rw[D.out] at hg
 have bm:=Xa G
 have bb:=Xa ba
 have cc:=G.lt
 have z1:=R.size
 rw[D.out] at z1
 have cd:=Xa (Y4 b7.out R (by rw[D.out];omega))
 have S:Hid (Below w.heap.size w y):=bl.out.trans (R.mono (by rw[D.out];omega))
 have ce:Hid (SM (w.heap.size+1) y.heap.size y y 0 0 [] [] (.slice none 0 0) (.slice none 0 0)):=⟨Y4 cb.out R (by rw[D.out];omega),World.ownsRow_nil _ _ _ _,World.ownsRow_nil _ _ _ _,Sw.refl _ _,Nat.le_refl _,by omega⟩
 go_wp2_with fail
 go_loopw [11] (fun vi wr=>∃(k:Nat) (kv iv:Value),k<=N/\vi= .int .i64 k/\SM (w.heap.size+1) y.heap.size y wr k k (Kq l f k) (Kr V f k) kv iv) (fun vi _=>N-(intOf vi).toNat)
 case atStart=>exact ⟨0,_,_,Nat.zero_le _,rfl,ce.out⟩
 case round=>
  obtain ⟨k,kv,iv,hk,rfl,c⟩:=hrel
  have T:=Xa c
  obtain ⟨X,Y,e3⟩:=Xg c.rk
  obtain ⟨Z,c4,e4⟩:=Xg c.ri
  subst e3 e4
  have q0:=c.c0
  have q1:=c.c1
  have fq:=c.row.frozen
  have J:=c.row.lt
  have zr:=c.size
  by_cases hlt:k<N
  case neg=>
   obtain rfl:k=N:=by omega
   have cf:Hid (Below w.heap.size w wr):=S.out.trans (c.sw.below (by omega) (by omega))
   have be:wr.rowIs w.heap.size 118 2 (fun _=> .slice none 0 0):=cd.out.of_block (c.sw.2.2.2.2 w.heap.size (by omega) (by show ¬w.heap.size=w.heap.size+1;omega))
   have y0:=be.cell (i:=0) (by omega)
   have y1:=be.cell (i:=1) (by omega)
   have fy:=be.frozen
   have cg:w.heap.size≠w.heap.size+1:=by omega
   have ch:=Xa (Qj (Je (o:=1) (Je (o:=0) c.rk (b:=w.heap.size) (.slice X k Y) (fun x hx=>by have:=(c.rk.lt x hx).1;omega)) (b:=w.heap.size) (.slice Z k c4) (fun x hx=>by have:=(c.rk.lt x hx).1;omega)) (show w.heap.size<=y.heap.size by omega))
   have cj:=Xa (Qj (Je (o:=1) (Je (o:=0) c.ri (b:=w.heap.size) (.slice X k Y) (fun x hx=>by have:=(c.ri.lt x hx).1;omega)) (b:=w.heap.size) (.slice Z k c4) (fun x hx=>by have:=(c.ri.lt x hx).1;omega)) (show w.heap.size<=y.heap.size by omega))
   go_wp2_with fail
   refine bodyPost_ret (v:= .agg #[.slice X k Y, .slice Z k c4]) (by simp[results,Tryz.results201,go_sem,y0,y1,cg]) rfl ⟨f,_,_,rfl,bb.out,ch.out,cj.out, ?_⟩
   exact (cf.out.setCell (p:=⟨w.heap.size,0,none⟩) (Nat.le_refl _) _).setCell (p:=⟨w.heap.size,1,none⟩) (Nat.le_refl _) _
  case pos=>
  obtain ⟨p,p1,p2,p3⟩:=bb.out.1 k (Nat.zero_le _) hlt
  have bf:f k=(p:Int):=p3
  obtain ⟨bK,oK,rfl,c8,cl⟩:=bi.out (by omega)
  obtain ⟨bI,rfl,bn,cm⟩:=bj.out (by omega)
  obtain ⟨bc,z,C,eI⟩:=cm p (by omega)
  have d1:wr.cell? ⟨g,k,none⟩=some (.int .i64 (p:Int)):=by
   rw[c.sw.cell cc (by omega),bm.out.cell hlt]
   unfold Yq
   rw[bf]
  have d2:wr.cell? ⟨bK,oK+p,none⟩=some (.string (Xf l p)):=by
   rw[c.sw.cell (by omega) (by omega),Xc S.out (by omega)]
   exact cl p (by omega)
  have d3:wr.cell? ⟨bI,p,none⟩=some (.iface z C):=by
   rw[c.sw.cell (by omega) (by omega),Xc S.out bn,bc,eI]
  have cn:Hid (y.cell? ⟨bI,p,none⟩=some (.iface z C)):=by rw[Hid,Xc S.out bn,bc,eI]
  have bd:Hid (Kq l f (k+1)=Kq l f k++ [.string (Xf l p)]):=by rw[Hid,Xre,bf,Int.toNat_natCast]
  have bo:Hid (Kr V f (k+1)=Kr V f k++ [.iface z C]):=by rw[Hid,Xor,bf,Int.toNat_natCast,eI]
  obtain ⟨s,hs⟩:∃s,Xf l p=s:=⟨_,rfl⟩
  rw[hs] at d2 bd
  have co:Hid ((wr.drew.alloc (.cells #[.string s] 9)).ownsRow y.heap.size 9 1 (.slice X k Y) k (Kq l f k)):=Ql T.out.rk (((Below.refl wr.heap.size wr).drew).alloc (Nat.le_refl _) _) (fun x hx=>(T.out.rk.lt x hx).2)
  have bg:Hid (∀j u,[Value.string s][j]? =some u->(wr.drew.alloc (.cells #[.string s] 9)).cell? ((⟨wr.heap.size,0,none⟩:Addr).add j)=some u):=World.news_of_block (cs:= #[.string s]) (t:=9) (fr:=(0,0)) (heap_alloc_new wr.drew _)
  have L:∀u∈ [Value.string s],u.oneCell'=true:=fun u hu=>by simp at hu;subst hu;rfl
  have bp:k+1<=maxLen:=by unfold maxLen;omega
  have bq:(k+1) *16<=140737488355328:=by omega
  have bh:y.heap.size<=(wr.drew.alloc (.cells #[.string s] 9)).heap.size:=by simp;omega
  have M:(wr.drew.alloc (.cells #[.string s] 9)).heap.size=wr.heap.size+1:=by simp
  have br:Hid ((Value.slice X k Y).ownBlock≠some (w.heap.size+1)):=fun e=>by have:=(T.out.rk.lt _ e).1;omega
  have x0:(wr.drew.alloc (.cells #[.string s] 9)).cell? ⟨w.heap.size+1,0,none⟩=some (.slice X k Y):=Xal q0 J _
  have cp:=Xa x0
  have cq:Hid ((wr.drew.alloc (.cells #[.string s] 9)).frozen? ⟨w.heap.size+1,0,none⟩=false):=(((Below.refl wr.heap.size wr).drew.alloc (Nat.le_refl _) _).frozen (p:=⟨w.heap.size+1,0,none⟩) J).trans (fq 0)
  go_wp2_with fail
  go_region_law
   (refine step_append_lies _ (by rfl) _ _ _ (by rfl) y.heap.size 9 j0 (.string ByteArray.empty) 1 16 Tryz.underlying72 bx bz b0 b1 rfl (by omega) (.slice X k Y) k (Kq l f k) (by rfl) co.out ⟨wr.heap.size,0,none⟩ 1 1 [.string s] (by rfl) (by rfl) bg.out L (by omega) bp bq bh (wr.heap.size+1) M ?_;intro g5 bs w5 P d cr c2;have ct:w5.cell? ⟨w.heap.size+1,0,none⟩=some (.slice X k Y):=(World.grownBy.cell_far d ⟨w.heap.size+1,0,none⟩ (by simp;omega) (Ne.symm br.out)).trans cp.out;have cu:w5.frozen? ⟨w.heap.size+1,0,none⟩=false:=(World.grownBy.frozen_far d ⟨w.heap.size+1,0,none⟩ (by simp;omega) (Ne.symm br.out)).trans cq.out)
  all_goals
   have cv:Hid ((wr.drew.alloc (.cells #[.string s] 9)).grownBy w5 (Value.slice X k Y).ownBlock):=d
   have q:=Xa (T.out.drew.key rfl cv.out P)
   generalize w5.setCell ⟨w.heap.size+1,0,none⟩ (Value.slice (some ⟨g5,0,none⟩) (k+1) bs)=W6 at q|-
   have q1:=q.out.c1
   have fq:=q.out.row.frozen
   have J:=q.out.row.lt
   have zr:=q.out.size
   have d3:W6.cell? ⟨bI,p,none⟩=some (.iface z C):=(q.out.sw.cell (by omega) (by omega)).trans cn.out
   have cw:Hid ((W6.drew.alloc (.cells #[.iface z C] 52)).ownsRow y.heap.size 52 1 (.slice Z k c4) k (Kr V f k)):=Ql q.out.ri (((Below.refl W6.heap.size W6).drew).alloc (Nat.le_refl _) _) (fun x hx=>(q.out.ri.lt x hx).2)
   have bg:Hid (∀j u,[Value.iface z C][j]? =some u->(W6.drew.alloc (.cells #[.iface z C] 52)).cell? ((⟨W6.heap.size,0,none⟩:Addr).add j)=some u):=World.news_of_block (cs:= #[.iface z C]) (t:=52) (fr:=(0,0)) (heap_alloc_new W6.drew _)
   have L:∀u∈ [Value.iface z C],u.oneCell'=true:=fun u hu=>by simp at hu;subst hu;rfl
   have bh:y.heap.size<=(W6.drew.alloc (.cells #[.iface z C] 52)).heap.size:=by simp;omega
   have M:(W6.drew.alloc (.cells #[.iface z C] 52)).heap.size=W6.heap.size+1:=by simp
   have bt:Hid ((Value.slice Z k c4).ownBlock≠some (w.heap.size+1)):=fun e=>by have:=(q.out.ri.lt _ e).1;omega
   have cx:Hid ((W6.drew.alloc (.cells #[.iface z C] 52)).cell? ⟨w.heap.size+1,1,none⟩=some (.slice Z k c4)):=Xal q1 J _
   have cy:Hid ((W6.drew.alloc (.cells #[.iface z C] 52)).frozen? ⟨w.heap.size+1,1,none⟩=false):=(((Below.refl W6.heap.size W6).drew.alloc (Nat.le_refl _) _).frozen (p:=⟨w.heap.size+1,1,none⟩) J).trans (fq 1)
   go_wp2_with fail
   go_region_law
    (refine step_append_lies _ (by rfl) _ _ _ (by rfl) y.heap.size 52 j1 .nilIface 1 16 Tryz.underlying58 b2 b3 b4 bk rfl (by omega) (.slice Z k c4) k (Kr V f k) (by rfl) cw.out ⟨W6.heap.size,0,none⟩ 1 1 [.iface z C] (by rfl) (by rfl) bg.out L (by omega) bp bq bh (W6.heap.size+1) M ?_;intro g7 c5 w7 P d cr c6;have ct:w7.cell? ⟨w.heap.size+1,1,none⟩=some (.slice Z k c4):=(World.grownBy.cell_far d ⟨w.heap.size+1,1,none⟩ (by simp;omega) (Ne.symm bt.out)).trans cx.out;have cu:w7.frozen? ⟨w.heap.size+1,1,none⟩=false:=(World.grownBy.frozen_far d ⟨w.heap.size+1,1,none⟩ (by simp;omega) (Ne.symm bt.out)).trans cy.out)
   all_goals
    have cz:Hid ((W6.drew.alloc (.cells #[.iface z C] 52)).grownBy w7 (Value.slice Z k c4).ownBlock):=d
    have bu:=Xa (q.out.drew.item rfl cz.out P)
    rw[<-bd.out,<-bo.out] at bu
    go_wp2_with fail
    go_roundw
    case rel=>exact ⟨k+1,_,_,by omega,by go_num,bu.out⟩
    case measure=>simp[intOf];omega
end Go.Proofs.YtdjddneidbddpaaGreatDoor
