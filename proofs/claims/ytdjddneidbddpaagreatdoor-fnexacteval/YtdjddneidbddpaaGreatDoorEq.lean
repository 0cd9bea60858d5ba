import Derived.Test.YtdjddneidbddpaaGreatDoorByP
import Derived.Test.YtdjddneidbddpaaGreatDoorProg
import Derived.Deep.QuietTactic
import Derived.BigQuiet
import Derived.WalkSmall
import Derived.Deep.RegionWith
namespace Go.Proofs.YtdjddneidbddpaaGreatDoor
set_option linter.unusedSectionVars false
set_option maxHeartbeats 1600000
open Go.RowKit
set_option linter.unusedSimpArgs false
set_option linter.unusedVariables false
def inB (n lo hi:Int):Bool:=decide (lo<=n)&&decide (n<=hi)
theorem Vx (n lo hi:Int) (w:World):
  Calls Tryz.prog 34 #[.int .i64 n, .int .i64 lo, .int .i64 hi] w fun e w'=>e= .returned (.bool (inB n lo hi))/\w'=w:=by
 by_cases h1:lo<=n
 ·by_cases h2:n<=hi
  ·go_enter Tryz.func34,Tryz.ntmps34
   go_wp2
   go_ret
   exact ⟨Xi (by simp[inB,h1,h2]),rfl⟩
  ·go_enter Tryz.func34,Tryz.ntmps34
   go_wp2
   go_ret
   exact ⟨Xi (by simp[inB,h1];omega),rfl⟩
 ·go_enter Tryz.func34,Tryz.ntmps34
  go_wp2
  go_ret
  exact ⟨Xi (by simp[inB];omega),rfl⟩
def low (s:ByteArray) (k:Nat):Prop:=∀j (h:j<s.size),j<k->s[j].toNat<=127
theorem Xey {s:ByteArray} (h:low s s.size):Z4 s=decide (s.size<=60):=by
 unfold Z4
 rw[show (s.data.toList.all fun c=>decide (c.toNat<=127))=true from ?_,Bool.and_true]
 rw[List.all_eq_true]
 intro c d
 obtain ⟨j,f,rfl⟩:=List.getElem_of_mem d
 have b:j<s.size:=by simpa using f
 exact decide_eq_true (h j b b)
theorem Xig {s:ByteArray} {k:Nat} (hk:k<s.size) (h:127<s[k].toNat):Z4 s=false:=by
 unfold Z4
 rw[show (s.data.toList.all fun c=>decide (c.toNat<=127))=false from ?_,Bool.and_false]
 rw[List.all_eq_false]
 exact ⟨s[k],by rw[show s[k]=s.data.toList[k]'(by simpa using hk) from rfl];exact List.getElem_mem _,by simp;omega⟩
theorem Xnl {s:ByteArray} {k:Nat} (hk:k<s.size) (h:low s k) (h1:s[k].toNat<=127):low s (k+1):=by
 intro j b c
 by_cases e:j=k
 ·subst e;exact h1
 ·exact h j b (by omega)
theorem Ux (s:ByteArray) (w:World) (hs:s.size<=140737488355328):
  Calls Tryz.prog 127 #[.string s] w fun e w'=>e= .returned (.bool (Z4 s))/\w'=w:=by
 go_enter Tryz.func127,Tryz.ntmps127
 go_wp2
 go_loop [3] (fun i=>∃k:Nat,k<=s.size/\i= .int .i64 k/\low s k) (fun i=>s.size-(intOf i).toNat)
 case atStart=>exact ⟨0,Nat.zero_le _,rfl,fun j _ h=>by omega⟩
 case round=>
  obtain ⟨k,d,rfl,b⟩:=hrel
  by_cases hlt:k<s.size
  ·by_cases hc:s[k].toNat<=127
   ·have H:Hid (low s (k+1)):=Xnl hlt b hc
    have c:¬(127:Int)<(s[k].toNat:Int):=by omega
    go_wp2
    go_round
    case rel=>exact ⟨k+1,by omega,by go_num,H.out⟩
    case measure=>simp[intOf];omega
   ·have c:(127:Int)<(s[k].toNat:Int):=by omega
    have H:Hid (Z4 s=false):=Xig hlt (by omega)
    go_wp2
    go_ret
    exact ⟨Xi H.out.symm,rfl⟩
  ·obtain rfl:k=s.size:=by omega
   have H:Hid (Z4 s=decide (s.size<=60)):=Xey b
   go_wp2
   go_ret
   exact ⟨Xi (by rw[H.out];simp;omega),rfl⟩
theorem Xtn (B:Nat) (x:VN) (ka ki:Value) (w:World) (h:NodeIn B w x ka ki) (hB:B<=w.heap.size) (hk:x.kind=1):
  Calls Tryz.prog 68 #[.agg #[.int .i64 x.kind, .int .i64 x.n, .string x.s,ka,ki]] w fun e w'=>e= .returned (.bool (Xz x))/\Below w.heap.size w w':=by
 have b:=h.size
 obtain ⟨_,_,f,c1,c,_⟩:=h.keys
 obtain ⟨_,_,g,j,d,_⟩:=h.kids
 subst c d
 clear h hB
 go_enter Tryz.func68,Tryz.ntmps68
 go_wp2_with fail
 all_goals
  go_ret
  refine ⟨Xi ?_,(Below.refl _ _).alloc (Nat.le_refl _) _⟩
  simp[Xz,Yr,Zi,Xe3, *]
theorem Xto (B:Nat) (x:VN) (ka ki:Value) (w:World) (h:NodeIn B w x ka ki) (hB:B<=w.heap.size) (hk:x.kind=5):
  Calls Tryz.prog 68 #[.agg #[.int .i64 x.kind, .int .i64 x.n, .string x.s,ka,ki]] w fun e w'=>e= .returned (.bool (Xz x))/\Below w.heap.size w w':=by
 have b:=h.size
 obtain ⟨_,_,f,c1,c,_⟩:=h.keys
 obtain ⟨_,_,g,j,d,_⟩:=h.kids
 subst c d
 clear h hB
 go_enter Tryz.func68,Tryz.ntmps68
 go_wp2_with fail
 all_goals
  go_ret
  refine ⟨Xi ?_,(Below.refl _ _).alloc (Nat.le_refl _) _⟩
  simp[Xz,Yr,Zi,Xe3, *]
theorem Xtp (B:Nat) (x:VN) (ka ki:Value) (w:World) (h:NodeIn B w x ka ki) (hB:B<=w.heap.size) (g1:¬x.kind=1) (g2:¬x.kind=2) (g3:¬x.kind=3) (g4:¬x.kind=4) (g5:¬x.kind=5) (g6:¬x.kind=6):
  Calls Tryz.prog 68 #[.agg #[.int .i64 x.kind, .int .i64 x.n, .string x.s,ka,ki]] w fun e w'=>e= .returned (.bool (Xz x))/\Below w.heap.size w w':=by
 have b:=h.size
 obtain ⟨_,_,q,c1,c,_⟩:=h.keys
 obtain ⟨_,_,t,y,d,_⟩:=h.kids
 subst c d
 clear h hB
 have z:(x.kind==1)=false:=by simpa using g1
 have C:(x.kind==2)=false:=by simpa using g2
 have D:(x.kind==3)=false:=by simpa using g3
 have F:(x.kind==4)=false:=by simpa using g4
 have G:(x.kind==5)=false:=by simpa using g5
 have J:(x.kind==6)=false:=by simpa using g6
 have f:Hid (¬x.kind=1):=g1
 have g:Hid (¬x.kind=2):=g2
 have j:Hid (¬x.kind=3):=g3
 have l:Hid (¬x.kind=4):=g4
 have o:Hid (¬x.kind=5):=g5
 have p:Hid (¬x.kind=6):=g6
 clear g1 g2 g3 g4 g5 g6
 go_enter Tryz.func68,Tryz.ntmps68
 go_wp2_with fail
 all_goals
  go_ret
  refine ⟨Xi ?_,(Below.refl _ _).alloc (Nat.le_refl _) _⟩
  simp[Xz,Zi,f.out,g.out,j.out,l.out,o.out,p.out]
theorem X39 (n:Int):(decide (n=0)||decide (n=1))=inB n 0 1:=by
 rw[Bool.eq_iff_iff];simp[inB];omega
theorem Xtq (B:Nat) (x:VN) (ka ki:Value) (w:World) (h:NodeIn B w x ka ki) (hB:B<=w.heap.size) (hk:x.kind=2):
  Calls Tryz.prog 68 #[.agg #[.int .i64 x.kind, .int .i64 x.n, .string x.s,ka,ki]] w fun e w'=>e= .returned (.bool (Xz x))/\Below w.heap.size w w':=by
 have b:=h.size
 obtain ⟨_,_,f,c1,c,_⟩:=h.keys
 obtain ⟨_,_,g,j,d,_⟩:=h.kids
 subst c d
 clear h hB
 go_enter Tryz.func68,Tryz.ntmps68
 go_wp2_with (go_at_call 34;refine (Vx _ _ _ _).mono ?_;rintro e w' ⟨rfl,rfl⟩)
 all_goals
  go_ret
  refine ⟨Xi ?_,(Below.refl _ _).alloc (Nat.le_refl _) _⟩
  simp[Xz,Yr,Zi,Xe3,X39, *]
theorem Xtr (B:Nat) (x:VN) (ka ki:Value) (w:World) (h:NodeIn B w x ka ki) (hB:B<=w.heap.size) (hk:x.kind=3):
  Calls Tryz.prog 68 #[.agg #[.int .i64 x.kind, .int .i64 x.n, .string x.s,ka,ki]] w fun e w'=>e= .returned (.bool (Xz x))/\Below w.heap.size w w':=by
 have b:=h.size
 obtain ⟨_,_,g,c1,c,_⟩:=h.keys
 obtain ⟨_,_,j,l,d,_⟩:=h.kids
 subst c d
 clear h hB
 go_enter Tryz.func68,Tryz.ntmps68
 go_wp2_with (go_at_call 34;refine (Vx _ _ _ _).mono ?_;rintro e w' ⟨rfl,rfl⟩)
 all_goals
  go_ret
  refine ⟨Xi ?_,(Below.refl _ _).alloc (Nat.le_refl _) _⟩
  have f:(decide (-1000000000000000<=x.n)&&decide (x.n<=1000000000000000))=inB x.n (-1000000000000000) 1000000000000000:=rfl
  simp[Xz,Yr,Zi,Xe3,f, *]
theorem Xts (B:Nat) (x:VN) (ka ki:Value) (w:World) (h:NodeIn B w x ka ki) (hB:B<=w.heap.size) (hk:x.kind=4):
  Calls Tryz.prog 68 #[.agg #[.int .i64 x.kind, .int .i64 x.n, .string x.s,ka,ki]] w fun e w'=>e= .returned (.bool (Xz x))/\Below w.heap.size w w':=by
 have b:=h.size
 obtain ⟨_,_,f,c1,c,_⟩:=h.keys
 obtain ⟨_,_,g,j,d,_⟩:=h.kids
 subst c d
 clear h hB
 go_enter Tryz.func68,Tryz.ntmps68
 go_wp2_with (go_at_call 127;refine (Ux _ _ b).mono ?_;rintro e w' ⟨rfl,rfl⟩)
 all_goals
  go_ret
  refine ⟨Xi ?_,(Below.refl _ _).alloc (Nat.le_refl _) _⟩
  simp[Xz,Yr,Zi,Xe3, *]


theorem Xev (B:Nat) (v1 v2:Value) (l:List Int) (w:World) (h1:IntsAt B w v1 l) (h2:IntsAt B w v2 l) (hB:B<=w.heap.size):
  Calls Tryz.prog 92 #[v1,v2] w fun e w'=>e= .returned (.bool true)/\Below w.heap.size w w':=by
 obtain ⟨j,_,G,p,rfl,b⟩:=h1
 obtain ⟨_,_,J,q,rfl,c⟩:=h2
 have s:((l.length:Int) !=(l.length:Int))=false:=by simp
 go_enter Tryz.func92,Tryz.ntmps92
 go_wp2_with fail
 go_loopw [5] (fun i wr=>∃k:Nat,k<=l.length/\i= .int .i64 k/\Below w.heap.size w wr) (fun i _=>l.length-(intOf i).toNat)
 case atStart=>exact ⟨0,Nat.zero_le _,rfl,Below.refl _ _⟩
 case round=>
  obtain ⟨k,L,rfl,d⟩:=hrel
  by_cases hlt:k<l.length
  ·obtain ⟨t,y,rfl,z,f⟩:=b (by omega)
   obtain ⟨C,D,rfl,F,g⟩:=c (by omega)
   have M:=(Xc (o:=y+k) d (show t<w.heap.size by omega)).trans (f k hlt)
   have P:=(Xc (o:=D+k) d (show C<w.heap.size by omega)).trans (g k hlt)
   clear f g b c
   go_wp2_with fail
   go_quiet (fail)
   go_wp2_with fail
   go_roundw
   case rel=>exact ⟨k+1,by omega,by go_num,below_drewN d nq⟩
   case measure=>simp[intOf];omega
  ·go_wp2_with fail
   go_ret
   exact ⟨rfl,d⟩
theorem Xd9 (B:Nat) (v1 v2:Value) (l:List ByteArray) (w:World) (h1:StrsAt B w v1 l) (h2:StrsAt B w v2 l) (hB:B<=w.heap.size):
  Calls Tryz.prog 91 #[v1,v2] w fun e w'=>e= .returned (.bool true)/\Below w.heap.size w w':=by
 obtain ⟨j,_,G,p,rfl,b⟩:=h1
 obtain ⟨_,_,J,q,rfl,c⟩:=h2
 have s:((l.length:Int) !=(l.length:Int))=false:=by simp
 go_enter Tryz.func91,Tryz.ntmps91
 go_wp2_with fail
 go_loopw [5] (fun i wr=>∃k:Nat,k<=l.length/\i= .int .i64 k/\Below w.heap.size w wr) (fun i _=>l.length-(intOf i).toNat)
 case atStart=>exact ⟨0,Nat.zero_le _,rfl,Below.refl _ _⟩
 case round=>
  obtain ⟨k,L,rfl,d⟩:=hrel
  by_cases hlt:k<l.length
  ·obtain ⟨t,y,rfl,z,f⟩:=b (by omega)
   obtain ⟨C,D,rfl,F,g⟩:=c (by omega)
   have M:=(Xc (o:=y+k) d (show t<w.heap.size by omega)).trans (f k hlt)
   have P:=(Xc (o:=D+k) d (show C<w.heap.size by omega)).trans (g k hlt)
   clear f g b c
   go_wp2_with fail
   go_quiet (fail)
   go_wp2_with fail
   go_roundw
   case rel=>exact ⟨k+1,by omega,by go_num,below_drewN d nq⟩
   case measure=>simp[intOf];omega
  ·go_wp2_with fail
   go_ret
   exact ⟨rfl,d⟩
theorem Xqs (B:Nat) (x:VN) (ka ki ka' ki':Value) (w:World) (h:NodeIn B w x ka ki) (h':NodeIn B w x ka' ki') (hB:B<=w.heap.size):
  Calls Tryz.prog 46 #[.agg #[.int .i64 x.kind, .int .i64 x.n, .string x.s,ka,ki], .agg #[.int .i64 x.kind, .int .i64 x.n, .string x.s,ka',ki']] w fun e w'=>e= .returned (.bool true)/\Below w.heap.size w w':=by
 obtain ⟨_,_,F,c1,t,_⟩:=h.keys
 obtain ⟨_,_,G,J,y,_⟩:=h.kids
 obtain ⟨_,_,L,M,z,_⟩:=h'.keys
 obtain ⟨_,_,P,R,C,_⟩:=h'.kids
 have H:Hid (NodeIn B w x ka ki):=h
 have l:Hid (NodeIn B w x ka' ki'):=h'
 have S:(x.kind !=x.kind)=false:=by simp
 have T:(x.n !=x.n)=false:=by simp
 have V:(x.s.toList==x.s.toList)=true:=by simp
 subst t y z C
 clear h h'
 have c:∀(o o':Obj),Below w.heap.size w ((w.alloc o).alloc o'):=fun o o'=>((Below.refl _ _).alloc (Nat.le_refl _) _).alloc (by simp) _
 go_enter Tryz.func46,Tryz.ntmps46
 go_wp2_with fail
 refine (Xd9 B _ _ x.keys _ (H.out.keys.below ((c _ _).mono hB)) (l.out.keys.below ((c _ _).mono hB)) (by simp;omega)).mono ?_
 rintro e q ⟨rfl,d⟩
 have D:∀b o,b<w.heap.size+1+1->q.cell? ⟨b,o,none⟩=_:=fun b o h=>d.cell (p:=⟨b,o,none⟩) (by simpa using h)
 have g:=d.size
 simp only[World.size_alloc] at g
 have f:Below w.heap.size w q:=(c _ _).trans (d.mono (by simp;omega))
 go_wp2_with fail
 refine (Xev B _ _ x.kids _ (H.out.kids.below (f.mono hB)) (l.out.kids.below (f.mono hB)) (by omega)).mono ?_
 rintro e X ⟨rfl,j⟩
 go_wp2_with fail
 go_ret
 exact ⟨rfl,f.trans (j.mono (by omega))⟩
theorem Xbo (B:Nat) (v1 v2:Value) (vs:List VN) (w:World) (h1:NodesAt B w v1 vs) (h2:NodesAt B w v2 vs) (hB:B<=w.heap.size):
  Calls Tryz.prog 17 #[v1,v2] w fun e w'=>e= .returned (.bool true)/\Below w.heap.size w w':=by
 obtain ⟨D,T,F,rfl,c⟩:=h1
 obtain ⟨_,V,G,rfl,d⟩:=h2
 have L:((vs.length:Int) !=(vs.length:Int))=false:=by simp
 go_enter Tryz.func17,Tryz.ntmps17
 go_wp2_with fail
 go_loopw [5] (fun i wr=>∃k:Nat,k<=vs.length/\i= .int .i64 k/\Below w.heap.size w wr) (fun i _=>vs.length-(intOf i).toNat)
 case atStart=>exact ⟨0,Nat.zero_le _,rfl,Below.refl _ _⟩
 case round=>
  obtain ⟨k,X,rfl,b⟩:=hrel
  by_cases hlt:k<vs.length
  ·obtain ⟨Y,Z,rfl,t,o⟩:=c (by omega)
   obtain ⟨b2,o2,rfl,f,p⟩:=d (by omega)
   obtain ⟨M,P,J⟩:=o k hlt
   obtain ⟨y,z,q⟩:=p k hlt
   have g:=J.below (b.mono hB) t
   have j:=q.below (b.mono hB) f
   have c0:=g.c0
   have c1:=g.c1
   have c2:=g.c2
   have c3:=g.c3
   have c4:=g.c4
   have d0:=j.c0
   have d1:=j.c1
   have d2:=j.c2
   have d3:=j.c3
   have d4:=j.c4
   have C:=g.inn
   have s:=j.inn
   have l:=b.size
   clear o p c d J q g j
   go_wp2_with fail
   go_region_with (go_at_call 46;refine (Xqs B (Xb vs k) M P y z _ ?_ ?_ ?_).mono ?_;exact C.below (W9 rfl rfl rfl rfl);exact s.below (W9 rfl rfl rfl rfl);exact (by simp;omega);rintro e R ⟨rfl,S⟩)
   all_goals
    have f:Below w.heap.size w R:=b.drew.trans (S.mono (by simpa using l))
    go_wp2_with fail
    go_roundw
    case rel=>exact ⟨k+1,by omega,by go_num,f⟩
    case measure=>simp[intOf];omega
  ·go_wp2_with fail
   go_ret
   exact ⟨rfl,b⟩
end Go.Proofs.YtdjddneidbddpaaGreatDoor
