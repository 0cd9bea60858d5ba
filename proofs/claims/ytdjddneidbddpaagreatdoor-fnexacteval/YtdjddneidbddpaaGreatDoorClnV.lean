import Derived.Test.YtdjddneidbddpaaGreatDoorGrw
import Derived.Test.YtdjddneidbddpaaGreatDoorIMinA
import Derived.Test.YtdjddneidbddpaaGreatDoorPsZ
import Derived.Test.YtdjddneidbddpaaGreatDoorCln
namespace Go.Proofs.YtdjddneidbddpaaGreatDoor
set_option linter.unusedSectionVars false
set_option maxRecDepth 100000
set_option maxHeartbeats 3200000
open Go.RowKit
set_option linter.unusedSimpArgs false
set_option linter.unusedVariables false
theorem X11 (n:Nat) (w:World) (hn:n<=4000):
  Calls Tryz.prog 199 #[.slice none 0 0, .int .i64 n] w fun e w'=>∃r,e= .returned r/\w'.ownsRow w.heap.size 52 1 r 0 []/\Below w.heap.size w w':=by
 obtain ⟨l,c,d,o,f⟩:=info_parts Xbb
 rcases Nat.eq_zero_or_pos n with e0|e0
 ·subst e0
  have h:Calls Tryz.prog 199 #[.slice none 0 0, .int .i64 (0:Nat)] w _:=Any8.slices_Grow_room Tryz.growV none 0 0 0 w (Nat.le_refl _) (by omega) (by omega) (by omega)
  refine h.mono ?_
  rintro e w' ⟨rfl,rfl⟩
  exact ⟨_,rfl,World.ownsRow_nil _ _ _ _,Below.refl _ _⟩
 ·have h:Calls Tryz.prog 199 #[.slice none 0 0, .int .i64 n] w _:=Any8.slices_Grow_grow Tryz.growV l .nilIface c d (by omega) none 0 0 n [] w (Nat.le_refl _) (by omega) (by rw[f];omega) (by omega) (by simp) (fun _=>rfl) (fun a h=>by cases h)
  refine h.mono ?_
  rintro e w' ⟨rfl,rfl⟩
  have g:=grownCap_ge w (0+n) 0 52
  have j:=grownCap_le_maxLen w (0+n) 0 52 (by unfold maxLen;omega)
  refine ⟨_,rfl,World.ownsRow_made (base:=w.heap.size) (e:=52) (size:=1) w.drew _ _ (Nat.le_refl _) j ?_,((Below.refl w.heap.size w).drew).alloc (Nat.le_refl _) _⟩
  have p:(Value.nilIface).cells.size=1:=rfl
  have b:0+n<=grownCap w (0+n) 0 (Tryz.growV_ren.t 25):=g
  rw[Array.size_append,Array.size_append,size_zeroCells,size_zeroCells,p]
  simp
  simp at b
  omega
theorem Xhp {w w':World} {b:Option Addr} {m cap:Nat} {V:Nat->Value} (h:ValsAt w (.slice b m cap) m V) (hb:Below w.heap.size w w'):0<m->∃ad,b=some ad/\∀j u,((List.range m).map V)[j]? =some u->w'.cell? (ad.add j)=some u:=by
 intro l
 obtain ⟨a,c,e,o,q⟩:=h
 cases e
 obtain ⟨g,rfl,p,f⟩:=o l
 refine ⟨_,rfl,fun j u hj=> ?_⟩
 have d:j<m:=by have:=(List.getElem?_eq_some_iff.1 hj).1;simpa using this
 rw[show (⟨g,0,none⟩:Addr).add j=⟨g,j,none⟩ by simp[Addr.add];omega,Xc hb p,f j d]
 simpa [d] using hj
theorem Xhq {w:World} {it:Value} {m:Nat} {V:Nat->Value} (h:ValsAt w it m V):∀u∈(List.range m).map V,u.oneCell'=true:=by
 intro u b
 obtain ⟨j,d,rfl⟩:=List.mem_map.1 b
 obtain ⟨a,c,e,l,f⟩:=h
 obtain ⟨t,x,g⟩:=f j (by simpa using d)
 rw[g];rfl
theorem Xvb (b:Nat) (it it':Value) (m m':Nat) (V V':Nat->Value) (w:World) (hv:ValsAt w it m V) (hv':ValsAt w it' m' V') (hm:m<=1000) (hm':m'<=1000) (c0:w.cell? ⟨b,0,none⟩=some it) (c1:w.cell? ⟨b,1,none⟩=some it') (hb:b<w.heap.size):
  Calls Tryz.prog 190 #[.slice (some ⟨b,0,none⟩) 2 2] w fun e w'=>∃r,e= .returned r/\w'.ownsRow w.heap.size 52 1 r (m+m') ((List.range m).map V++(List.range m').map V')/\Below w.heap.size w w':=by
 have L:=Xa hv
 have p:=Xa hv'
 have C0:=Xa c0
 have C1:=Xa c1
 obtain ⟨M,q,s,t,z⟩:=info_parts Xbb
 obtain ⟨P,R,rfl,_,_⟩:=hv
 obtain ⟨S,T,rfl,_,_⟩:=hv'
 go_enter Tryz.func190,Tryz.ntmps190
 go_wp2_with fail
 go_loop [3,5,11] (fun sz _ i=>(i= .int .i64 0/\sz= .int .i64 0)\/(i= .int .i64 1/\sz= .int .i64 (m:Nat))\/(i= .int .i64 2/\sz= .int .i64 ((m:Int)+(m':Int)))) (fun _ _ i=>2-(intOf i).toNat)
 case atStart=>exact Or.inl ⟨rfl,rfl⟩
 case round=>
  rcases hrel with ⟨rfl,rfl⟩|⟨rfl,rfl⟩|⟨rfl,rfl⟩
  ·go_wp2_with fail
   exact ⟨Or.inr (Or.inl ⟨rfl,rfl⟩),by simp[intOf]⟩
  ·have h0:¬((m:Int)+(m':Int)<0):=by omega
   go_wp2_with fail
   exact ⟨Or.inr (Or.inr ⟨rfl,rfl⟩),by simp[intOf]⟩
  ·have X:=Xa (X11 (m+m') w (by omega))
   rw[show (((m+m':Nat):Nat):Int)=(m:Int)+(m':Int) by omega] at X
   clear c0 c1
   go_wp2_with fail
   refine X.out.mono ?_
   rintro e w1 ⟨r,rfl,c,B⟩
   have HO:=Xa c
   have G:=Xa B
   obtain ⟨ar,cr,er⟩:=Xg c
   subst er
   clear c B
   go_wp2_with fail
   go_loopw [6,8,27] (fun o _ i wr=>Hid (Below w.heap.size w wr)/\((i= .int .i64 0/\Hid (wr.ownsRow w.heap.size 52 1 o 0 []))\/(i= .int .i64 1/\Hid (wr.ownsRow w.heap.size 52 1 o m ((List.range m).map V)))\/(i= .int .i64 2/\Hid (wr.ownsRow w.heap.size 52 1 o (m+m') ((List.range m).map V++(List.range m').map V'))))) (fun _ _ i _=>2-(intOf i).toNat)
   case atStart=>exact ⟨G,Or.inl ⟨rfl,HO⟩⟩
   case round=>
    obtain ⟨j,hrel⟩:=hrel
    have D:=j.out.size
    rcases hrel with ⟨rfl,HR⟩|⟨rfl,HR⟩|⟨rfl,HR⟩
    ·obtain ⟨Y,Z,C⟩:=Xg HR.out
     subst C
     have x0:wr.cell? ⟨b,0,none⟩=some (.slice P m R):=(Xc j.out hb).trans C0.out
     have f:=Xa (Xhp L.out j.out)
     go_wp2_with (at_builtin;refine Yd rfl _ _ 58 rfl w.heap.size 52 M .nilIface 1 16 Tryz.underlying58 q s t z rfl (by decide) _ 0 [] rfl HR.out P m R ((List.range m).map V) rfl (by simp) f.out (Xhq L.out) ?c3 ?c4 ?c5 ?_)
     case c3=>unfold maxLen;omega
     case c4=>omega
     case c5=>exact D
     intro v' F c d _
     have g:Hid (F.ownsRow w.heap.size 52 1 v' m ((List.range m).map V)):=by simpa [Hid] using c
     have l:Hid (Below w.heap.size w F):=j.out.grown d D (fun y hy=>(HR.out.lt y hy).1)
     obtain ⟨av,cv,J⟩:=Xg g.out
     subst J
     clear c d
     go_wp2_with fail
     go_roundw
     case rel=>exact ⟨l,Or.inr (Or.inl ⟨rfl,g⟩)⟩
     case measure=>simp[intOf]
    ·obtain ⟨Y,Z,C⟩:=Xg HR.out
     subst C
     have x1:wr.cell? ⟨b,1,none⟩=some (.slice S m' T):=(Xc j.out hb).trans C1.out
     have f:=Xa (Xhp p.out j.out)
     go_wp2_with (at_builtin;refine Yd rfl _ _ 58 rfl w.heap.size 52 M .nilIface 1 16 Tryz.underlying58 q s t z rfl (by decide) _ m _ rfl HR.out S m' T ((List.range m').map V') rfl (by simp) f.out (Xhq p.out) ?c3 ?c4 ?c5 ?_)
     case c3=>unfold maxLen;omega
     case c4=>omega
     case c5=>exact D
     intro v' F c d _
     have g:=Xa c
     have l:Hid (Below w.heap.size w F):=j.out.grown d D (fun y hy=>(HR.out.lt y hy).1)
     obtain ⟨av,cv,J⟩:=Xg c
     subst J
     clear c d
     go_wp2_with fail
     go_roundw
     case rel=>exact ⟨l,Or.inr (Or.inr ⟨rfl,g⟩)⟩
     case measure=>simp[intOf]
    ·obtain ⟨Y,Z,C⟩:=Xg HR.out
     subst C
     go_wp2_with fail
     go_ret
     exact ⟨_,rfl,HR.out,j.out⟩


theorem Xft (v:Value) (m:Nat) (V:Nat->Value) (w:World) (h:ValsAt w v m V) (hm:m<=1000):
  Calls Tryz.prog 144 #[v] w fun e w'=>∃r,e= .returned r/\w'.ownsRow w.heap.size 52 1 r m ((List.range m).map V)/\Below w.heap.size w w':=by
 have q:=Xa h
 obtain ⟨a,c,rfl,D,_⟩:=h
 have F:=Xa D
 clear D
 obtain ⟨G,s,t,y,z⟩:=info_parts Xbb
 cases a with
 |none=>
  have J:m=0:=by
   rcases Nat.eq_zero_or_pos m with e|e
   ·exact e
   ·obtain ⟨b,L,_⟩:=F.out e
    cases L
  subst J
  clear F q
  have g:=fun w=>Lib.run_eql_slice_nil (P:=Tryz.prog) w 58 52 none 0 c 0 0 Tryz.underlying58
  go_enter Tryz.func144,Tryz.ntmps144
  go_wp2_with fail
  go_ret
  exact ⟨.slice none 0 0,rfl,World.ownsRow_nil _ _ _ _,Below.refl _ _⟩
 |some ad=>
  have j:Hid ((w.alloc (.cells #[] 52)).ownsRow w.heap.size 52 1 (.slice (some ⟨w.heap.size,0,none⟩) 0 0) 0 []):=by
   have:=World.ownsRow_lit (base:=w.heap.size) (e:=52) (size:=1) w #[] 0 (Nat.le_refl _) (by simp[maxLen]) rfl
   simpa [Hid] using this
  have d:Below w.heap.size w (w.alloc (.cells #[] 52)):=(Below.refl _ _).alloc (Nat.le_refl _) _
  have l:=Xa (Xhp q.out d)
  have B:=Xa d
  clear d
  have g:=fun w=>Lib.run_eql_slice_nil (P:=Tryz.prog) w 58 52 (some ad) m c 0 0 Tryz.underlying58
  go_enter Tryz.func144,Tryz.ntmps144
  go_wp2_with (at_builtin;refine Yd rfl _ _ 58 rfl w.heap.size 52 G .nilIface 1 16 Tryz.underlying58 s t y z rfl (by decide) _ 0 [] rfl j.out (some ad) m c ((List.range m).map V) rfl (by simp) l.out (Xhq q.out) ?c3 ?c4 ?c5 ?_)
  case c3=>unfold maxLen;omega
  case c4=>omega
  case c5=>simp
  intro S M f o p
  (try simp only[Nat.zero_add,List.nil_append] at f)
  have C:Below w.heap.size w M:=B.out.grown o (by simp) (fun r hr=>by simp[Value.ownBlock] at hr;omega)
  obtain ⟨T,X,R⟩:=Xg f
  subst R
  clear o p
  go_wp2_with fail
  go_ret
  exact ⟨_,rfl,f,C⟩
end Go.Proofs.YtdjddneidbddpaaGreatDoor
