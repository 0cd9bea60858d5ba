import Derived.Test.YtdjddneidbddpaaGreatDoorGrw
import Derived.Test.YtdjddneidbddpaaGreatDoorSSort
import Derived.Test.YtdjddneidbddpaaGreatDoorPsZ
import Derived.Test.YtdjddneidbddpaaGreatDoorCln
namespace Go.Proofs.YtdjddneidbddpaaGreatDoor
set_option linter.unusedSectionVars false
set_option maxHeartbeats 3200000
open Go.RowKit
set_option linter.unusedSimpArgs false
set_option linter.unusedVariables false
set_option maxRecDepth 100000 in
theorem X19 (n:Nat) (w:World) (hn:n≤4000):
  Calls Tryz.prog 199 #[.slice none 0 0, .int .i64 n] w fun e w'=>∃r,e= .returned r∧w'.ownsRow w.heap.size 52 1 r 0 []∧Below w.heap.size w w':=by
 obtain ⟨i0,hi0,hz0,hs0,hy0⟩:=info_parts Xbr
 rcases Nat.eq_zero_or_pos n with e0|e0
 ·subst e0
  have h:Calls Tryz.prog 199 #[.slice none 0 0, .int .i64 (0:Nat)] w _:=Any8.slices_Grow_room Tryz.growV none 0 0 0 w (Nat.le_refl _) (by omega) (by omega) (by omega)
  refine h.mono ?_
  rintro e w' ⟨rfl,rfl⟩
  exact ⟨_,rfl,World.ownsRow_nil _ _ _ _,Below.refl _ _⟩
 ·have h:Calls Tryz.prog 199 #[.slice none 0 0, .int .i64 n] w _:=Any8.slices_Grow_grow Tryz.growV i0 .nilIface hi0 hz0 (by omega) none 0 0 n [] w (Nat.le_refl _) (by omega) (by rw[hy0];omega) (by omega) (by simp) (fun _=>rfl) (fun a h=>by cases h)
  refine h.mono ?_
  rintro e w' ⟨rfl,rfl⟩
  have hge:=grownCap_ge w (0+n) 0 52
  have hle:=grownCap_le_maxLen w (0+n) 0 52 (by unfold maxLen;omega)
  refine ⟨_,rfl,World.ownsRow_made (base:=w.heap.size) (e:=52) (size:=1) w.drew _ _ (Nat.le_refl _) hle ?_,((Below.refl w.heap.size w).drew).alloc (Nat.le_refl _) _⟩
  have h1:(Value.nilIface).cells.size=1:=rfl
  have hge':0+n≤grownCap w (0+n) 0 (Tryz.growV_ren.t 25):=hge
  rw[Array.size_append,Array.size_append,size_zeroCells,size_zeroCells,h1]
  simp
  simp at hge'
  omega
theorem Xh6 {w w':World} {b:Option Addr} {m cap:Nat} {V:Nat→Value} (h:ValsAt w (.slice b m cap) m V) (hb:Below w.heap.size w w'):0<m→∃ad,b=some ad∧∀j u,((List.range m).map V)[j]? =some u→w'.cell? (ad.add j)=some u:=by
 intro hp
 obtain ⟨a,c,e,hc,hi⟩:=h
 cases e
 obtain ⟨g,rfl,hg,hcc⟩:=hc hp
 refine ⟨_,rfl,fun j u hj=> ?_⟩
 have hj':j<m:=by have:=(List.getElem?_eq_some_iff.1 hj).1;simpa using this
 rw[show (⟨g,0,none⟩:Addr).add j=⟨g,j,none⟩ by simp[Addr.add];omega,Xc hb hg,hcc j hj']
 simpa [hj'] using hj
theorem Xh7 {w:World} {it:Value} {m:Nat} {V:Nat→Value} (h:ValsAt w it m V):∀u∈(List.range m).map V,u.oneCell'=true:=by
 intro u hu
 obtain ⟨j,hj,rfl⟩:=List.mem_map.1 hu
 obtain ⟨a,c,e,hc,hi⟩:=h
 obtain ⟨t,x,ex⟩:=hi j (by simpa using hj)
 rw[ex];rfl
set_option maxRecDepth 100000 in
theorem Xvu (b:Nat) (it it':Value) (m m':Nat) (V V':Nat→Value) (w:World) (hv:ValsAt w it m V) (hv':ValsAt w it' m' V') (hm:m≤1000) (hm':m'≤1000) (c0:w.cell? ⟨b,0,none⟩=some it) (c1:w.cell? ⟨b,1,none⟩=some it') (hb:b<w.heap.size):
  Calls Tryz.prog 190 #[.slice (some ⟨b,0,none⟩) 2 2] w fun e w'=>∃r,e= .returned r∧w'.ownsRow w.heap.size 52 1 r (m+m') ((List.range m).map V++(List.range m').map V')∧Below w.heap.size w w':=by
 have HV:=Xa hv
 have HV':=Xa hv'
 have C0:=Xa c0
 have C1:=Xa c1
 obtain ⟨i0,hi0,hz0,hs0,hy0⟩:=info_parts Xbr
 obtain ⟨a1,k1,rfl,_,_⟩:=hv
 obtain ⟨a2,k2,rfl,_,_⟩:=hv'
 go_enter Tryz.func190,Tryz.ntmps190
 go_wp2_with fail
 go_loop [3,5,11] (fun sz _ i=>(i= .int .i64 0∧sz= .int .i64 0)∨(i= .int .i64 1∧sz= .int .i64 (m:Nat))∨(i= .int .i64 2∧sz= .int .i64 ((m:Int)+(m':Int)))) (fun _ _ i=>2-(intOf i).toNat)
 case atStart=>exact Or.inl ⟨rfl,rfl⟩
 case round=>
  rcases hrel with ⟨rfl,rfl⟩|⟨rfl,rfl⟩|⟨rfl,rfl⟩
  ·go_wp2_with fail
   exact ⟨Or.inr (Or.inl ⟨rfl,rfl⟩),by simp[intOf]⟩
  ·have h0:¬((m:Int)+(m':Int)<0):=by omega
   go_wp2_with fail
   exact ⟨Or.inr (Or.inr ⟨rfl,rfl⟩),by simp[intOf]⟩
  ·have HG:=Xa (X19 (m+m') w (by omega))
   rw[show (((m+m':Nat):Nat):Int)=(m:Int)+(m':Int) by omega] at HG
   clear c0 c1
   go_wp2_with fail
   refine HG.out.mono ?_
   rintro e w1 ⟨r,rfl,hown,hb1⟩
   have HO:=Xa hown
   have HB1:=Xa hb1
   obtain ⟨ar,cr,er⟩:=Xj hown
   subst er
   clear hown hb1
   go_wp2_with fail
   go_loopw [6,8,27] (fun o _ i wr=>Hid (Below w.heap.size w wr)∧((i= .int .i64 0∧Hid (wr.ownsRow w.heap.size 52 1 o 0 []))∨(i= .int .i64 1∧Hid (wr.ownsRow w.heap.size 52 1 o m ((List.range m).map V)))∨(i= .int .i64 2∧Hid (wr.ownsRow w.heap.size 52 1 o (m+m') ((List.range m).map V++(List.range m').map V'))))) (fun _ _ i _=>2-(intOf i).toNat)
   case atStart=>exact ⟨HB1,Or.inl ⟨rfl,HO⟩⟩
   case round=>
    obtain ⟨HB,hrel⟩:=hrel
    have zs:=HB.out.size
    rcases hrel with ⟨rfl,HR⟩|⟨rfl,HR⟩|⟨rfl,HR⟩
    ·obtain ⟨ao,co,eo⟩:=Xj HR.out
     subst eo
     have x0:wr.cell? ⟨b,0,none⟩=some (.slice a1 m k1):=(Xc HB.out hb).trans C0.out
     have HSRC:=Xa (Xh6 HV.out HB.out)
     go_wp2_with (at_builtin;refine Ye rfl _ _ 58 rfl w.heap.size 52 i0 .nilIface 1 16 Tryz.underlying58 hi0 hz0 hs0 hy0 rfl (by decide) _ 0 [] rfl HR.out a1 m k1 ((List.range m).map V) rfl (by simp) HSRC.out (Xh7 HV.out) ?c3 ?c4 ?c5 ?_)
     case c3=>unfold maxLen;omega
     case c4=>omega
     case c5=>exact zs
     intro v' w5 hown hgrow _
     have HR5:Hid (w5.ownsRow w.heap.size 52 1 v' m ((List.range m).map V)):=by simpa [Hid] using hown
     have HB5:Hid (Below w.heap.size w w5):=HB.out.grown hgrow zs (fun y hy=>(HR.out.lt y hy).1)
     obtain ⟨av,cv,ev⟩:=Xj HR5.out
     subst ev
     clear hown hgrow
     go_wp2_with fail
     go_roundw
     case rel=>exact ⟨HB5,Or.inr (Or.inl ⟨rfl,HR5⟩)⟩
     case measure=>simp[intOf]
    ·obtain ⟨ao,co,eo⟩:=Xj HR.out
     subst eo
     have x1:wr.cell? ⟨b,1,none⟩=some (.slice a2 m' k2):=(Xc HB.out hb).trans C1.out
     have HSRC:=Xa (Xh6 HV'.out HB.out)
     go_wp2_with (at_builtin;refine Ye rfl _ _ 58 rfl w.heap.size 52 i0 .nilIface 1 16 Tryz.underlying58 hi0 hz0 hs0 hy0 rfl (by decide) _ m _ rfl HR.out a2 m' k2 ((List.range m').map V') rfl (by simp) HSRC.out (Xh7 HV'.out) ?c3 ?c4 ?c5 ?_)
     case c3=>unfold maxLen;omega
     case c4=>omega
     case c5=>exact zs
     intro v' w5 hown hgrow _
     have HR5:=Xa hown
     have HB5:Hid (Below w.heap.size w w5):=HB.out.grown hgrow zs (fun y hy=>(HR.out.lt y hy).1)
     obtain ⟨av,cv,ev⟩:=Xj hown
     subst ev
     clear hown hgrow
     go_wp2_with fail
     go_roundw
     case rel=>exact ⟨HB5,Or.inr (Or.inr ⟨rfl,HR5⟩)⟩
     case measure=>simp[intOf]
    ·obtain ⟨ao,co,eo⟩:=Xj HR.out
     subst eo
     go_wp2_with fail
     go_ret
     exact ⟨_,rfl,HR.out,HB.out⟩

set_option maxRecDepth 100000 in
theorem Xf8 (v:Value) (m:Nat) (V:Nat→Value) (w:World) (h:ValsAt w v m V) (hm:m≤1000):
  Calls Tryz.prog 144 #[v] w fun e w'=>∃r,e= .returned r∧w'.ownsRow w.heap.size 52 1 r m ((List.range m).map V)∧Below w.heap.size w w':=by
 have HV:=Xa h
 obtain ⟨a,cap,rfl,hc,_⟩:=h
 have HC:=Xa hc
 clear hc
 obtain ⟨i0,hi0,hz0,hs0,hy0⟩:=info_parts Xbr
 cases a with
 | none =>
  have h0:m=0:=by
   rcases Nat.eq_zero_or_pos m with e|e
   ·exact e
   ·obtain ⟨b,e2,_⟩:=HC.out e
    cases e2
  subst h0
  clear HC HV
  have hnil:=fun w=>Lib.run_eql_slice_nil (P:=Tryz.prog) w 58 52 none 0 cap 0 0 Tryz.underlying58
  go_enter Tryz.func144,Tryz.ntmps144
  go_wp2_with fail
  go_ret
  exact ⟨.slice none 0 0,rfl,World.ownsRow_nil _ _ _ _,Below.refl _ _⟩
 | some ad =>
  have HOWN:Hid ((w.alloc (.cells #[] 52)).ownsRow w.heap.size 52 1 (.slice (some ⟨w.heap.size,0,none⟩) 0 0) 0 []):=by
   have:=World.ownsRow_lit (base:=w.heap.size) (e:=52) (size:=1) w #[] 0 (Nat.le_refl _) (by simp[maxLen]) rfl
   simpa [Hid] using this
  have hw1:Below w.heap.size w (w.alloc (.cells #[] 52)):=(Below.refl _ _).alloc (Nat.le_refl _) _
  have HSRC:=Xa (Xh6 HV.out hw1)
  have HW1:=Xa hw1
  clear hw1
  have hnil:=fun w=>Lib.run_eql_slice_nil (P:=Tryz.prog) w 58 52 (some ad) m cap 0 0 Tryz.underlying58
  go_enter Tryz.func144,Tryz.ntmps144
  go_wp2_with (at_builtin;refine Ye rfl _ _ 58 rfl w.heap.size 52 i0 .nilIface 1 16 Tryz.underlying58 hi0 hz0 hs0 hy0 rfl (by decide) _ 0 [] rfl HOWN.out (some ad) m cap ((List.range m).map V) rfl (by simp) HSRC.out (Xh7 HV.out) ?c3 ?c4 ?c5 ?_)
  case c3=>unfold maxLen;omega
  case c4=>omega
  case c5=>simp
  intro v' w2 hk2 hg2 hat2
  (try simp only[Nat.zero_add,List.nil_append] at hk2)
  have hb2:Below w.heap.size w w2:=HW1.out.grown hg2 (by simp) (fun r hr=>by simp[Value.ownBlock] at hr;omega)
  obtain ⟨ar,cr,er⟩:=Xj hk2
  subst er
  clear hg2 hat2
  go_wp2_with fail
  go_ret
  exact ⟨_,rfl,hk2,hb2⟩
end Go.Proofs.YtdjddneidbddpaaGreatDoor
